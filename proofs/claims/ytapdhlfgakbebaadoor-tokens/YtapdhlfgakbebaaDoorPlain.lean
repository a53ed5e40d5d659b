/-
  What the lexer's texts say, in plain words over lists of bytes: gaps, tokens, the row of tokens. No program is named here.
-/
import GoSem.Claim
namespace Go.Proofs.YtapdhlfgakbebaaDoor.Lx

/-- The set of a rune, as a number. -/
def setOf (c : Int) : Int :=
  if c = 32 ∨ c = 9 ∨ c = 10 then 1 else if 48 ≤ c ∧ c ≤ 57 then 2 else if 97 ≤ c ∧ c ≤ 122 then 4 else if 65 ≤ c ∧ c ≤ 90 then 8 else if c = 95 then 16 else if c = 39 then 32 else if c = 34 then 64 else 0

def isBlank (c : UInt8) : Bool := c == 32 || c == 9 || c == 10
def isDigit (c : UInt8) : Bool := 48 ≤ c && c ≤ 57
def isSmall (c : UInt8) : Bool := 97 ≤ c && c ≤ 122
def isGreat (c : UInt8) : Bool := 65 ≤ c && c ≤ 90
def inName (c : UInt8) : Bool := isDigit c || isSmall c || isGreat c || c == 95 || c == 39
def inVar (c : UInt8) : Bool := isSmall c || isDigit c

/-- A token without its place. -/
structure Tok where
  kind : Nat
  text : List UInt8
  n : Nat

/-- Blanks and comments: how many bytes they are; false: where the outermost comment begins that does not end. 'd': how deep; 'b': where the outermost began; 'i': how far. -/
def gapA : Nat → Nat → Nat → Nat → List UInt8 → Nat × Bool
  | 0, _, _, i, _ => (i, true)
  | f + 1, 0, b, i, l =>
    if [40, 42].isPrefixOf l then gapA f 1 i (i + 2) (l.drop 2)
    else match l with
      | [] => (i, true)
      | c :: r => if isBlank c then gapA f 0 b (i + 1) r else (i, true)
  | f + 1, d + 1, b, i, l =>
    match l with
      | [] => (b, false)
      | c :: r =>
        if [40, 42].isPrefixOf (c :: r) then gapA f (d + 2) b (i + 2) ((c :: r).drop 2)
        else if [42, 41].isPrefixOf (c :: r) then gapA f d b (i + 2) ((c :: r).drop 2)
        else gapA f (d + 1) b (i + 1) r
def gap (l : List UInt8) : Nat × Bool := gapA (l.length + 1) 0 0 0 l

/-- A number, held at the first that is too great. -/
def num : Nat → List UInt8 → Nat
  | n, [] => n
  | n, c :: r => num (min (10 * n + (c.toNat - 48)) 1000000001) r

/-- What stands behind a backslash: the byte, and how many bytes it takes. -/
def esc (l : List UInt8) : Option (UInt8 × Nat) :=
  match l with
  | [] => none
  | c :: r =>
    if c = 110 then some (10, 1) else if c = 116 then some (9, 1) else if c = 92 then some (92, 1) else if c = 34 then some (34, 1)
    else match r with
      | a :: b :: _ =>
        if isDigit c && isDigit a && isDigit b then
          (if 100 * (c.toNat - 48) + 10 * (a.toNat - 48) + (b.toNat - 48) ≤ 255 then some (UInt8.ofNat (100 * (c.toNat - 48) + 10 * (a.toNat - 48) + (b.toNat - 48)), 3) else none)
        else none
      | _ => none

/-- A string behind its first quote: what it says; how many bytes, the last quote with them. -/
def strA : Nat → List UInt8 → Nat → List UInt8 → Option (List UInt8 × Nat)
  | 0, _, _, _ => none
  | f + 1, acc, k, l =>
    match l with
    | [] => none
    | c :: r =>
      if c < 32 then none
      else if c = 34 then (if acc.length ≤ 200 then some (acc, k + 1) else none)
      else if c = 92 then
        match esc r with
        | none => none
        | some (b, j) => strA f (acc ++ [b]) (k + 1 + j) (r.drop j)
      else strA f (acc ++ [c]) (k + 1) r

def words : List (List UInt8) := [[97, 110, 100], [97, 110, 100, 97, 108, 115, 111], [97, 115], [99, 97, 115, 101], [100, 97, 116, 97], [101, 108, 115, 101], [101, 110, 100], [101, 120, 99, 101, 112, 116, 105, 111, 110], [102, 97, 108, 115, 101], [102, 110], [102, 117, 110], [105, 102], [105, 110], [108, 101, 116], [111, 102], [111, 112, 101, 110], [111, 114, 101, 108, 115, 101], [114, 97, 105, 115, 101], [115, 105, 103], [115, 105, 103, 110, 97, 116, 117, 114, 101], [115, 116, 114, 117, 99, 116], [115, 116, 114, 117, 99, 116, 117, 114, 101], [116, 104, 101, 110], [116, 114, 117, 101], [116, 114, 121], [116, 121, 112, 101], [118, 97, 108], [119, 105, 116, 104]]
def signs : List (List UInt8) := [[61, 62], [45, 62], [58, 61], [58, 58], [58, 62], [60, 62], [60, 61], [62, 61], [40], [41], [91], [93], [44], [59], [58], [124], [61], [60], [62], [43], [45], [42], [47], [37], [94], [126], [33], [46], [95]]

def tokNum (l : List UInt8) : Option (Tok × Nat) :=
  if 1000000000 < num 0 (l.takeWhile isDigit) then none else some (⟨1, [], num 0 (l.takeWhile isDigit)⟩, (l.takeWhile isDigit).length)
def tokStr (l : List UInt8) : Option (Tok × Nat) :=
  match strA l.length [] 1 (l.drop 1) with
  | none => none
  | some (t, k) => some (⟨2, t, 0⟩, k)
/-- 'q': how many quotes. -/
def tokVarAt (q : Nat) (l : List UInt8) : Option (Tok × Nat) :=
  if ((l.drop q).takeWhile isSmall).length = 0 then none
  else if 20 < ((l.drop q).takeWhile inVar).length then none
  else some (⟨5, l.take (q + ((l.drop q).takeWhile inVar).length), 0⟩, q + ((l.drop q).takeWhile inVar).length)
def tokVar (l : List UInt8) : Option (Tok × Nat) := if [39].isPrefixOf (l.drop 1) then tokVarAt 2 l else tokVarAt 1 l
def nameKind (great : Bool) (d : List UInt8) : Nat := if great then 4 else if words.contains d then 6 else 3
def tokName (great : Bool) (l : List UInt8) : Option (Tok × Nat) :=
  if 20 < (l.takeWhile inName).length then none
  else some (⟨nameKind great (l.takeWhile inName), l.takeWhile inName, 0⟩, (l.takeWhile inName).length)
def tokSign (l : List UInt8) : Option (Tok × Nat) :=
  match signs.find? (fun s => s.isPrefixOf l) with
  | none => none
  | some s => some (⟨7, s, 0⟩, s.length)
/-- The longest token that begins here, and how many bytes it takes. -/
def tok (l : List UInt8) : Option (Tok × Nat) :=
  match l with
  | [] => none
  | c :: r =>
    if isDigit c then tokNum (c :: r) else if c = 34 then tokStr (c :: r) else if c = 39 then tokVar (c :: r)
    else if isSmall c then tokName false (c :: r) else if isGreat c then tokName true (c :: r)
    else if c = 95 ∧ 1 < ((c :: r).takeWhile inName).length then tokName false (c :: r) else tokSign (c :: r)

/-- All tokens, each with its place, and the fault: its kind and place. -/
def toksA : Nat → Nat → List UInt8 → List (Nat × Tok) × Nat × Nat
  | 0, _, _ => ([], 0, 0)
  | f + 1, a, l =>
    if (gap l).2 = false then ([], 3, a + (gap l).1)
    else if l.drop (gap l).1 = [] then ([(a + (gap l).1, ⟨0, [], 0⟩)], 0, 0)
    else match tok (l.drop (gap l).1) with
      | none => ([], 3, a + (gap l).1)
      | some (t, k) => ((a + (gap l).1, t) :: (toksA f (a + (gap l).1 + k) (l.drop ((gap l).1 + k))).1, (toksA f (a + (gap l).1 + k) (l.drop ((gap l).1 + k))).2)
def good (c : UInt8) : Bool := c == 9 || c == 10 || (32 ≤ c && c ≤ 126)
def toks (l : List UInt8) : List (Nat × Tok) × Nat × Nat :=
  if 4000 < l.length then ([], 1, 0)
  else if (l.takeWhile good).length < l.length then ([], 2, (l.takeWhile good).length)
  else toksA (l.length + 1) 0 l

end Go.Proofs.YtapdhlfgakbebaaDoor.Lx
