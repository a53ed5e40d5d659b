package emit

import (
	"strings"
	"testing"

	"mlcore/api"
)

// Behind the instructions of a term its value is on top.
func TestP14_1Terms(t *testing.T) {
	becomes(t,
		row{"", "0/0 int 0, return"}, row{"val x = 1", "0/1 int 1, store 0, int 0, return"}, row{"val x = ~ 7", "0/1 int 7, ~, store 0, int 0, return"}, row{`val x = "a" val y = "a" ^ "b"`, `0/2 "a", store 0, "a", "b", ^, store 1, int 0, return`}, row{`val _ = print "a"`, `0/0 print, "a", call, drop, int 0, return`},
		row{"val x = (print; str)", "0/1 print, drop, str, store 0, int 0, return"}, row{"val x = !(ref 1)", "0/1 ref, int 1, call, !, store 0, int 0, return"}, row{"val x = (Div, Match)", "0/1 Div, block 0 1, Match, block 0 1, block 0 2, store 0, int 0, return"}, row{"val x = [1, 2]", "0/1 int 1, int 2, int 0, block 0 2, block 1 1, block 0 2, block 1 1, store 0, int 0, return"},
		row{"exception E exception F of int val x = F 1", "0/3 exception E/0, store 0, exception F/1, store 1, slot 1, int 1, block 0 2, store 2, int 0, return"}, row{"val x = if 1 = 2 then 3 else 4", "0/1 int 1, int 2, =, unless 6, int 3, jump 7, 6: int 4, 7: store 0, int 0, return"},
		row{"val a = true val x = a andalso false orelse a", "0/2 int 1, store 0, slot 0, unless 6, int 0, jump 7, 6: int 0, 7: unless 10, int 1, jump 11, 10: slot 0, 11: store 1, int 0, return"}, row{"val x = case 5 of 1 => 2 | n => n end", "0/1 int 5, store 0, slot 0, is 1, unless 7, int 2, jump 8, 7: slot 0, 8: store 0, int 0, return"},
		row{"val [x] = [1]", "0/4 int 1, int 0, block 0 2, block 1 1, store 0, slot 0, isblock 1, unless 22, slot 0, field 0, store 1, slot 1, field 0, store 2, slot 1, field 1, store 3, slot 3, is 0, unless 22, int 0, return, 22: Bind, block 0 1, raise"}, row{"val x = try 1 with Div => 2 end", "0/1 try 4, int 1, end, jump 14, 4: store 0, slot 0, field 0, Div, same, unless 12, int 2, jump 14, 12: slot 0, raise, 14: store 0, int 0, return"},
	)
}

// Functions are made with what they catch; those of one fun have it put into them.
func TestP14_1Functions(t *testing.T) {
	becomes(t,
		row{"fun f x = fn y => (x, y)", "0/1 make 1, store 0, int 0, return; 0/0 arg, make 2, return; 1/0 free 0, arg, block 0 2, return"}, row{"fun f x = f x", "0/1 int 0, make 1, store 0, slot 0, patch 0 0, int 0, return; 1/0 free 0, arg, tail"},
		row{"val a = 1 fun f x = g a and g x = (f x; a)", "0/3 int 1, store 0, int 0, int 0, make 1, store 1, int 0, int 0, make 2, store 2, slot 2, patch 1 0, slot 0, patch 1 1, slot 1, patch 2 0, slot 0, patch 2 1, int 0, return; 2/0 free 0, free 1, tail; 2/0 free 0, arg, call, drop, free 1, return"},
	)
}

// An application in a function's last place is an InTail, if no try is open; others are not.
func TestP14_1Tails(t *testing.T) {
	const begins = "0/1 int 0, make 1, store 0, slot 0, patch 0 0, int 0, return; "
	becomes(t,
		row{"fun f x = print x", "0/1 make 1, store 0, int 0, return; 0/0 print, arg, tail"}, row{"fun f x = f (f x)", begins + "1/0 free 0, free 0, arg, call, tail"}, row{"fun f x = (f 1; f 2)", begins + "1/0 free 0, int 1, call, drop, free 0, int 2, tail"}, row{"fun f x = let val y = f x in f y end", begins + "1/1 free 0, arg, call, store 0, free 0, slot 0, tail"},
		row{"fun f x = if x = 0 then 1 else f (x - 1)", begins + "1/0 arg, int 0, =, unless 6, int 1, return, 6: free 0, arg, int 1, -, tail"}, row{"fun f x = x andalso f x", begins + "1/0 arg, unless 5, free 0, arg, tail, 5: int 0, return"}, row{"fun f x = x orelse f x", begins + "1/0 arg, unless 4, int 1, return, 4: free 0, arg, tail"}, row{"fun f x = let exception E in f E end", begins + "1/1 exception E/0, store 0, free 0, slot 0, block 0 1, tail"},
		row{"fun f l = case l of [] => 0 | x :: r => f r end", begins + "1/3 arg, is 0, unless 5, int 0, return, 5: arg, isblock 1, unless 20, arg, field 0, store 0, slot 0, field 0, store 1, slot 0, field 1, store 2, free 0, slot 2, tail, 20: Match, block 0 1, raise"},
		row{"fun f x = try f x with Div => f x end", begins + "1/1 try 6, free 0, arg, call, end, return, 6: store 0, slot 0, field 0, Div, same, unless 15, free 0, arg, tail, 15: slot 0, raise"},
		row{"fun f x = try try f x with Div => f x end with Size => 1 end", begins + "1/1 try 21, try 7, free 0, arg, call, end, jump 19, 7: store 0, slot 0, field 0, Div, same, unless 17, free 0, arg, call, jump 19, 17: slot 0, raise, 19: end, return, 21: store 0, slot 0, field 0, Size, same, unless 29, int 1, return, 29: slot 0, raise"},
	)
}

// What is never come to is not written: of it nothing would be known.
func TestP14_2Never(t *testing.T) {
	becomes(t,
		row{"val x = raise Div", "0/1 Div, block 0 1, raise"}, row{"val x = 1 + (raise Div)", "0/1 int 1, Div, block 0 1, raise"}, row{"val x = (raise Div) + 1", "0/1 Div, block 0 1, raise"}, row{"fun f x = raise x", "0/1 make 1, store 0, int 0, return; 0/0 arg, raise"}, row{"val x = if raise Div then 1 else 2", "0/1 Div, block 0 1, raise"}, row{`val x = (raise Div; print "never")`, "0/1 Div, block 0 1, raise"},
		row{"val x = if 1 = 1 then raise Div else 2", "0/1 int 1, int 1, =, unless 7, Div, block 0 1, raise, 7: int 2, store 0, int 0, return"}, row{"val x = if 1 = 1 then 2 else raise Div", "0/1 int 1, int 1, =, unless 6, int 2, jump 9, 6: Div, block 0 1, raise, 9: store 0, int 0, return"}, row{"val x = if 1 = 1 then raise Div else raise Size", "0/1 int 1, int 1, =, unless 7, Div, block 0 1, raise, 7: Size, block 0 1, raise"},
		row{"val x = case raise Div of 1 => 2 | _ => 3 end", "0/1 Div, block 0 1, raise"}, row{"val x = try raise Div with Div => 1 end", "0/1 try 4, Div, block 0 1, raise, 4: store 0, slot 0, field 0, Div, same, unless 12, int 1, jump 14, 12: slot 0, raise, 14: store 0, int 0, return"}, row{"val x = try 1 with e => raise e end", "0/1 try 4, int 1, end, jump 7, 4: store 0, slot 0, raise, 7: store 0, int 0, return"},
	)
	// A raise in each place of each expression, at the top and in a function's last place.
	for _, e := range []string{
		"R", "(R, 1)", "(1, R)", "[R]", "[1, R, 2]", "R 1", "str R", "if R then 1 else 2", "if 1 = 1 then R else 2", "if 1 = 1 then 2 else R", "if 1 = 1 then R else R", "case R of 1 => 2 | 2 => 3 end", "case 1 of 1 => R | _ => 2 end", "case 1 of 1 => 2 | _ => R end", "case 1 of 1 => R | 2 => R end", "try R with Div => 1 end", "try 1 with Div => R end", "try R with Div => R end", "try R with _ => R end", "try try R with Div => R end with Size => R end",
		"raise R", "let val x = R in x end", "let val 1 = R in 2 end", "let val 1 = 2 in R end", "let fun f x = x + R in R end", "let exception E in R end", "(R; 1)", "(1; R; 2)", "R andalso R", "(1 = 1) andalso R", "R orelse 1 = 2", "R + 1", "1 :: R", "R :: []", "~ R", "! R", "R := 1", "ref 1 := R", "fn x => R", "fn 1 => R", "(R : int)", "[if R then 1 else 2, case R of [] => 1 | _ => 2 end, try R with _ => 3 end]", "(1, (2, (3, case 1 of 2 => R | 3 => 4 end)))",
	} {
		text := strings.ReplaceAll(e, "R", "(raise Div)")
		codeOf(t, "val _ = "+text)
		codeOf(t, "fun f 1 = "+text)
		codeOf(t, "val x = 1 + size (let val _ = "+text+` in "" end)`)
	}
}

// A flat program may fail where values are there since the catch: they go.
func TestP14_2Drops(t *testing.T) {
	of := func(op, n int, kids ...api.Term) api.Term { return api.Term{Op: op, N: n, Kids: kids} }
	one, fail := of(api.TInt, 1), of(api.TFail, 0)
	for _, r := range []struct {
		body api.Term
		want string
	}{
		{of(api.TCatch, 0, of(api.TBlock, 0, one, one, of(api.TIf, 0, one, one, fail)), one), "0/0 int 1, int 1, int 1, unless 6, int 1, jump 9, 6: drop, drop, jump 11, 9: block 0 3, return, 11: int 1, return"},
		{of(api.TBlock, 0, one, of(api.TCatch, 0, of(api.TIf, 0, one, one, fail), one)), "0/0 int 1, int 1, unless 5, int 1, jump 6, 5: int 1, 6: block 0 2, return"},
		{of(api.TCatch, 0, of(api.TIf, 0, one, fail, one), one), "0/0 int 1, unless 3, jump 5, 3: int 1, return, 5: int 1, return"},
		{of(api.TCatch, 0, fail, one), "0/0 jump 1, 1: int 1, return"},
		{of(api.TCatch, 0, one, one), "0/0 int 1, return"},
		{of(api.TSeq, 0, of(api.TCatch, 0, one, one), one), "0/0 int 1, drop, int 1, return"},
	} {
		c := coded(api.Flat{Funs: []api.Fun{{Body: r.body}}})
		canBeRun(t, r.want, c)
		if got := written(c); got != r.want {
			t.Errorf("%v\n got %s\nwant %s", r.body, got, r.want)
		}
	}
}
