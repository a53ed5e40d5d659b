package meaning

import (
	"fmt"
	"strings"
	"testing"

	"mlcore/api"
)

// rows writes a text for each of some numbers, with a sign between.
func rows(n int, text, sign string) string {
	var l []string
	for i := range n {
		l = append(l, fmt.Sprintf(text, i))
	}
	return strings.Join(l, sign)
}

// Programs that never end are run for as long as may be at once, however much stands
// in them that takes no steps, or waits, or is matched, or is kept.
func TestP1Long(t *testing.T) {
	const loop = "fun f x = f x "
	up := "fun up n = if n = 0 then [] else 1 :: up (n - 1) val l = up 600 "
	for name, text := range map[string]string{
		"tail":       "val _ = f 1",
		"waiting":    "fun f x = (f x; 1) val _ = f 1",
		"tries":      "fun f x = try f x with Div => 1 end val _ = f 1",
		"tuples":     "fun f x = (case (f x, " + rows(190, "%d", ",") + ") of _ => 1 end) val _ = f 1",
		"vals":       "fun f x = let " + rows(250, "val a%d=1", " ") + " fun g x = g a0 in g 1 end val _ = f 1",
		"funs":       "fun f x = (let " + rows(230, "fun a%d x=x", " ") + " in f x end; 1) val _ = f 1",
		"exceptions": "fun f x = (let " + rows(230, "exception E%d", " ") + " in f x end; 1) val _ = f 1",
		"opens":      "structure A = struct val (" + rows(190, "a%d", ",") + ") = (" + rows(190, "%d", ",") + ") end fun f x = let " + strings.Repeat("open A ", 250) + "in f a1 end val _ = f 1",
		"names":      "fun f (" + rows(190, "a%d", ",") + ") = (f (" + rows(190, "a%d", ",") + "); 1) val _ = f (" + rows(190, "%d", ",") + ")",
		"lists":      up + "fun f [" + rows(600, "a%d", ",") + "] = (f l; a1) val _ = f l",
		"rules":      "fun f x = case x of " + strings.Repeat("1=>f 1|", 400) + "_=>f x end val _ = f 2",
		"handlers":   "fun f x = try raise Div with " + strings.Repeat("Size=>1|", 400) + "_=>f x end val _ = f 1",
		"same":       "val l = [1] fun f x = (" + strings.Repeat("l=l;", 900) + "f x) val _ = f 1",
		"arrays":     "val p = (100, 0) fun f l = f (array p :: l) val _ = f []",
		"strings":    `val a = "` + strings.Repeat("a", 100) + `" fun f l = f (a ^ a :: l) val _ = f []`,
	} {
		o, f := Run(loop+text, api.MaxFuel)
		if f != (api.Fault{}) || o != (api.Outcome{Kind: api.Going, Steps: api.MaxFuel}) {
			t.Errorf("%s: %v %v", name, f, o)
		}
	}
}

// Depth costs nothing but steps: what waits may be as deep as these go.
func TestP6_6Deep(t *testing.T) {
	runs(t, "fun f n = if n = 0 then 0 else 1 + f (n - 1) val _ = print (str (f 70000))", api.MaxFuel, api.Outcome{Kind: api.Done, Out: "70000", Steps: 11*70000 + 12})
	runs(t, "fun f n = if n = 0 then raise Div else 1 + f (n - 1) val _ = print (try str (f 70000) with Div => \"d\" end)", api.MaxFuel, api.Outcome{Kind: api.Done, Out: "d", Steps: 11*70000 + 15})
	runs(t, "fun f n = try (if n = 0 then raise Div else f (n - 1)) with Size => 1 end val _ = try f 60000 with Div => 2 end", api.MaxFuel, api.Outcome{Kind: api.Done, Steps: 10*60000 + 12})
}
