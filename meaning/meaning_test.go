package meaning

import (
	"strings"
	"testing"

	"mlcore/api"
	"mlcore/infer"
	"mlcore/syntax"
)

func TestP6_1Faults(t *testing.T) {
	long := strings.Repeat(" ", api.MaxText+1)
	for _, text := range []string{
		"val x = y", "val x = 1 + true", "val x =", "val x = \"", "val x = 1 \x01", long, "val 1 = \"a\"", "open A",
		"structure A : sig val x : int end = struct end", "val x = fn y => y y", "exception E of 'a", "fun f x x = 1",
	} {
		_, want := infer.Infer(text)
		for _, steps := range []int{-1, 0, 7, api.MaxFuel, api.MaxFuel + 1} {
			if o, f := Run(text, steps); f != want || f.Kind == api.OK || o != (api.Outcome{}) {
				t.Errorf("%.40s, %d steps: %v %v, want %v", text, steps, o, f, want)
			}
		}
	}
	for _, steps := range []int{-1, -1 << 63, api.MaxFuel + 1, 1<<63 - 1} {
		for _, text := range []string{"", "val x = 1", "val x = 1 / 0"} {
			if o, f := Run(text, steps); f != (api.Fault{Kind: api.ErrArg}) || o != (api.Outcome{}) {
				t.Errorf("%s, %d steps: %v %v", text, steps, o, f)
			}
		}
	}
}

func TestP6_1Outcomes(t *testing.T) {
	runs(t, "", 0, api.Outcome{Kind: api.Done})
	runs(t, "", api.MaxFuel, api.Outcome{Kind: api.Done})
	runs(t, "val _ = print \"ab\" val _ = print \"c\"", 100, api.Outcome{Kind: api.Done, Out: "abc", Steps: 6})
	runs(t, "val _ = print \"ab\" val _ = raise Div", 100, api.Outcome{Kind: api.Raised, Name: "Div", Out: "ab", Steps: 5})
	runs(t, "val _ = print \"ab\" val _ = raise Div", 4, api.Outcome{Kind: api.Going, Out: "ab", Steps: 4})
	runs(t, "val _ = print \"ab\" val _ = raise Div", 2, api.Outcome{Kind: api.Going, Steps: 2})
	runs(t, "fun f x = f x val _ = f 1", api.MaxFuel, api.Outcome{Kind: api.Going, Steps: api.MaxFuel})
	// The name of an exception has no path.
	raises(t, "Stop", "",
		"exception Stop val _ = raise Stop", "exception Stop of int val _ = raise Stop 1", "structure A = struct exception Stop end val _ = raise A.Stop",
		"structure A = struct structure B = struct exception Stop of int end end open A val _ = raise B.Stop 3", "structure A :> sig exception Stop end = struct exception Stop end structure B = A val _ = raise B.Stop",
		"val _ = let exception Stop in raise Stop end", "val e = let exception Stop of unit in Stop () end exception Other val _ = raise e",
	)
	raises(t, "Div", "", "exception Div val _ = raise Div", "structure A = struct exception Div end val _ = raise A.Div")
}

// What has no types may come to what means nothing; no call panics then.
func TestP6_6Wrong(t *testing.T) {
	for _, text := range []string{
		"val x = 1 + true", "val x = 1 2", "val x = Div 1", "val x = y", "val x = A.y", "val x = A.B.y", "open A.B", "val x = ! 1", "val x = raise 1", "val x = if 1 then 2 else 3",
		"val (a, b) = (1) val x = b", "val x = \"a\" ^ 1", "val x = not 1", "val x = sub \"a\"", "val x = part (1, 2)", "val (a, b, c) = (1, 2) val x = c",
		"val x = put (ref 1, 0, 1)", "val x = try raise 1 with Div => 1 end", "val x = 1 andalso true", "structure A : S = struct end", "structure A : sig structure B : sig val x : int end end = struct end val x = A.B.x",
		"val x = case 1 of (1, 2) => 3 end", "val x = (1, 2) = 3", "val x = (1, 2, 3) = (1, 2)",
	} {
		n, f := syntax.Parse(text)
		if o := outcome(n, 100); f.Kind != api.OK || o.Kind != api.Wrong || o.Name != "" {
			t.Errorf("%s: %v %v", text, f, o)
		}
	}
}
