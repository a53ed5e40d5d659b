package meaning

import (
	"strings"
	"testing"

	"mlcore/api"
	"mlcore/infer"
	"mlcore/syntax"
)

// Random programs do what the second meaning says, in as many steps.
func TestP6_6Random(t *testing.T) {
	ends := map[string]int{}
	for seed := range 2500 {
		p := newProgram(int64(seed))
		text := p.whole()
		if len(text) > api.MaxText {
			continue
		}
		n, _ := syntax.Parse(text)
		if _, f := infer.Check(n); f.Kind != api.OK {
			t.Fatalf("%s: %v", text, f)
		}
		last := slowRun(n, 5000)
		for _, steps := range []int{5000, p.Intn(5000), p.Intn(200), p.Intn(20)} {
			agrees(t, text, n, steps, last)
		}
		ends[[]string{"Going", "Done", last.Name}[last.Kind]]++
	}
	for _, end := range strings.Fields("Going Done Match Bind Overflow Div Bounds Size A B C D E F") {
		if ends[end] == 0 {
			t.Errorf("no program that ends as %s", end)
		}
	}
}

// agrees holds a run to the second meaning, and to what comes of it with more steps.
func agrees(t *testing.T, text string, n api.Node, steps int, last api.Outcome) {
	t.Helper()
	o, want := outcome(n, steps), slowRun(n, steps)
	if o != want {
		t.Fatalf("%s, %d steps:\n got %v\nwant %v", text, steps, o, want)
	}
	if o.Kind != api.Going && o != last || !strings.HasPrefix(last.Out, o.Out) {
		t.Fatalf("%s, %d steps: %v, and with more %v", text, steps, o, last)
	}
}

// What one program does hangs on nothing else: not on the runs before it.
func TestP6_6Again(t *testing.T) {
	for seed := range 50 {
		text := newProgram(int64(seed)).whole()
		first, f := Run(text, 3000)
		for range 3 {
			if o, g := Run(text, 3000); o != first || g != f {
				t.Errorf("%s: %v %v, then %v %v", text, first, f, o, g)
			}
		}
	}
}
