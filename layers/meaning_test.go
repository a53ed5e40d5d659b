package layers

import (
	"strings"
	"testing"

	"mlcore/api"
	"mlcore/meaning"
	"mlcore/syntax"
)

// Random programs do what the second meaning says, in as many steps.
func TestP6_6Random(t *testing.T) {
	t.Parallel()
	ends := map[string]int{}
	for seed := range 2500 {
		p, text, n, ok := random(seed)
		if !ok {
			continue
		}
		last := slowRun(n, 5000)
		for _, steps := range []int{5000, p.Intn(5000), p.Intn(200), p.Intn(20)} {
			agrees(t, text, n, steps, last)
		}
		ends[ending(last)]++
	}
	comesTo(t, ends)
}

// random is a random program that has types, its text and its tree, and whether that is short enough.
func random(seed int) (p *program, text string, n api.Node, ok bool) {
	p = newProgram(int64(seed))
	text = p.whole()
	n, f := syntax.Parse(text)
	return p, text, n, f.Kind == api.OK
}

func ending(o api.Outcome) string {
	return []string{"Going", "Done", o.Name, "Memory", "Wrong"}[o.Kind]
}

// comesTo holds random programs to end in every way.
func comesTo(t *testing.T, ends map[string]int) {
	t.Helper()
	for _, end := range strings.Fields("Going Done Match Bind Overflow Div Bounds Size A B C D E F") {
		if ends[end] == 0 {
			t.Errorf("no program that ends as %s", end)
		}
	}
}

// agrees holds a run to the second meaning, and to what comes of it with more steps.
func agrees(t *testing.T, text string, n api.Node, steps int, last api.Outcome) {
	t.Helper()
	want := slowRun(n, steps)
	o, f := meaning.Run(text, steps)
	if f != (api.Fault{}) || o != want {
		t.Fatalf("%s, %d steps: %v\n got %v\nwant %v", text, steps, f, o, want)
	}
	if o.Kind != api.Going && o != last || !strings.HasPrefix(last.Out, o.Out) {
		t.Fatalf("%s, %d steps: %v, and with more %v", text, steps, o, last)
	}
}

// What one program does hangs on nothing else: not on the runs before it.
func TestP6_6Again(t *testing.T) {
	for seed := range 50 {
		text := newProgram(int64(seed)).whole()
		first, f := meaning.Run(text, 3000)
		for range 3 {
			if o, g := meaning.Run(text, 3000); o != first || g != f {
				t.Errorf("%s: %v %v, then %v %v", text, first, f, o, g)
			}
		}
	}
}
