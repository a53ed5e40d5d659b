package meaning

import (
	"strings"
	"testing"

	"mlcore/api"
)

// row is a program, or an expression, and what it is held to.
type row struct{ text, want string }

// enough is more steps than the short programs of these tests take.
const enough = 100000

// runs holds a program to its outcome.
func runs(t *testing.T, text string, steps int, want api.Outcome) {
	t.Helper()
	o, f := Run(text, steps)
	if f != (api.Fault{}) || o != want {
		t.Errorf("%s, %d steps: %v\n got %v\nwant %v", text, steps, f, o, want)
	}
}

// prints holds programs to come to their end, and to what they print.
func prints(t *testing.T, rows ...row) {
	t.Helper()
	for _, r := range rows {
		o, f := Run(r.text, enough)
		if f != (api.Fault{}) || o.Kind != api.Done || o.Out != r.want {
			t.Errorf("%s: %v\n got %v\nwant %s", r.text, f, o, r.want)
		}
	}
}

// says holds expressions to their values: a number by its digits, a truth value by its
// name, a string as it is. A name of an exception is what they raise.
func says(t *testing.T, ahead string, rows ...row) {
	t.Helper()
	for _, r := range rows {
		o, f := told(ahead, r.text)
		got := o.Out
		if o.Kind == api.Raised {
			got = o.Name
		}
		if f != (api.Fault{}) || got != r.want || o.Kind == api.Going {
			t.Errorf("%s %s: %v\n got %v\nwant %s", ahead, r.text, f, o, r.want)
		}
	}
}

// told runs a program that prints a value, in the form that the value's type asks for.
func told(ahead, exp string) (o api.Outcome, f api.Fault) {
	for _, form := range []string{"print (str (%))", "print (if % then \"true\" else \"false\")", "print (%)"} {
		o, f = Run(ahead+" val _ = "+strings.Replace(form, "%", exp, 1), enough)
		if f.Kind != api.ErrType {
			break
		}
	}
	return o, f
}

// raises holds programs to an exception that nothing handles, and to what they print ahead of it.
func raises(t *testing.T, name, out string, texts ...string) {
	t.Helper()
	for _, text := range texts {
		o, f := Run(text, enough)
		if f != (api.Fault{}) || o.Kind != api.Raised || o.Name != name || o.Out != out {
			t.Errorf("%s: %v\n got %v\nwant %s %s", text, f, o, name, out)
		}
	}
}

// takes holds programs to come to their end in so many steps; with fewer they are going.
func takes(t *testing.T, steps int, texts ...string) {
	t.Helper()
	for _, text := range texts {
		last, f := Run(text, enough)
		if f != (api.Fault{}) || last.Steps != steps || last.Kind == api.Going {
			t.Errorf("%s: %v %v, not in %d steps", text, f, last, steps)
			continue
		}
		for n := range steps {
			o, _ := Run(text, n)
			if o.Kind != api.Going || o.Steps != n || o.Name != "" || !strings.HasPrefix(last.Out, o.Out) {
				t.Errorf("%s: %v in %d steps, %v in all", text, o, n, last)
			}
		}
		runs(t, text, steps, last)
	}
}
