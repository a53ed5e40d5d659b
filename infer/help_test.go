package infer

import (
	"strings"
	"testing"

	"mlcore/api"
)

// told writes typings as `name : type; name : type`.
func told(list []api.Typing) string {
	var l []string
	for _, x := range list {
		l = append(l, x.Name+" : "+x.Type)
	}
	return strings.Join(l, "; ")
}

// row is a program, or an expression, and what it is held to.
type row struct{ text, want string }

// tells holds programs to their types.
func tells(t *testing.T, rows ...row) {
	t.Helper()
	for _, r := range rows {
		list, f := Infer(r.text)
		if got := told(list); f != (api.Fault{}) || got != r.want {
			t.Errorf("%s: %v\n got %s\nwant %s", r.text, f, got, r.want)
		}
	}
}

// shows holds expressions to their types.
func shows(t *testing.T, rows ...row) {
	t.Helper()
	for _, r := range rows {
		got, f := InferExp(r.text)
		if f != (api.Fault{}) || got != r.want {
			t.Errorf("%s: %v\n got %s\nwant %s", r.text, f, got, r.want)
		}
	}
}

// goes holds texts to be programs.
func goes(t *testing.T, texts ...string) {
	t.Helper()
	for _, text := range texts {
		if _, f := Infer(text); f != (api.Fault{}) {
			t.Errorf("%s: %v", text, f)
		}
	}
}

// fails holds programs to a fault, at the place that a `?` marks.
func fails(t *testing.T, kind api.Errno, marked ...string) {
	t.Helper()
	for _, m := range marked {
		at := strings.Index(m, "?")
		text := m[:at] + m[at+1:]
		list, f := Infer(text)
		if f != (api.Fault{Kind: kind, At: at}) || list != nil {
			t.Errorf("%s: %s %v, want %v at %d", text, told(list), f, kind, at)
		}
	}
}

// failsExp is fails for expressions.
func failsExp(t *testing.T, kind api.Errno, marked ...string) {
	t.Helper()
	for _, m := range marked {
		at := strings.Index(m, "?")
		text := m[:at] + m[at+1:]
		got, f := InferExp(text)
		if f != (api.Fault{Kind: kind, At: at}) || got != "" {
			t.Errorf("%s: %s %v, want %v at %d", text, got, f, kind, at)
		}
	}
}
