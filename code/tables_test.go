package code

import (
	"strings"
	"testing"

	"mlcore/api"
)

func TestP12_4Names(t *testing.T) {
	signs, bases, exceptions := Signs(), Bases(), Exceptions()
	for want, got := range map[string][]string{
		"+ - * / % < <= > >= = <> ^ ! := ~":                                  signs[:],
		"not, print, str, size, sub, part, chr, ref, array, length, at, put": bases[:],
		"Match, Bind, Overflow, Div, Bounds, Size":                           exceptions[:],
	} {
		if s := strings.Join(got, " "); s != strings.ReplaceAll(want, ",", "") {
			t.Errorf("%s, want %s", s, want)
		}
	}
}

// Only ! and ~ take one value.
func TestP12_4Signs(t *testing.T) {
	for n, sign := range Signs() {
		takes := 2
		if n == 12 || n == 14 {
			takes = 1
		}
		if takes == 1 != (sign == "!" || sign == "~") {
			t.Errorf("%d is %s", n, sign)
		}
		good(t, append(times(takes, in(api.InInt, 1)), in(api.InSign, n), in(api.InReturn))...)
		stuck(t, takes-1, append(times(takes-1, in(api.InInt, 1)), in(api.InSign, n), in(api.InReturn))...)
		stuck(t, takes+2, append(times(takes+1, in(api.InInt, 1)), in(api.InSign, n), in(api.InReturn))...)
	}
}

// There are as many as have a name.
func TestP12_4HowMany(t *testing.T) {
	for n := range 20 {
		for _, r := range []struct {
			list []api.Ins
			many int
		}{
			{[]api.Ins{in(api.InBase, n), in(api.InReturn)}, len(Bases())},
			{[]api.Ins{in(api.InStd, n), in(api.InReturn)}, len(Exceptions())},
		} {
			if n < r.many {
				good(t, r.list...)
			} else {
				checked(t, codeOf(unit(), body(r.list...)), api.ErrNumber, 2)
			}
		}
		if n >= len(Signs()) {
			checked(t, codeOf(unit(), body(in(api.InInt), in(api.InInt), in(api.InSign, n), in(api.InReturn))), api.ErrNumber, 4)
		}
	}
}
