package types

import (
	"fmt"
	"math/rand"
	"testing"

	"mlcore/api"
)

func v(n int) api.Type { return api.Type{Kind: api.TyVar, N: n} }

func eqv(n int) api.Type { return api.Type{Kind: api.TyVar, N: n, Eq: 1} }

func con(name string, eq int, args ...api.Type) api.Type {
	return api.Type{Kind: api.TyCon, Name: name, Eq: eq, Args: args}
}

func list(t api.Type) api.Type { return con("list", 1, t) }

func ref(t api.Type) api.Type { return con("ref", 2, t) }

func tuple(l ...api.Type) api.Type { return api.Type{Kind: api.TyTuple, Args: l} }

func arrow(a, b api.Type) api.Type { return api.Type{Kind: api.TyArrow, Args: []api.Type{a, b}} }

var (
	tInt  = con("int", 2)
	tBool = con("bool", 2)
	tExn  = con("exn", 0)
)

// wide is a type with so many parts, the last of which are given.
func wide(parts int, last ...api.Type) api.Type {
	t := con("wide", 1)
	for _, l := range last {
		parts -= size(l)
	}
	for range parts - 1 {
		t.Args = append(t.Args, tInt)
	}
	t.Args = append(t.Args, last...)
	return t
}

// deep is a type with so many parts, each within the one before it.
func deep(parts int) api.Type {
	t := tInt
	for range parts - 1 {
		t = list(t)
	}
	return t
}

func size(t api.Type) int {
	n := 1
	for _, a := range t.Args {
		n += size(a)
	}
	return n
}

// tell writes all that a value says; an empty list is told as nil is.
func tell(v any) string { return fmt.Sprintf("%v", v) }

// endless are types with no end, or with one that is too far away.
func endless() []api.Type {
	round := []api.Type{list(tInt)}
	round[0].Args = round
	fork := []api.Type{tInt, tInt}
	fork[0], fork[1] = tuple(fork...), tuple(fork...)
	far := v(1)
	for range 60 {
		far = tuple(far, far)
	}
	out := make([]api.Type, 1<<16)
	out[1<<15] = v(1)
	return []api.Type{round[0], {Kind: api.TyTuple, Args: fork}, far, tuple(out...), list(round[0])}
}

// random makes types that are proper.
type random struct {
	*rand.Rand
	vars   int     // how many variables there are
	mixed  bool    // a variable may say Eq 1 at one place and not at another
	greats float64 // how often there is a great type
}

func (r random) variable() api.Type {
	n := r.Intn(r.vars)
	if r.mixed {
		return api.Type{N: n, Eq: r.Intn(4) / 3}
	}
	return api.Type{N: n, Eq: n % 2}
}

func (r random) typ(deep int) api.Type {
	if r.Float64() < r.greats {
		return wide(20+r.Intn(150), r.variable())
	}
	if deep == 0 {
		return []api.Type{r.variable(), r.variable(), r.variable(), tInt, tBool, tExn, {Kind: api.TyCon, N: 1, Name: "int"}}[r.Intn(7)]
	}
	part := func() api.Type { return r.typ(r.Intn(deep)) }
	switch r.Intn(6) {
	case 0:
		return list(part())
	case 1:
		return ref(part())
	case 2:
		return con("either", 1, part(), part())
	case 3:
		return tuple(part(), part(), part())
	case 4:
		return tuple(part(), part())
	}
	return arrow(part(), part())
}

func (r random) pairs() []api.Pair {
	l := make([]api.Pair, 1+r.Intn(4))
	for i := range l {
		l[i] = api.Pair{A: r.typ(r.Intn(3)), B: r.typ(r.Intn(3))}
		if r.Intn(2) == 0 {
			l[i].A = r.variable()
		}
	}
	return l
}

func seeded(n int64) *rand.Rand { return rand.New(rand.NewSource(n)) }

// lists gathers the lists of a type, with the room behind them.
func lists(t api.Type) [][]api.Type {
	var all [][]api.Type
	if cap(t.Args) > 0 {
		all = append(all, t.Args[:cap(t.Args)])
	}
	for _, a := range t.Args {
		all = append(all, lists(a)...)
	}
	return all
}

// apart holds what is answered to be new memory: no list shares any with another or with the arguments.
func apart(t *testing.T, binds []api.Bind, args ...api.Type) {
	t.Helper()
	seen := map[*api.Type]string{}
	for _, a := range args {
		for _, l := range lists(a) {
			for i := range l {
				seen[&l[i]] = "an argument"
			}
		}
	}
	for n, b := range binds {
		for m, l := range lists(b.T) {
			for i := range l {
				if with, ok := seen[&l[i]]; ok {
					t.Fatalf("bind %d, list %d shares memory with %s: %v", n, m, with, binds)
				}
				seen[&l[i]] = fmt.Sprintf("list %d of bind %d", m, n)
			}
		}
	}
}
