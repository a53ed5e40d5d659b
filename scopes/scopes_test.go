package scopes

import (
	"strconv"
	"strings"
	"testing"

	"mlcore/api"
	"mlcore/syntax"
)

// naming goes through programs. A name stands for the number of its declaration, from 1 on;
// a constructor for its name, its number in its data and of how many, and `of` if it takes an argument.
type naming struct {
	*Scope[string]
	count int
	told  []string
}

// tells is what the values of the vals called _ stand for, in their order.
func tells(t *testing.T, text string) string {
	t.Helper()
	n, f := syntax.Parse(text)
	if f.Kind != api.OK {
		t.Fatalf("%s: %v", text, f)
	}
	s := &naming{Scope: New(func(c Constructor) string {
		return c.Name + strconv.Itoa(c.Number) + "/" + strconv.Itoa(c.Of) + strings.Repeat("of", map[bool]int{true: 1}[c.Takes])
	})}
	s.decs(n.Kids)
	return strings.Join(s.told, " ")
}

func (s *naming) declare(name string) {
	s.count++
	s.Declare(name, strconv.Itoa(s.count))
}

func (s *naming) decs(list []api.Node) {
	for _, n := range list {
		switch n.Kind {
		case api.DVal:
			s.val(n.Kids[0], n.Kids[1])
		case api.DExn:
			s.declare(n.Name)
		case api.DData:
			s.Data(n)
		case api.DStruct:
			s.Structure(n, s.decs)
		case api.DSig:
			s.Signature(n)
		case api.DOpen:
			s.Open(n.Name)
		}
	}
}

func (s *naming) val(p, e api.Node) {
	switch {
	case p.Kind == api.PVar:
		s.declare(p.Name)
	case e.Kind == api.ELet:
		s.Within(func() {
			s.decs(e.Kids[:e.N])
			s.told = append(s.told, s.Find(e.Kids[e.N].Name))
		})
	default:
		s.told = append(s.told, s.Find(e.Name))
	}
}

func holds(t *testing.T, rows ...[2]string) {
	t.Helper()
	for _, r := range rows {
		if got := tells(t, r[0]); got != r[1] {
			t.Errorf("%s:\n got %s\nwant %s", r[0], got, r[1])
		}
	}
}

func TestP6_2Find(t *testing.T) {
	holds(t,
		[2]string{"val a = 0 val b = 0 val _ = a val _ = b val a = 0 val _ = a", "1 2 3"}, [2]string{"val a = 0 val _ = let val a = 0 in a end val _ = a", "2 1"}, [2]string{"val a = 0 val _ = let val b = 0 in a end val _ = let val a = 0 val a = 0 in a end val _ = a", "1 4 1"},
		[2]string{"val _ = a val _ = A.b", " "}, [2]string{"data t = A | B of int and u = C of int | D val _ = A val _ = B val _ = C val _ = D", "A0/2 B1/2of C0/2of D1/2"}, [2]string{"data ('a, 'b) t = A of 'a | B exception B val _ = A val _ = B data u = A val _ = A", "A0/2of 1 A0/1"},
	)
}

func TestP6_5Scopes(t *testing.T) {
	holds(t,
		[2]string{"val a = 0 structure A = struct val b = 0 val _ = a val a = 0 val _ = a end val _ = a val _ = A.a val _ = A.b", "1 3 1 3 2"}, [2]string{"structure A = struct val a = 0 structure B = struct val b = 0 end val _ = B.b end val _ = A.a val _ = A.B.b", "2 1 2"},
		[2]string{"structure A = struct val a = 0 end structure B = A structure A = struct val a = 0 end val _ = A.a val _ = B.a", "2 1"}, [2]string{"structure A = struct val a = 0 end structure B = struct structure C = A structure D = C end val _ = B.C.a val _ = B.D.a", "1 1"},
		[2]string{"val a = 0 structure A = struct val a = 0 val b = 0 structure B = struct val c = 0 end end open A val _ = a val _ = b val _ = B.c open B val _ = c", "2 3 4 4"}, [2]string{"val a = 0 structure A = struct val a = 0 end val _ = let open A in a end val _ = a", "2 1"}, [2]string{"structure A = struct val a = 0 end structure B = struct open A end val _ = B.a structure A = struct structure A = struct val a = 0 end end open A val _ = A.a", "1 2"},
		// What is open goes on being what it was.
		[2]string{"structure A = struct val a = 0 end structure B = struct open A val a = 0 end val _ = A.a val _ = B.a", "1 2"},
	)
	for _, mark := range []string{":", ":>"} {
		holds(t,
			[2]string{"val b = 0 structure A " + mark + " sig val a : int end = struct val a = 0 val b = 0 end open A val _ = a val _ = b val _ = A.a", "2 1 2"}, [2]string{"signature S = sig exception E val a : int end structure A = struct val a = 0 exception E exception F end structure B " + mark + " S = A val _ = B.a val _ = B.E val _ = A.F", "1 2 3"},
			[2]string{"structure A " + mark + " sig data t = B of int | C type u end = struct data t = B of int | C exception B exception C data u = D end val _ = A.B val _ = A.C val _ = A.D", "B0/2of C1/2 "}, [2]string{"structure A " + mark + " sig structure B : sig val a : int end end = struct structure B = struct val a = 0 val b = 0 end structure C = B end val b = 0 val _ = A.B.a open A.B val _ = b val _ = A.B.b", "1 3 "},
			[2]string{"signature S = sig val a : int end signature T = sig structure A : S end signature S = sig val b : int end structure B " + mark + " T = struct structure A = struct val a = 0 val b = 0 end end val _ = B.A.a val _ = B.A.b", "1 "},
		)
	}
}
