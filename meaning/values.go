package meaning

// value is what an expression comes to: an int, a string, a tuple, a bare or a
// *built, a *reference, an *array, an *exn, or what is applicable.
type value any

// tuple is the values of a tuple; unit has none.
type tuple []value

// bare is a value of a constructor without an argument: the constructor's number.
type bare int

// built is a value of a constructor with an argument.
type built struct {
	number   int
	argument value
}

type reference struct{ held value }

type array struct{ cells []value }

// exn is a value of an exception; its argument, if it has one.
type exn struct {
	by       exception
	argument value
}

// applicable is a function.
type applicable interface {
	apply(r *run, argument value)
}

// closure is a function of the program, with the names that were there.
type closure struct {
	*rule
	names *link
}

func (f *closure) apply(r *run, argument value) {
	if !f.takes(r, argument, f.names) {
		r.raise(matchFails)
	}
}

// basic is a function that is there from the beginning.
type basic struct {
	name string
	does func(r *run, argument value) (value, int)
}

func (f *basic) apply(r *run, argument value) { r.give(f.does(r, argument)) }

// maker is a constructor that takes an argument: its number.
type maker int

func (f maker) apply(r *run, argument value) { r.answer(&built{int(f), argument}) }

// declared is the declaration of an exception.
type declared struct {
	name  string
	takes bool // an argument
}

// exception is a declaration with the names that were there when it was come to.
// These are other ones in each application of the function that it stands in, so
// that the exception is another one, too.
type exception struct {
	*declared
	names *link
}

func (f exception) apply(r *run, argument value) { r.answer(&exn{f, argument}) }

// The numbers of the constructors that are there from the beginning.
const (
	falseNumber, trueNumber = 0, 1
	emptyNumber, consNumber = 0, 1
)

func truth(is bool) value {
	if is {
		return bare(trueNumber)
	}
	return bare(falseNumber)
}

func isTrue(v value) bool { return v.(bare) == trueNumber }

// cons is a list: its argument is a tuple, as that of any constructor of two things is.
func cons(first, rest value) value {
	return &built{consNumber, tuple{first, rest}}
}
