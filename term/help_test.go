package term_test

import (
	"reflect"
	"testing"

	"mendproof/api"
	"mendproof/term"
)

// abc has a symbol of no, of one and of two arguments.
var abc = api.Sig{0, 1, 2}

func v(n int) api.Term { return api.Term{Var: true, N: n} }

func f(n int, args ...api.Term) api.Term { return api.Term{N: n, Args: args} }

// chain is b of b of .. of end, with so many b.
func chain(many int, end api.Term) api.Term {
	for range many {
		end = f(1, end)
	}
	return end
}

// parse reads a term that must be right.
func parse(t *testing.T, text string) api.Term {
	t.Helper()
	out, err := term.Parse(abc, text)
	if err != api.OK {
		t.Fatalf("Parse(%q) has the error %d", text, err)
	}
	return out
}

// allTerms are those of abc and two variables, each of exactly that size.
func allTerms(size int) []api.Term {
	if size < 1 {
		return nil
	}
	if size == 1 {
		return []api.Term{f(0), v(0), v(3)}
	}
	var out []api.Term
	for _, x := range allTerms(size - 1) {
		out = append(out, f(1, x))
	}
	for left := 1; left < size-1; left++ {
		for _, x := range allTerms(left) {
			for _, y := range allTerms(size - 1 - left) {
				out = append(out, f(2, x, y))
			}
		}
	}
	return out
}

// someTerms are all of the small ones.
func someTerms() []api.Term {
	var out []api.Term
	for size := 1; size <= 6; size++ {
		out = append(out, allTerms(size)...)
	}
	return out
}

// deepCopy is written apart from the program's own copy, which is tested by it.
func deepCopy(t api.Term) api.Term {
	out := api.Term{Var: t.Var, N: t.N}
	for _, arg := range t.Args {
		out.Args = append(out.Args, deepCopy(arg))
	}
	return out
}

// spoil overwrites a term's parts, and the spare room behind them.
func spoil(t api.Term) {
	for i := range t.Args {
		spoil(t.Args[i])
	}
	room := t.Args[:cap(t.Args)]
	for i := range room {
		room[i] = api.Term{N: 77, Args: []api.Term{{}}}
	}
}

// alike holds terms against each other by the library, but for nil and empty.
func alike(a, b api.Term) bool {
	return reflect.DeepEqual(deepCopy(a), deepCopy(b))
}

// roomy is the same term, with spare room behind each list, and a mark in it.
func roomy(t api.Term) api.Term {
	args := make([]api.Term, len(t.Args), len(t.Args)+3)
	for i, arg := range t.Args {
		args[i] = roomy(arg)
	}
	room := args[:cap(args)]
	for i := len(args); i < cap(args); i++ {
		room[i] = api.Term{N: 99}
	}
	return api.Term{Var: t.Var, N: t.N, Args: args}
}

// marked tells whether each mark that roomy made is still there.
func marked(t api.Term) bool {
	for _, arg := range t.Args {
		if !marked(arg) {
			return false
		}
	}
	for _, mark := range t.Args[len(t.Args):cap(t.Args)] {
		if !reflect.DeepEqual(mark, api.Term{N: 99}) {
			return false
		}
	}
	return true
}
