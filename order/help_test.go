package order_test

import (
	"reflect"
	"testing"

	"mendproof/api"
	"mendproof/term"
)

// abcd has two symbols of no argument, and one of one and of two.
var abcd = api.Sig{0, 1, 2, 0}

func v(n int) api.Term { return api.Term{Var: true, N: n} }

func f(n int, args ...api.Term) api.Term { return api.Term{N: n, Args: args} }

// parse reads a term that must be right.
func parse(t *testing.T, text string) api.Term {
	t.Helper()
	out, err := term.Parse(abcd, text)
	if err != api.OK {
		t.Fatalf("Parse(%q) has the error %d", text, err)
	}
	return out
}

// ofSize are all terms of abcd and those variables, each of exactly that size.
func ofSize(size int, vars ...int) []api.Term {
	if size < 1 {
		return nil
	}
	if size == 1 {
		out := []api.Term{f(0), f(3)}
		for _, n := range vars {
			out = append(out, v(n))
		}
		return out
	}
	var out []api.Term
	for _, x := range ofSize(size-1, vars...) {
		out = append(out, f(1, x))
	}
	for left := 1; left < size-1; left++ {
		for _, x := range ofSize(left, vars...) {
			for _, y := range ofSize(size-1-left, vars...) {
				out = append(out, f(2, x, y))
			}
		}
	}
	return out
}

// upTo are all of those of at most that size.
func upTo(size int, vars ...int) []api.Term {
	var out []api.Term
	for n := 1; n <= size; n++ {
		out = append(out, ofSize(n, vars...)...)
	}
	return out
}

// put is t with each variable as the list has it by its number.
func put(t api.Term, list []api.Term) api.Term {
	if t.Var {
		return list[t.N]
	}
	out := api.Term{N: t.N}
	for _, arg := range t.Args {
		out.Args = append(out.Args, put(arg, list))
	}
	return out
}

func deepCopy(t api.Term) api.Term {
	out := api.Term{Var: t.Var, N: t.N}
	for _, arg := range t.Args {
		out.Args = append(out.Args, deepCopy(arg))
	}
	return out
}

// alike holds terms against each other by the library, but for nil and empty.
func alike(a, b api.Term) bool {
	return reflect.DeepEqual(deepCopy(a), deepCopy(b))
}

// roomy is the same term, with spare room behind each list, and a mark in it:
// a variable, which would count if it were looked at.
func roomy(t api.Term) api.Term {
	args := make([]api.Term, len(t.Args), len(t.Args)+3)
	for i, arg := range t.Args {
		args[i] = roomy(arg)
	}
	room := args[:cap(args)]
	for i := len(args); i < cap(args); i++ {
		room[i] = v(4)
	}
	return api.Term{Var: t.Var, N: t.N, Args: args}
}

// marked tells whether each mark that roomy made is still there.
func marked(t api.Term) bool {
	for _, arg := range t.Args {
		if !marked(arg) {
			return false
		}
	}
	for _, mark := range t.Args[len(t.Args):cap(t.Args)] {
		if !alike(mark, v(4)) {
			return false
		}
	}
	return true
}
