package bind_test

import (
	"reflect"
	"strconv"
	"strings"
	"testing"

	"mendproof/api"
	"mendproof/term"
)

// abcd has two symbols of no argument, and one of one and of two.
var abcd = api.Sig{0, 1, 2, 0}

func v(n int) api.Term { return api.Term{Var: true, N: n} }

func f(n int, args ...api.Term) api.Term { return api.Term{N: n, Args: args} }

// parse reads a term that must be right.
func parse(t *testing.T, text string) api.Term {
	t.Helper()
	out, err := term.Parse(abcd, text)
	if err != api.OK {
		t.Fatalf("Parse(%q) has the error %d", text, err)
	}
	return out
}

// sub reads bindings, such as "X0:b(a) X1:a".
func sub(t *testing.T, text string) api.Sub {
	t.Helper()
	var out api.Sub
	for _, part := range strings.Fields(text) {
		left, right, _ := strings.Cut(part, ":")
		out = append(out, api.Pair{Var: parse(t, left).N, Term: parse(t, right)})
	}
	return out
}

// subText writes bindings as sub reads them.
func subText(s api.Sub) string {
	var out []string
	for _, p := range s {
		out = append(out, "X"+strconv.Itoa(p.Var)+":"+term.Text(p.Term))
	}
	return strings.Join(out, " ")
}

// ofSize are all terms of a, b, c and those variables, each of exactly that
// size.
func ofSize(size int, vars ...int) []api.Term {
	if size < 1 {
		return nil
	}
	if size == 1 {
		out := []api.Term{f(0)}
		for _, n := range vars {
			out = append(out, v(n))
		}
		return out
	}
	var out []api.Term
	for _, x := range ofSize(size-1, vars...) {
		out = append(out, f(1, x))
	}
	for left := 1; left < size-1; left++ {
		for _, x := range ofSize(left, vars...) {
			for _, y := range ofSize(size-1-left, vars...) {
				out = append(out, f(2, x, y))
			}
		}
	}
	return out
}

// upTo are all of those of at most that size.
func upTo(size int, vars ...int) []api.Term {
	var out []api.Term
	for n := 1; n <= size; n++ {
		out = append(out, ofSize(n, vars...)...)
	}
	return out
}

// put is t with each variable as the list has it by its number; written apart
// from the program's own Apply, which is tested by it.
func put(t api.Term, list []api.Term) api.Term {
	if t.Var {
		return list[t.N]
	}
	out := api.Term{N: t.N}
	for _, arg := range t.Args {
		out.Args = append(out.Args, put(arg, list))
	}
	return out
}

func deepCopy(t api.Term) api.Term {
	out := api.Term{Var: t.Var, N: t.N}
	for _, arg := range t.Args {
		out.Args = append(out.Args, deepCopy(arg))
	}
	return out
}

func copySub(s api.Sub) api.Sub {
	var out api.Sub
	for _, p := range s {
		out = append(out, api.Pair{Var: p.Var, Term: deepCopy(p.Term)})
	}
	return out
}

// alike holds terms against each other by the library, but for nil and empty.
func alike(a, b api.Term) bool {
	return reflect.DeepEqual(deepCopy(a), deepCopy(b))
}

func alikeSubs(a, b api.Sub) bool {
	return reflect.DeepEqual(copySub(a), copySub(b))
}

// spoil overwrites a term's parts, and the spare room behind them.
func spoil(t api.Term) {
	for i := range t.Args {
		spoil(t.Args[i])
	}
	room := t.Args[:cap(t.Args)]
	for i := range room {
		room[i] = api.Term{N: 77, Args: []api.Term{{}}}
	}
}

func spoilSub(s api.Sub) {
	for i := range s {
		spoil(s[i].Term)
	}
	room := s[:cap(s)]
	for i := range room {
		room[i] = api.Pair{Var: 77, Term: f(77)}
	}
}

// roomy is the same term, with spare room behind each list, and a mark in it.
func roomy(t api.Term) api.Term {
	args := make([]api.Term, len(t.Args), len(t.Args)+3)
	for i, arg := range t.Args {
		args[i] = roomy(arg)
	}
	room := args[:cap(args)]
	for i := len(args); i < cap(args); i++ {
		room[i] = f(99)
	}
	return api.Term{Var: t.Var, N: t.N, Args: args}
}

// roomySub has marks in the spare room that bind each variable.
func roomySub(s api.Sub) api.Sub {
	out := make(api.Sub, len(s), len(s)+6)
	for i, p := range s {
		out[i] = api.Pair{Var: p.Var, Term: roomy(p.Term)}
	}
	room := out[:cap(out)]
	for i := len(out); i < cap(out); i++ {
		room[i] = api.Pair{Var: i - len(out), Term: f(99)}
	}
	return out
}

// marked tells whether each mark that roomy made is still there.
func marked(t api.Term) bool {
	for _, arg := range t.Args {
		if !marked(arg) {
			return false
		}
	}
	for _, mark := range t.Args[len(t.Args):cap(t.Args)] {
		if !alike(mark, f(99)) {
			return false
		}
	}
	return true
}

func markedSub(s api.Sub) bool {
	for _, p := range s {
		if !marked(p.Term) {
			return false
		}
	}
	for i, mark := range s[len(s):cap(s)] {
		if mark.Var != i || !alike(mark.Term, f(99)) {
			return false
		}
	}
	return true
}
