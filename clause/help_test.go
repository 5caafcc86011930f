package clause_test

import (
	"reflect"
	"testing"

	"mendproof/api"
	"mendproof/clause"
)

// abcd has two symbols of no argument, and one of one and of two.
var abcd = api.Sig{0, 1, 2, 0}

func v(n int) api.Term { return api.Term{Var: true, N: n} }

func f(n int, args ...api.Term) api.Term { return api.Term{N: n, Args: args} }

// is and not are the two kinds of literals.
func is(l, r api.Term) api.Lit { return api.Lit{Left: l, Right: r} }

func not(l, r api.Term) api.Lit { return api.Lit{Neg: true, Left: l, Right: r} }

// chain is b of b of .. of end, with so many b.
func chain(many int, end api.Term) api.Term {
	for range many {
		end = f(1, end)
	}
	return end
}

// parse reads a clause that must be right.
func parse(t *testing.T, text string) api.Clause {
	t.Helper()
	out, err := clause.Parse(abcd, text)
	if err != api.OK {
		t.Fatalf("Parse(%q) has the error %d", text, err)
	}
	return out
}

// ofSize are all terms of abcd and those variables, each of exactly that size.
func ofSize(size int, vars ...int) []api.Term {
	if size < 1 {
		return nil
	}
	if size == 1 {
		out := []api.Term{f(0), f(3)}
		for _, n := range vars {
			out = append(out, v(n))
		}
		return out
	}
	var out []api.Term
	for _, x := range ofSize(size-1, vars...) {
		out = append(out, f(1, x))
	}
	for left := 1; left < size-1; left++ {
		for _, x := range ofSize(left, vars...) {
			for _, y := range ofSize(size-1-left, vars...) {
				out = append(out, f(2, x, y))
			}
		}
	}
	return out
}

// upTo are all of those of at most that size.
func upTo(size int, vars ...int) []api.Term {
	var out []api.Term
	for n := 1; n <= size; n++ {
		out = append(out, ofSize(n, vars...)...)
	}
	return out
}

// litsOf are all literals of those terms.
func litsOf(l []api.Term) []api.Lit {
	var out []api.Lit
	for _, x := range l {
		for _, y := range l {
			out = append(out, is(x, y), not(x, y))
		}
	}
	return out
}

// clausesOf are all clauses of exactly so many of those literals.
func clausesOf(l []api.Lit, many int) []api.Clause {
	if many == 0 {
		return []api.Clause{nil}
	}
	var out []api.Clause
	for _, c := range clausesOf(l, many-1) {
		for _, x := range l {
			out = append(out, append(c[:len(c):len(c)], x))
		}
	}
	return out
}

// mixed are so many clauses of up to 8 literals, of terms of up to 14 parts
// and of variables below 8; the same ones each time.
func mixed(many int) []api.Clause {
	small, state := upTo(3, 0, 2, 5, 7), uint32(1)
	next := func(below int) int {
		state = state*1664525 + 1013904223
		return int(state>>16) % below
	}
	pick := func() api.Term {
		t := small[next(len(small))]
		switch next(12) {
		case 0:
			return chain(9+next(3), t)
		case 1, 2:
			return f(2, t, v(next(8)))
		case 3, 4, 5:
			return v(next(8))
		}
		return small[next(6)]
	}
	var out []api.Clause
	for range many {
		var c api.Clause
		for range next(9) {
			if len(c) > 0 && next(4) == 0 {
				old := c[next(len(c))]
				c = append(c, api.Lit{Neg: old.Neg != (next(6) == 0), Left: old.Right, Right: old.Left})
				continue
			}
			c = append(c, api.Lit{Neg: next(2) == 0, Left: pick(), Right: pick()})
		}
		out = append(out, c)
	}
	return out
}

func copyTerm(t api.Term) api.Term {
	out := api.Term{Var: t.Var, N: t.N}
	for _, arg := range t.Args {
		out.Args = append(out.Args, copyTerm(arg))
	}
	return out
}

// deepCopy is written apart from the program's own copies, which are tested
// by it.
func deepCopy(c api.Clause) api.Clause {
	var out api.Clause
	for _, l := range c {
		out = append(out, api.Lit{Neg: l.Neg, Left: copyTerm(l.Left), Right: copyTerm(l.Right)})
	}
	return out
}

// alike holds clauses against each other by the library, but for nil and
// empty.
func alike(a, b api.Clause) bool {
	return reflect.DeepEqual(deepCopy(a), deepCopy(b))
}

// mark stands in spare room: it would count if it were looked at.
var mark = f(4, v(4))

func spoilTerm(t api.Term) {
	for i := range t.Args {
		spoilTerm(t.Args[i])
	}
	room := t.Args[:cap(t.Args)]
	for i := range room {
		room[i] = api.Term{N: 77, Args: []api.Term{{}}}
	}
}

// spoil overwrites a clause's parts, and the spare room behind them.
func spoil(c api.Clause) {
	for i := range c {
		spoilTerm(c[i].Left)
		spoilTerm(c[i].Right)
	}
	room := c[:cap(c)]
	for i := range room {
		room[i] = not(f(77), f(78))
	}
}

func roomyTerm(t api.Term) api.Term {
	args := make([]api.Term, len(t.Args), len(t.Args)+3)
	for i, arg := range t.Args {
		args[i] = roomyTerm(arg)
	}
	room := args[:cap(args)]
	for i := len(args); i < cap(args); i++ {
		room[i] = mark
	}
	return api.Term{Var: t.Var, N: t.N, Args: args}
}

// roomy is the same clause, with spare room behind each list, and marks in it.
func roomy(c api.Clause) api.Clause {
	out := make(api.Clause, len(c), len(c)+3)
	for i, l := range c {
		out[i] = api.Lit{Neg: l.Neg, Left: roomyTerm(l.Left), Right: roomyTerm(l.Right)}
	}
	room := out[:cap(out)]
	for i := len(out); i < cap(out); i++ {
		room[i] = is(mark, mark)
	}
	return out
}

func markedTerm(t api.Term) bool {
	for _, arg := range t.Args {
		if !markedTerm(arg) {
			return false
		}
	}
	for _, x := range t.Args[len(t.Args):cap(t.Args)] {
		if !reflect.DeepEqual(x, mark) {
			return false
		}
	}
	return true
}

// marked tells whether each mark that roomy made is still there.
func marked(c api.Clause) bool {
	for _, l := range c {
		if !markedTerm(l.Left) || !markedTerm(l.Right) {
			return false
		}
	}
	for _, x := range c[len(c):cap(c)] {
		if !reflect.DeepEqual(x, is(mark, mark)) {
			return false
		}
	}
	return true
}
