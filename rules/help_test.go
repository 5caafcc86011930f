package rules_test

import (
	"reflect"
	"slices"
	"strings"
	"testing"

	"mendproof/api"
	"mendproof/clause"
)

// abcd has two symbols of no argument, and one of one and of two.
var abcd = api.Sig{0, 1, 2, 0}

func v(n int) api.Term { return api.Term{Var: true, N: n} }

func f(n int, args ...api.Term) api.Term { return api.Term{N: n, Args: args} }

// is and not are the two kinds of literals.
func is(l, r api.Term) api.Lit { return api.Lit{Left: l, Right: r} }

func not(l, r api.Term) api.Lit { return api.Lit{Neg: true, Left: l, Right: r} }

// chain is b of b of .. of end, with so many b.
func chain(many int, end api.Term) api.Term {
	for range many {
		end = f(1, end)
	}
	return end
}

// parse reads a clause that must be right.
func parse(t *testing.T, text string) api.Clause {
	t.Helper()
	out, err := clause.Parse(abcd, text)
	if err != api.OK {
		t.Fatalf("Parse(%q) has the error %d", text, err)
	}
	return out
}

// texts tells clauses, in turn.
func texts(l []api.Clause) string {
	var out []string
	for _, c := range l {
		out = append(out, clause.Text(c))
	}
	return strings.Join(out, "; ")
}

// counter tells numbers that look mixed; the same ones each time.
func counter(state uint32) func(below int) int {
	return func(below int) int {
		state = state*1664525 + 1013904223
		return int(state>>16) % below
	}
}

// mixed are so many right clauses, of up to MaxLits literals.
func mixed(state uint32, many int) []api.Clause {
	next := counter(state)
	var pick func(deep int) api.Term
	pick = func(deep int) api.Term {
		switch k := next(12); {
		case deep > 0 && k < 4:
			return f(1, pick(deep-1))
		case deep > 0 && k < 7:
			return f(2, pick(deep-1), pick(deep-2))
		case k < 10:
			return v(next(api.MaxVars))
		}
		return f(3 * next(2))
	}
	var out []api.Clause
	for len(out) < many {
		var c api.Clause
		for range next(api.MaxLits + 1) {
			c = append(c, api.Lit{Neg: next(3) == 0, Left: pick(3), Right: pick(2)})
		}
		if clause.Wrong(abcd, c) == api.OK {
			out = append(out, c)
		}
	}
	return out
}

// few are clauses of one or two literals of small terms: more of what comes
// of them is kept than of those that are mixed.
func few() []api.Clause {
	var out []api.Clause
	for _, c := range mixed(9, 400) {
		if len(c) == 1 || len(c) == 2 {
			out = append(out, c)
		}
	}
	return out[:100]
}

func copyTerm(t api.Term) api.Term {
	out := api.Term{Var: t.Var, N: t.N}
	for _, arg := range t.Args {
		out.Args = append(out.Args, copyTerm(arg))
	}
	return out
}

// deepCopy is written apart from the program's own copies.
func deepCopy(c api.Clause) api.Clause {
	var out api.Clause
	for _, l := range c {
		out = append(out, api.Lit{Neg: l.Neg, Left: copyTerm(l.Left), Right: copyTerm(l.Right)})
	}
	return out
}

// alike holds clauses against each other by the library, but for nil and
// empty.
func alike(a, b api.Clause) bool {
	return reflect.DeepEqual(deepCopy(a), deepCopy(b))
}

// mark stands in spare room: it would count if it were looked at.
var mark = f(1, v(1))

func spoilTerm(t api.Term) {
	for i := range t.Args {
		spoilTerm(t.Args[i])
	}
	room := t.Args[:cap(t.Args)]
	for i := range room {
		room[i] = api.Term{N: 77, Args: []api.Term{{}}}
	}
}

// spoil overwrites a clause's parts, and the spare room behind them.
func spoil(c api.Clause) {
	for i := range c {
		spoilTerm(c[i].Left)
		spoilTerm(c[i].Right)
	}
	room := c[:cap(c)]
	for i := range room {
		room[i] = not(f(77), f(78))
	}
}

// roomyList is the same list, with spare room behind it, and marks in it.
func roomyList[T any](l []T, mark T) []T {
	out := append(slices.Clone(l), mark, mark, mark)
	return out[:len(l):len(out)]
}

func roomyTerm(t api.Term) api.Term {
	out := api.Term{Var: t.Var, N: t.N}
	for _, arg := range t.Args {
		out.Args = append(out.Args, roomyTerm(arg))
	}
	out.Args = roomyList(out.Args, mark)
	return out
}

// roomy is the same clause, with spare room behind each list.
func roomy(c api.Clause) api.Clause {
	var out api.Clause
	for _, l := range c {
		out = append(out, api.Lit{Neg: l.Neg, Left: roomyTerm(l.Left), Right: roomyTerm(l.Right)})
	}
	return roomyList(out, not(mark, mark))
}

func markedTerm(t api.Term) bool {
	for _, arg := range t.Args {
		if !markedTerm(arg) {
			return false
		}
	}
	for _, x := range t.Args[len(t.Args):cap(t.Args)] {
		if !reflect.DeepEqual(x, mark) {
			return false
		}
	}
	return true
}

// marked tells whether each mark that roomy made is still there.
func marked(c api.Clause) bool {
	for _, l := range c {
		if !markedTerm(l.Left) || !markedTerm(l.Right) {
			return false
		}
	}
	for _, x := range c[len(c):cap(c)] {
		if !reflect.DeepEqual(x, not(mark, mark)) {
			return false
		}
	}
	return true
}
