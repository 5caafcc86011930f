package simp_test

import (
	"reflect"
	"slices"
	"strings"
	"testing"

	"mendproof/api"
	"mendproof/clause"
	"mendproof/term"
)

// abcd has two symbols of no argument, and one of one and of two.
var abcd = api.Sig{0, 1, 2, 0}

func v(n int) api.Term { return api.Term{Var: true, N: n} }

func f(n int, args ...api.Term) api.Term { return api.Term{N: n, Args: args} }

// is and not are the two kinds of literals.
func is(l, r api.Term) api.Lit { return api.Lit{Left: l, Right: r} }

func not(l, r api.Term) api.Lit { return api.Lit{Neg: true, Left: l, Right: r} }

// chain is b of b of .. of end, with so many b.
func chain(many int, end api.Term) api.Term {
	for range many {
		end = f(1, end)
	}
	return end
}

// parse reads a clause that must be right.
func parse(t *testing.T, text string) api.Clause {
	t.Helper()
	out, err := clause.Parse(abcd, text)
	if err != api.OK {
		t.Fatalf("Parse(%q) has the error %d", text, err)
	}
	return out
}

// parseTerm reads a term that must be right.
func parseTerm(t *testing.T, text string) api.Term {
	t.Helper()
	out, err := term.Parse(abcd, text)
	if err != api.OK {
		t.Fatalf("Parse(%q) has the error %d", text, err)
	}
	return out
}

// parseAll reads clauses, between which is a semicolon; of no text none.
func parseAll(t *testing.T, text string) []api.Clause {
	t.Helper()
	var out []api.Clause
	for _, part := range strings.FieldsFunc(text, func(r rune) bool { return r == ';' }) {
		out = append(out, parse(t, strings.TrimSpace(part)))
	}
	return out
}

// texts tells clauses, in turn.
func texts(l []api.Clause) string {
	var out []string
	for _, c := range l {
		out = append(out, clause.Text(c))
	}
	return strings.Join(out, "; ")
}

// counter tells numbers that look mixed; the same ones each time.
func counter(state uint32) func(below int) int {
	return func(below int) int {
		state = state*1664525 + 1013904223
		return int(state>>16) % below
	}
}

// mixedTerm is a right term, with no more than deep around a part of it.
func mixedTerm(next func(below int) int, deep, vars int) api.Term {
	for {
		if t := mixedPart(next, deep, vars); term.Wrong(abcd, t) == api.OK {
			return t
		}
	}
}

func mixedPart(next func(below int) int, deep, vars int) api.Term {
	switch k := next(12); {
	case deep > 0 && k < 4:
		return f(1, mixedPart(next, deep-1, vars))
	case deep > 0 && k < 7:
		return f(2, mixedPart(next, deep-1, vars), mixedPart(next, deep-1, vars))
	case k < 10:
		return v(next(vars))
	}
	return f(3 * next(2))
}

// mixed are so many right clauses, of up to lits literals.
func mixed(state uint32, many, lits, deep, vars int) []api.Clause {
	next := counter(state)
	out := make([]api.Clause, many)
	for i := range out {
		for range next(lits + 1) {
			l := api.Lit{Neg: next(3) == 0, Left: mixedTerm(next, deep, vars), Right: mixedTerm(next, deep-1, vars)}
			out[i] = append(out[i], l)
		}
	}
	return out
}

// unitLists are so many lists of up to three right units.
func unitLists(state uint32, many int) [][]api.Clause {
	next := counter(state)
	out := make([][]api.Clause, many)
	for i := range out {
		for range next(4) {
			out[i] = append(out[i], api.Clause{is(mixedTerm(next, 2, 3), mixedTerm(next, 2, 3))})
		}
	}
	return out
}

func copyTerm(t api.Term) api.Term {
	out := api.Term{Var: t.Var, N: t.N}
	for _, arg := range t.Args {
		out.Args = append(out.Args, copyTerm(arg))
	}
	return out
}

// deepCopy is written apart from the program's own copies.
func deepCopy(c api.Clause) api.Clause {
	var out api.Clause
	for _, l := range c {
		out = append(out, api.Lit{Neg: l.Neg, Left: copyTerm(l.Left), Right: copyTerm(l.Right)})
	}
	return out
}

// alike holds clauses against each other by the library, but for nil and
// empty.
func alike(a, b api.Clause) bool {
	return reflect.DeepEqual(deepCopy(a), deepCopy(b))
}

// mark stands in spare room: it would count if it were looked at.
var mark = f(1, v(1))

func spoilTerm(t api.Term) {
	for i := range t.Args {
		spoilTerm(t.Args[i])
	}
	room := t.Args[:cap(t.Args)]
	for i := range room {
		room[i] = api.Term{N: 77, Args: []api.Term{{}}}
	}
}

// spoil overwrites a clause's parts, and the spare room behind them.
func spoil(c api.Clause) {
	for i := range c {
		spoilTerm(c[i].Left)
		spoilTerm(c[i].Right)
	}
	room := c[:cap(c)]
	for i := range room {
		room[i] = not(f(77), f(78))
	}
}

// roomyList is the same list, with spare room behind it, and marks in it.
func roomyList[T any](l []T, mark T) []T {
	out := append(slices.Clone(l), mark, mark, mark)
	return out[:len(l):len(out)]
}

func roomyTerm(t api.Term) api.Term {
	out := api.Term{Var: t.Var, N: t.N}
	for _, arg := range t.Args {
		out.Args = append(out.Args, roomyTerm(arg))
	}
	out.Args = roomyList(out.Args, mark)
	return out
}

// roomy is the same clause, with spare room behind each list.
func roomy(c api.Clause) api.Clause {
	var out api.Clause
	for _, l := range c {
		out = append(out, api.Lit{Neg: l.Neg, Left: roomyTerm(l.Left), Right: roomyTerm(l.Right)})
	}
	return roomyList(out, not(mark, mark))
}

// roomyUnits has one more unit in its spare room, which would make much less.
func roomyUnits(l []api.Clause) []api.Clause {
	var out []api.Clause
	for _, c := range l {
		out = append(out, roomy(c))
	}
	return roomyList(out, api.Clause{is(v(0), f(0))})
}

func markedTerm(t api.Term) bool {
	for _, arg := range t.Args {
		if !markedTerm(arg) {
			return false
		}
	}
	for _, x := range t.Args[len(t.Args):cap(t.Args)] {
		if !reflect.DeepEqual(x, mark) {
			return false
		}
	}
	return true
}

// marked tells whether each mark that roomy made is still there.
func marked(c api.Clause) bool {
	for _, l := range c {
		if !markedTerm(l.Left) || !markedTerm(l.Right) {
			return false
		}
	}
	for _, x := range c[len(c):cap(c)] {
		if !reflect.DeepEqual(x, not(mark, mark)) {
			return false
		}
	}
	return true
}
