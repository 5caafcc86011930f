package index_test

import (
	"reflect"
	"slices"
	"strings"
	"testing"

	"mendproof/api"
	"mendproof/clause"
	"mendproof/term"
)

// abcd has two symbols of no argument, and one of one and of two.
var abcd = api.Sig{0, 1, 2, 0}

func v(n int) api.Term { return api.Term{Var: true, N: n} }

func f(n int, args ...api.Term) api.Term { return api.Term{N: n, Args: args} }

// is and not are the two kinds of literals.
func is(l, r api.Term) api.Lit { return api.Lit{Left: l, Right: r} }

func not(l, r api.Term) api.Lit { return api.Lit{Neg: true, Left: l, Right: r} }

// chain is b of b of .. of end, with so many b.
func chain(many int, end api.Term) api.Term {
	for range many {
		end = f(1, end)
	}
	return end
}

// parse reads a clause that must be right.
func parse(t *testing.T, text string) api.Clause {
	t.Helper()
	out, err := clause.Parse(abcd, text)
	if err != api.OK {
		t.Fatalf("Parse(%q) has the error %d", text, err)
	}
	return out
}

// parseTerm reads a term that must be right.
func parseTerm(t *testing.T, text string) api.Term {
	t.Helper()
	out, err := term.Parse(abcd, text)
	if err != api.OK {
		t.Fatalf("Parse(%q) has the error %d", text, err)
	}
	return out
}

// parseTerms reads terms, between which is a space.
func parseTerms(t *testing.T, text string) []api.Term {
	t.Helper()
	var out []api.Term
	for _, part := range strings.Fields(text) {
		out = append(out, parseTerm(t, part))
	}
	return out
}

// texts tells terms, in turn, as parseTerms reads them.
func texts(l []api.Term) string {
	var out []string
	for _, t := range l {
		out = append(out, term.Text(t))
	}
	return strings.Join(out, " ")
}

// ofSize are all terms of abcd and those variables, each of exactly that size.
func ofSize(size int, vars ...int) []api.Term {
	if size < 1 {
		return nil
	}
	if size == 1 {
		out := []api.Term{f(0), f(3)}
		for _, n := range vars {
			out = append(out, v(n))
		}
		return out
	}
	var out []api.Term
	for _, x := range ofSize(size-1, vars...) {
		out = append(out, f(1, x))
	}
	for left := 1; left < size-1; left++ {
		for _, x := range ofSize(left, vars...) {
			for _, y := range ofSize(size-1-left, vars...) {
				out = append(out, f(2, x, y))
			}
		}
	}
	return out
}

// upTo are all of those of at most that size.
func upTo(size int, vars ...int) []api.Term {
	var out []api.Term
	for n := 1; n <= size; n++ {
		out = append(out, ofSize(n, vars...)...)
	}
	return out
}

// counter tells numbers that look mixed; the same ones each time.
func counter(state uint32) func(below int) int {
	return func(below int) int {
		state = state*1664525 + 1013904223
		return int(state>>16) % below
	}
}

// mixedTerm is a right term, with no more than deep around a part of it.
func mixedTerm(next func(below int) int, deep int) api.Term {
	for {
		if t := mixedPart(next, deep); term.Wrong(abcd, t) == api.OK {
			return t
		}
	}
}

func mixedPart(next func(below int) int, deep int) api.Term {
	switch k := next(12); {
	case deep > 0 && k < 4:
		return f(1, mixedPart(next, deep-1))
	case deep > 0 && k < 7:
		return f(2, mixedPart(next, deep-1), mixedPart(next, deep-1))
	case k < 10:
		return v(next(api.MaxVars))
	}
	return f(3 * next(2))
}

// mixed are so many right clauses, of up to MaxLits literals.
func mixed(state uint32, many int) []api.Clause {
	next := counter(state)
	out := make([]api.Clause, many)
	for i := range out {
		for range next(api.MaxLits + 1) {
			out[i] = append(out[i], api.Lit{Neg: next(3) == 0, Left: mixedTerm(next, 4), Right: mixedTerm(next, 3)})
		}
	}
	return out
}

// mixedLists are so many lists of up to 12 right terms.
func mixedLists(state uint32, many int) [][]api.Term {
	next := counter(state)
	out := make([][]api.Term, many)
	for i := range out {
		for range next(13) {
			out[i] = append(out[i], mixedTerm(next, 3))
		}
	}
	return out
}

// copyTerm is written apart from the program's own copies.
func copyTerm(t api.Term) api.Term {
	out := api.Term{Var: t.Var, N: t.N}
	for _, arg := range t.Args {
		out.Args = append(out.Args, copyTerm(arg))
	}
	return out
}

func copyTerms(l []api.Term) []api.Term {
	var out []api.Term
	for _, t := range l {
		out = append(out, copyTerm(t))
	}
	return out
}

// alike holds terms against each other by the library, but for nil and empty.
func alike(a, b []api.Term) bool {
	return reflect.DeepEqual(copyTerms(a), copyTerms(b))
}

// sides are a clause's terms, in turn.
func sides(c api.Clause) []api.Term {
	var out []api.Term
	for _, l := range c {
		out = append(out, l.Left, l.Right)
	}
	return out
}

// mark stands in spare room: it would count if it were looked at.
var mark = f(1, v(1))

// spoil overwrites terms, their parts, and the spare room behind them.
func spoil(l []api.Term) {
	for _, t := range l {
		spoil(t.Args)
	}
	room := l[:cap(l)]
	for i := range room {
		room[i] = api.Term{N: 77, Args: []api.Term{{}}}
	}
}

// roomyList is the same list, with spare room behind it, and marks in it.
func roomyList[T any](l []T, mark T) []T {
	out := append(slices.Clone(l), mark, mark, mark)
	return out[:len(l):len(out)]
}

// roomy are the same terms, with spare room behind each list.
func roomy(l []api.Term) []api.Term {
	var out []api.Term
	for _, t := range l {
		out = append(out, api.Term{Var: t.Var, N: t.N, Args: roomy(t.Args)})
	}
	return roomyList(out, mark)
}

// roomyClause is the same clause, with spare room behind each list.
func roomyClause(c api.Clause) api.Clause {
	var out api.Clause
	for _, l := range c {
		two := roomy([]api.Term{l.Left, l.Right})
		out = append(out, api.Lit{Neg: l.Neg, Left: two[0], Right: two[1]})
	}
	return roomyList(out, not(mark, mark))
}

// marked tells whether each mark that roomy made is still there.
func marked(l []api.Term) bool {
	for _, t := range l {
		if !marked(t.Args) {
			return false
		}
	}
	for _, x := range l[len(l):cap(l)] {
		if !reflect.DeepEqual(x, mark) {
			return false
		}
	}
	return true
}

// markedClause tells the same of what roomyClause made.
func markedClause(c api.Clause) bool {
	for _, t := range sides(c) {
		if !marked(t.Args) {
			return false
		}
	}
	for _, x := range c[len(c):cap(c)] {
		if !reflect.DeepEqual(x, not(mark, mark)) {
			return false
		}
	}
	return true
}
