package prove_test

import (
	"fmt"
	"reflect"
	"slices"
	"strings"
	"testing"

	"mendproof/api"
	"mendproof/clause"
	"mendproof/prove"
)

// abcd has two symbols of no argument, and one of one and of two.
var abcd = api.Sig{0, 1, 2, 0}

func v(n int) api.Term { return api.Term{Var: true, N: n} }

func f(n int, args ...api.Term) api.Term { return api.Term{N: n, Args: args} }

// is and not are the two kinds of literals.
func is(l, r api.Term) api.Lit { return api.Lit{Left: l, Right: r} }

func not(l, r api.Term) api.Lit { return api.Lit{Neg: true, Left: l, Right: r} }

// chain is b of b of .. of end, with so many b.
func chain(many int, end api.Term) api.Term {
	for range many {
		end = f(1, end)
	}
	return end
}

// parseAll reads clauses that must be right, between which is a semicolon; of
// no text none.
func parseAll(t *testing.T, text string) []api.Clause {
	t.Helper()
	var out []api.Clause
	for _, part := range strings.FieldsFunc(text, func(r rune) bool { return r == ';' }) {
		c, err := clause.Parse(abcd, strings.TrimSpace(part))
		if err != api.OK {
			t.Fatalf("Parse(%q) has the error %d", part, err)
		}
		out = append(out, c)
	}
	return out
}

// start is New of clauses, as parseAll reads them.
func start(t *testing.T, given string) api.Proof {
	t.Helper()
	p, err := prove.New(abcd, parseAll(t, given))
	if err != api.OK {
		t.Fatalf("New(%s) has the error %d", given, err)
	}
	return p
}

// pick is Pick, place by place, without an error.
func pick(t *testing.T, p api.Proof, places ...int) api.Proof {
	t.Helper()
	for _, n := range places {
		next, err := prove.Pick(p, n)
		if err != api.OK {
			t.Fatalf("Pick at %d has the error %d, of\n%s", n, err, tell(p))
		}
		p = next
	}
	return p
}

// tell is a search as it is written: a step a line, and last all else.
func tell(p api.Proof) string {
	var out strings.Builder
	for _, x := range p.Steps {
		fmt.Fprintf(&out, "%d %v %s\n", x.Rule, x.From, clause.Text(x.Clause))
	}
	fmt.Fprintf(&out, "active %v wait %v found %d lost %t", p.Active, p.Wait, p.Found, p.Lost)
	return out.String()
}

// check holds a search against one as it is written.
func check(t *testing.T, name string, p api.Proof, want string) {
	t.Helper()
	if got := tell(p); got != strings.TrimSpace(want) {
		t.Errorf("%s is\n%s\nnot\n%s", name, got, strings.TrimSpace(want))
	}
	if !slices.Equal(p.Sig, abcd) {
		t.Errorf("%s is of the symbols %v", name, p.Sig)
	}
}

// counter tells numbers that look mixed; the same ones each time.
func counter(state uint32) func(below int) int {
	return func(below int) int {
		state = state*1664525 + 1013904223
		return int(state>>16) % below
	}
}

// mixed are so many lists of right clauses, of up to lits literals.
func mixed(state uint32, many, lits, vars int) [][]api.Clause {
	next := counter(state)
	var part func(deep int) api.Term
	part = func(deep int) api.Term {
		switch k := next(12); {
		case deep > 0 && k < 4:
			return f(1, part(deep-1))
		case deep > 0 && k < 6:
			return f(2, part(deep-1), part(deep-2))
		case k < 9:
			return v(next(vars))
		}
		return f(3 * next(2))
	}
	out := make([][]api.Clause, many)
	for i := range out {
		for range 2 + next(api.MaxInput-1) {
			var c api.Clause
			for range 1 + next(lits) {
				c = append(c, api.Lit{Neg: next(3) == 0, Left: part(3), Right: part(2)})
			}
			if clause.Wrong(abcd, c) == api.OK {
				out[i] = append(out[i], c)
			}
		}
	}
	return out
}

// texts tells clauses, in turn.
func texts(l []api.Clause) string {
	var out []string
	for _, c := range l {
		out = append(out, clause.Text(c))
	}
	return strings.Join(out, "; ")
}

func copyTerm(t api.Term) api.Term {
	out := api.Term{Var: t.Var, N: t.N}
	for _, arg := range t.Args {
		out.Args = append(out.Args, copyTerm(arg))
	}
	return out
}

func copyClause(c api.Clause) api.Clause {
	var out api.Clause
	for _, l := range c {
		out = append(out, api.Lit{Neg: l.Neg, Left: copyTerm(l.Left), Right: copyTerm(l.Right)})
	}
	return out
}

// copyList answers nil of a list without entries.
func copyList(l []int) []int {
	return append([]int(nil), l...)
}

// deepCopy is written apart from the program's own copies.
func deepCopy(p api.Proof) api.Proof {
	out := api.Proof{Sig: copyList(p.Sig), Active: copyList(p.Active), Wait: copyList(p.Wait), Found: p.Found, Lost: p.Lost}
	for _, x := range p.Steps {
		out.Steps = append(out.Steps, api.Step{Rule: x.Rule, From: copyList(x.From), Clause: copyClause(x.Clause)})
	}
	return out
}

// alike holds searches against each other by the library, but for nil and
// empty.
func alike(a, b api.Proof) bool {
	return reflect.DeepEqual(deepCopy(a), deepCopy(b))
}

// mark stands in spare room: it would count if it were looked at.
var mark = f(1, v(1))

// markStep would be one that is found.
var markStep = api.Step{Rule: api.RuleInput, From: []int{0}}

func spoilTerm(t api.Term) {
	for i := range t.Args {
		spoilTerm(t.Args[i])
	}
	spoilList(t.Args, api.Term{N: 77, Args: []api.Term{{}}})
}

func spoilClause(c api.Clause) {
	for _, l := range c {
		spoilTerm(l.Left)
		spoilTerm(l.Right)
	}
	spoilList(c, not(f(77), f(78)))
}

// spoilList overwrites a list, and the spare room behind it.
func spoilList[T any](l []T, by T) {
	room := l[:cap(l)]
	for i := range room {
		room[i] = by
	}
}

func spoilStep(x api.Step) {
	spoilList(x.From, 99)
	spoilClause(x.Clause)
}

// spoil overwrites all that a search has, with the spare room.
func spoil(p api.Proof) {
	for _, x := range p.Steps {
		spoilStep(x)
	}
	spoilList(p.Steps, api.Step{Rule: 77})
	spoilList(p.Sig, 99)
	spoilList(p.Active, 99)
	spoilList(p.Wait, 99)
}

// roomyList is the same list, with spare room behind it, and marks in it.
func roomyList[S ~[]T, T any](l S, mark T) S {
	out := append(slices.Clone(l), mark, mark, mark)
	return out[:len(l):len(out)]
}

func roomyTerm(t api.Term) api.Term {
	out := api.Term{Var: t.Var, N: t.N}
	for _, arg := range t.Args {
		out.Args = append(out.Args, roomyTerm(arg))
	}
	out.Args = roomyList(out.Args, mark)
	return out
}

func roomyClause(c api.Clause) api.Clause {
	var out api.Clause
	for _, l := range c {
		out = append(out, api.Lit{Neg: l.Neg, Left: roomyTerm(l.Left), Right: roomyTerm(l.Right)})
	}
	return roomyList(out, not(mark, mark))
}

func roomyClauses(l []api.Clause) []api.Clause {
	var out []api.Clause
	for _, c := range l {
		out = append(out, roomyClause(c))
	}
	return roomyList(out, nil)
}

// roomy is the same search, with spare room behind each list.
func roomy(p api.Proof) api.Proof {
	out := api.Proof{Sig: roomyList(p.Sig, 1), Active: roomyList(p.Active, 0), Wait: roomyList(p.Wait, 0), Found: p.Found, Lost: p.Lost}
	for _, x := range p.Steps {
		out.Steps = append(out.Steps, api.Step{Rule: x.Rule, From: roomyList(x.From, 0), Clause: roomyClause(x.Clause)})
	}
	out.Steps = roomyList(out.Steps, markStep)
	return out
}

// markedList tells whether each mark in a list's spare room is still there.
func markedList[T any](l []T, mark T) bool {
	for _, x := range l[len(l):cap(l)] {
		if !reflect.DeepEqual(x, mark) {
			return false
		}
	}
	return true
}

func markedTerm(t api.Term) bool {
	for _, arg := range t.Args {
		if !markedTerm(arg) {
			return false
		}
	}
	return markedList(t.Args, mark)
}

func markedClause(c api.Clause) bool {
	for _, l := range c {
		if !markedTerm(l.Left) || !markedTerm(l.Right) {
			return false
		}
	}
	return markedList(c, not(mark, mark))
}

// marked tells whether each mark that roomy made is still there.
func marked(p api.Proof) bool {
	for _, x := range p.Steps {
		if !markedList(x.From, 0) || !markedClause(x.Clause) {
			return false
		}
	}
	return markedList(p.Steps, markStep) && markedList(p.Sig, 1) && markedList(p.Active, 0) && markedList(p.Wait, 0)
}
