package log_test

import (
	"reflect"
	"slices"
	"strconv"
	"strings"
	"testing"

	"mendproof/api"
	"mendproof/clause"
	"mendproof/log"
	"mendproof/prove"
)

// abcd has two symbols of no argument, and one of one and of two.
var abcd = api.Sig{0, 1, 2, 0}

func v(n int) api.Term { return api.Term{Var: true, N: n} }

func f(n int, args ...api.Term) api.Term { return api.Term{N: n, Args: args} }

// is and not are the two kinds of literals.
func is(l, r api.Term) api.Lit { return api.Lit{Left: l, Right: r} }

func not(l, r api.Term) api.Lit { return api.Lit{Neg: true, Left: l, Right: r} }

// chain is b of b of .. of end, with so many b.
func chain(many int, end api.Term) api.Term {
	for range many {
		end = f(1, end)
	}
	return end
}

// parse reads a clause that must be right.
func parse(t *testing.T, text string) api.Clause {
	t.Helper()
	c, err := clause.Parse(abcd, strings.TrimSpace(text))
	if err != api.OK {
		t.Fatalf("Parse(%q) has the error %d", text, err)
	}
	return c
}

// parseAll reads clauses, between which is a semicolon; of no text none.
func parseAll(t *testing.T, text string) []api.Clause {
	t.Helper()
	var out []api.Clause
	for _, part := range strings.FieldsFunc(text, func(r rune) bool { return r == ';' }) {
		out = append(out, parse(t, part))
	}
	return out
}

// parseSteps reads a step a line: its rule, From, a colon, its clause.
func parseSteps(t *testing.T, text string) []api.Step {
	t.Helper()
	var out []api.Step
	for _, line := range strings.Split(strings.TrimSpace(text), "\n") {
		if strings.TrimSpace(line) == "" {
			continue
		}
		ahead, behind, _ := strings.Cut(line, ":")
		var numbers []int
		for _, word := range strings.Fields(ahead) {
			n, err := strconv.Atoi(word)
			if err != nil {
				t.Fatalf("%q is no number", word)
			}
			numbers = append(numbers, n)
		}
		out = append(out, api.Step{Rule: numbers[0], From: numbers[1:], Clause: parse(t, behind)})
	}
	return out
}

// tell is steps as parseSteps reads them.
func tell(steps []api.Step) string {
	var lines []string
	for _, x := range steps {
		line := strconv.Itoa(x.Rule)
		for _, n := range x.From {
			line += " " + strconv.Itoa(n)
		}
		lines = append(lines, line+": "+clause.Text(x.Clause))
	}
	return strings.Join(lines, "\n")
}

// texts tells clauses, in turn.
func texts(l []api.Clause) string {
	var out []string
	for _, c := range l {
		out = append(out, clause.Text(c))
	}
	return strings.Join(out, "; ")
}

// checks holds what Check tells against what it should.
func checks(t *testing.T, name string, in []api.Clause, steps []api.Step, want api.Errno, wantAt int) {
	t.Helper()
	if err, at := log.Check(abcd, in, steps); err != want || at != wantAt {
		t.Errorf("%s: Check is %d at %d, not %d at %d, of %s, and\n%s", name, err, at, want, wantAt, texts(in), tell(steps))
	}
}

// counter tells numbers that look mixed; the same ones each time.
func counter(state uint32) func(below int) int {
	return func(below int) int {
		state = state*1664525 + 1013904223
		return int(state>>16) % below
	}
}

// mixed are so many lists of right clauses, of up to lits literals.
func mixed(state uint32, many, lits, vars int) [][]api.Clause {
	next := counter(state)
	var part func(deep int) api.Term
	part = func(deep int) api.Term {
		switch k := next(12); {
		case deep > 0 && k < 4:
			return f(1, part(deep-1))
		case deep > 0 && k < 6:
			return f(2, part(deep-1), part(deep-2))
		case k < 9:
			return v(next(vars))
		}
		return f(3 * next(2))
	}
	out := make([][]api.Clause, many)
	for i := range out {
		for range 2 + next(api.MaxInput-1) {
			var c api.Clause
			for range 1 + next(lits) {
				c = append(c, api.Lit{Neg: next(3) == 0, Left: part(3), Right: part(2)})
			}
			if clause.Wrong(abcd, c) == api.OK {
				out[i] = append(out[i], c)
			}
		}
	}
	return out
}

// logged is what a search was given, and its steps.
type logged struct {
	in    []api.Clause
	steps []api.Step
	found int
}

// searched are mixed searches, each after some picks.
func searched(t *testing.T) []logged {
	t.Helper()
	var out []logged
	for i, l := range slices.Concat(mixed(1, 90, 1, 3), mixed(2, 40, 2, 3), mixed(3, 4, 4, 5)) {
		next := counter(uint32(i))
		p, err := prove.New(abcd, l)
		if err != api.OK {
			t.Fatalf("New(%s) has the error %d", texts(l), err)
		}
		for range 12 {
			if p.Found >= 0 || len(p.Wait) == 0 {
				break
			}
			if p, err = prove.Pick(p, next(len(p.Wait))); err != api.OK {
				t.Fatalf("Pick has the error %d, of %s", err, texts(l))
			}
		}
		out = append(out, logged{l, p.Steps, p.Found})
	}
	return out
}

// copyTerm answers nil of a list without entries, as do all copies here: they
// are written apart from the program's own.
func copyTerm(t api.Term) api.Term {
	out := api.Term{Var: t.Var, N: t.N}
	for _, arg := range t.Args {
		out.Args = append(out.Args, copyTerm(arg))
	}
	return out
}

func copyClause(c api.Clause) api.Clause {
	var out api.Clause
	for _, l := range c {
		out = append(out, api.Lit{Neg: l.Neg, Left: copyTerm(l.Left), Right: copyTerm(l.Right)})
	}
	return out
}

func copySteps(steps []api.Step) []api.Step {
	var out []api.Step
	for _, x := range steps {
		out = append(out, api.Step{Rule: x.Rule, From: append([]int(nil), x.From...), Clause: copyClause(x.Clause)})
	}
	return out
}

// alike holds steps against each other by the library, but for nil and empty.
func alike(a, b []api.Step) bool {
	return reflect.DeepEqual(copySteps(a), copySteps(b))
}

// mark stands in spare room: it would count if it were looked at.
var mark = f(1, v(1))

// markStep would be no right one.
var markStep = api.Step{Rule: 77, From: []int{0}}

// roomyList is the same list, with spare room behind it, and marks in it.
func roomyList[S ~[]T, T any](l S, mark T) S {
	out := append(slices.Clone(l), mark, mark, mark)
	return out[:len(l):len(out)]
}

func roomyTerm(t api.Term) api.Term {
	out := api.Term{Var: t.Var, N: t.N}
	for _, arg := range t.Args {
		out.Args = append(out.Args, roomyTerm(arg))
	}
	out.Args = roomyList(out.Args, mark)
	return out
}

func roomyClause(c api.Clause) api.Clause {
	var out api.Clause
	for _, l := range c {
		out = append(out, api.Lit{Neg: l.Neg, Left: roomyTerm(l.Left), Right: roomyTerm(l.Right)})
	}
	return roomyList(out, not(mark, mark))
}

func roomyClauses(l []api.Clause) []api.Clause {
	var out []api.Clause
	for _, c := range l {
		out = append(out, roomyClause(c))
	}
	return roomyList(out, api.Clause{not(f(9), f(9))})
}

func roomySteps(steps []api.Step) []api.Step {
	var out []api.Step
	for _, x := range steps {
		out = append(out, api.Step{Rule: x.Rule, From: roomyList(x.From, 0), Clause: roomyClause(x.Clause)})
	}
	return roomyList(out, markStep)
}

// whole is all that can be told of lists, with what is in their spare room.
func whole(l any) string {
	return string(addWhole(nil, reflect.ValueOf(l)))
}

func addWhole(out []byte, x reflect.Value) []byte {
	switch x.Kind() {
	case reflect.Slice:
		out = append(strconv.AppendInt(out, int64(x.Len()), 10), '[')
		room := x.Slice(0, x.Cap())
		for i := range room.Len() {
			out = addWhole(out, room.Index(i))
		}
		return append(out, ']')
	case reflect.Struct:
		for i := range x.NumField() {
			out = addWhole(out, x.Field(i))
		}
		return out
	case reflect.Bool:
		return strconv.AppendBool(out, x.Bool())
	}
	return append(strconv.AppendInt(out, x.Int(), 10), ' ')
}

func spoilTerm(t api.Term) {
	for i := range t.Args {
		spoilTerm(t.Args[i])
	}
	spoilList(t.Args, api.Term{N: 77, Args: []api.Term{{}}})
}

func spoilClause(c api.Clause) {
	for _, l := range c {
		spoilTerm(l.Left)
		spoilTerm(l.Right)
	}
	spoilList(c, not(f(77), f(78)))
}

// spoilList overwrites a list, and the spare room behind it.
func spoilList[T any](l []T, by T) {
	room := l[:cap(l)]
	for i := range room {
		room[i] = by
	}
}

func spoilStep(x api.Step) {
	spoilList(x.From, 99)
	spoilClause(x.Clause)
}

// spoil overwrites all that steps have.
func spoil(steps []api.Step) {
	for _, x := range steps {
		spoilStep(x)
	}
	spoilList(steps, api.Step{Rule: 77})
}
