package log_test

import (
	"testing"

	"mendproof/api"
	"mendproof/log"
)

func TestZ2CheckOnlyReads(t *testing.T) {
	for i, x := range searched(t) {
		s, in, steps := roomyList(abcd, 1), roomyClauses(x.in), roomySteps(x.steps)
		if i%2 == 0 && len(steps) > 1 {
			steps[len(steps)-1].Rule = api.RuleFactor
		}
		wantErr, wantAt := log.Check(abcd, x.in, copySteps(steps))
		old := whole(s) + whole(in) + whole(steps)
		for range 2 {
			err, at := log.Check(s, in, steps)
			if err != wantErr || at != wantAt {
				t.Fatalf("Check is %d at %d, not %d at %d, of\n%s", err, at, wantErr, wantAt, tell(steps))
			}
			if whole(s)+whole(in)+whole(steps) != old {
				t.Fatalf("Check changed something of %s, or\n%s", texts(x.in), tell(x.steps))
			}
		}
	}
}

func TestZ2TrimOnlyReads(t *testing.T) {
	for _, x := range searched(t) {
		for last := 0; last < len(x.steps); last += 7 {
			steps := roomySteps(x.steps)
			old := whole(steps)
			got := log.Trim(steps, last)
			want := copySteps(trimByWord(x.steps, last))
			if whole(steps) != old || !alike(got, want) {
				t.Fatalf("Trim at %d changed something, or looked at spare room, of\n%s", last, tell(x.steps))
			}
			spoil(got)
			if whole(steps) != old {
				t.Fatalf("with what is left at %d there changes\n%s", last, tell(x.steps))
			}
			got = log.Trim(steps, last)
			spoil(steps)
			if !alike(got, want) {
				t.Fatalf("Trim at %d kept something, of\n%s", last, tell(x.steps))
			}
		}
	}
}

// apart spoils one step after the other: those behind it must still be as
// they were.
func apart(t *testing.T, steps []api.Step) {
	t.Helper()
	old := copySteps(steps)
	for i := range steps {
		if !alike(steps[i:], old[i:]) {
			t.Fatalf("from %d on there changes\n%s", i, tell(old))
		}
		spoilList(steps[i].From, 99)
		if !alike([]api.Step{{Clause: steps[i].Clause}}, []api.Step{{Clause: old[i].Clause}}) {
			t.Fatalf("the clause of step %d changes with its From, of\n%s", i, tell(old))
		}
		spoilStep(steps[i])
	}
}

func TestZ2ListsOfOneAnswerShareNoMemory(t *testing.T) {
	for _, x := range searched(t) {
		for last := range x.steps {
			apart(t, log.Trim(x.steps, last))
		}
	}
	// One clause, and one list of numbers, may be those of many steps.
	c, from := parseAll(t, "c(X0,b(X1))=a | b(X0)!=d")[0], []int{0, 0}
	steps := []api.Step{{Rule: api.RuleInput, From: from, Clause: c}, {Rule: api.RuleSup, From: from, Clause: c}}
	steps = append(steps, api.Step{Rule: api.RuleRewrite, From: []int{1, 0}, Clause: c})
	apart(t, log.Trim(steps, 2))
}

func TestZ3NilAndEmpty(t *testing.T) {
	for _, in := range [][]api.Clause{nil, {}} {
		for _, steps := range [][]api.Step{nil, {}} {
			checks(t, "nothing", in, steps, api.OK, -1)
		}
	}
	a := api.Term{Args: []api.Term{}}
	in := []api.Clause{{is(a, f(1, a))}, {}, nil, {not(a, f(0))}}
	steps := []api.Step{
		{Rule: api.RuleInput, From: []int{0}, Clause: api.Clause{is(f(1, f(0)), a)}},
		{Rule: api.RuleInput, From: []int{1}},
		{Rule: api.RuleInput, From: []int{2}, Clause: api.Clause{}},
		{Rule: api.RuleInput, From: []int{3}},
		{Rule: api.RuleRewrite, From: []int{1, 0}, Clause: api.Clause{}},
	}
	checks(t, "nil and empty", in, steps, api.OK, -1)
	for _, from := range [][]int{nil, {}} {
		for rule := api.RuleInput; rule <= api.RuleRewrite; rule++ {
			checks(t, "from none", in, []api.Step{{Rule: rule, From: from}}, api.ErrFit, 0)
		}
	}
}

// within is a term that is a part of itself.
func within() api.Term {
	t := f(2, f(0), f(0))
	t.Args[0], t.Args[1] = t, t
	return t
}

// Of Check all may be wrong; whatever it is, it ends.
func TestZ1CheckOfAnything(t *testing.T) {
	ring := within()
	clauses := []api.Clause{
		nil,
		{is(ring, ring)},
		{not(f(0), ring)},
		{is(f(1), f(0, v(0))), not(f(-1), f(60, v(-3)))},
		{is(api.Term{Var: true, Args: []api.Term{ring}}, f(0))},
		{is(f(1, v(1<<62)), f(1<<62))},
		make(api.Clause, 1000),
		{is(f(0), f(3))},
	}
	sigs := []api.Sig{nil, abcd, {0}, {2, 2}, {0, -5}, {1 << 62}, make(api.Sig, 1000)}
	froms := [][]int{nil, {0}, {0, 0}, {-1}, {1 << 62, -1 << 63}, {7, 7}, make([]int, 1000)}
	for _, s := range sigs {
		for _, c := range clauses {
			for _, d := range clauses {
				for _, from := range froms {
					for rule := -1; rule <= 7; rule++ {
						steps := []api.Step{{Rule: rule, From: from, Clause: d}, {Rule: rule, From: from, Clause: c}}
						log.Check(s, []api.Clause{c}, steps)
					}
				}
			}
		}
	}
}

func TestZ5TheSameEachTime(t *testing.T) {
	for _, x := range searched(t)[:60] {
		for _, rule := range []int{api.RuleInput, api.RuleSup} {
			steps := copySteps(x.steps)
			if len(steps) > 0 {
				steps[len(steps)/2].Rule = rule
			}
			err, at := log.Check(abcd, x.in, steps)
			for range 3 {
				if again, atAgain := log.Check(abcd, x.in, steps); again != err || atAgain != at {
					t.Fatalf("Check is %d at %d, and %d at %d, of\n%s", err, at, again, atAgain, tell(steps))
				}
				if last := len(steps) - 1; !alike(log.Trim(x.steps, last), log.Trim(x.steps, last)) {
					t.Fatalf("Trim differs, of\n%s", tell(steps))
				}
			}
		}
	}
}
