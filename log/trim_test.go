package log_test

import (
	"slices"
	"testing"

	"mendproof/api"
	"mendproof/clause"
	"mendproof/log"
)

// many are right steps of all rules, of manyIn.
const (
	manyIn = "X0=a | b(X1)=a; b(b(X0))=d; X0!=d | b(X0)!=a; c(X0,X1)=X0"
	many   = `
1 0: X0=a | b(X1)=a
1 3: c(X0,X1)=X0
3 0: b(X0)=a
1 1: b(b(X0))=d
4 3 3: b(d)=d
1 2: X0!=d | b(X0)!=a
2 5: b(d)!=a
5 6 4: d!=a
5 6 1 2 1: []
1 3: c(X0,X1)=X0
4 2 6: []
4 4 6: d!=a`
)

func TestJ2Trim(t *testing.T) {
	in, steps := parseAll(t, manyIn), parseSteps(t, many)
	checks(t, "many", in, steps, api.OK, -1)
	for last, want := range []string{
		"1 0: X0=a | b(X1)=a",
		"1 3: c(X0,X1)=X0",
		`
1 0: X0=a | b(X1)=a
3 0: b(X0)=a`,
		"1 1: b(b(X0))=d",
		`
1 1: b(b(X0))=d
4 0 0: b(d)=d`,
		"1 2: X0!=d | b(X0)!=a",
		`
1 2: X0!=d | b(X0)!=a
2 0: b(d)!=a`,
		`
1 1: b(b(X0))=d
4 0 0: b(d)=d
1 2: X0!=d | b(X0)!=a
2 2: b(d)!=a
5 3 1: d!=a`,
		`
1 0: X0=a | b(X1)=a
1 3: c(X0,X1)=X0
3 0: b(X0)=a
1 2: X0!=d | b(X0)!=a
2 3: b(d)!=a
5 4 1 2 1: []`,
		"1 3: c(X0,X1)=X0",
		`
1 0: X0=a | b(X1)=a
3 0: b(X0)=a
1 2: X0!=d | b(X0)!=a
2 2: b(d)!=a
4 1 3: []`,
		`
1 1: b(b(X0))=d
4 0 0: b(d)=d
1 2: X0!=d | b(X0)!=a
2 2: b(d)!=a
4 1 3: d!=a`,
	} {
		if got, want := log.Trim(steps, last), parseSteps(t, want); !alike(got, want) {
			t.Errorf("at %d comes\n%s\nnot\n%s", last, tell(got), tell(want))
		}
	}
}

// Where nothing is left after two picks, three steps are enough.
func TestJ2AllAreNeeded(t *testing.T) {
	steps := parseSteps(t, "1 0: b(X0)=X0\n1 1: b(a)!=a\n5 1 0: []")
	if got := log.Trim(steps, 2); !alike(got, steps) {
		t.Errorf("there comes\n%s", tell(got))
	}
	// What is behind them is not.
	if got := log.Trim(append(steps, parseSteps(t, "2 1: []\n5 2 0: []")...), 2); !alike(got, steps) {
		t.Errorf("of more there comes\n%s", tell(got))
	}
}

func TestJ2NoSuchStep(t *testing.T) {
	steps := parseSteps(t, many)
	for _, last := range []int{-1, -2, -1 << 63, len(steps), len(steps) + 1, 1<<63 - 1} {
		if got := log.Trim(steps, last); len(got) != 0 {
			t.Errorf("at %d comes\n%s", last, tell(got))
		}
	}
	for _, steps := range [][]api.Step{nil, {}} {
		for _, last := range []int{-1, 0, 1} {
			if got := log.Trim(steps, last); len(got) != 0 {
				t.Errorf("of no steps comes at %d\n%s", last, tell(got))
			}
		}
	}
}

// trimByWord finds out which steps are needed by going round until there are
// no more, and where each of them is by counting.
func trimByWord(steps []api.Step, last int) []api.Step {
	needs := map[int]int{last: 1}
	for had := 0; had < len(needs); {
		had = len(needs)
		for n := range steps {
			if needs[n] == 0 || steps[n].Rule == api.RuleInput {
				continue
			}
			for _, from := range steps[n].From {
				needs[from] = 1
			}
		}
	}
	place := func(n int) int {
		at := 0
		for k := range n {
			at += needs[k]
		}
		return at
	}
	var out []api.Step
	for n, x := range steps {
		if needs[n] == 0 {
			continue
		}
		var from []int
		for _, k := range x.From {
			if x.Rule != api.RuleInput {
				k = place(k)
			}
			from = append(from, k)
		}
		out = append(out, api.Step{Rule: x.Rule, From: from, Clause: x.Clause})
	}
	return out
}

func TestJ2WordByWord(t *testing.T) {
	fewer, found := 0, 0
	for _, x := range searched(t) {
		if x.found >= 0 {
			found++
		}
		for last := range x.steps {
			got := log.Trim(x.steps, last)
			if want := trimByWord(x.steps, last); !alike(got, want) {
				t.Fatalf("at %d comes\n%s\nnot\n%s\nof\n%s", last, tell(got), tell(want), tell(x.steps))
			}
			if len(got) < last+1 {
				fewer++
			}
		}
	}
	if fewer < 500 || found < 10 {
		t.Errorf("%d times there were fewer steps, and %d were found", fewer, found)
	}
}

// used tells whether a later step comes of step n.
func used(steps []api.Step, n int) bool {
	return slices.ContainsFunc(steps, func(x api.Step) bool {
		return x.Rule != api.RuleInput && slices.Contains(x.From, n)
	})
}

// Whoever looks at what is left finds it right, and that it ends with the
// same clause, and that nothing of it could be left out.
func TestJ2WhatIsLeftIsRight(t *testing.T) {
	for _, x := range searched(t) {
		for last := range x.steps {
			if last%5 != 0 && last != x.found {
				continue
			}
			got := log.Trim(x.steps, last)
			checks(t, "what is left", x.in, got, api.OK, -1)
			end := len(got) - 1
			if !clause.Same(got[end].Clause, x.steps[last].Clause) {
				t.Fatalf("at %d the last one is another one, of\n%s", last, tell(x.steps))
			}
			for n := range end {
				if !used(got, n) {
					t.Fatalf("at %d step %d is not needed, of\n%s", last, n, tell(got))
				}
			}
			if again := log.Trim(got, end); !alike(again, got) {
				t.Fatalf("trimmed again there comes\n%s\nof\n%s", tell(again), tell(got))
			}
		}
	}
}

// These are not right: nothing is promised, but what was no step ahead is
// not made one.
func TestZ1TrimOfWrongSteps(t *testing.T) {
	right := parseSteps(t, "1 0: d=a\n5 0: d=a")
	for _, from := range [][]int{{2}, {3}, {4}, {-1}, {1<<63 - 1}, {-1 << 63}, {0, 2}, {1, 0, 4}} {
		for rule := -1; rule <= 7; rule++ {
			if rule == api.RuleInput {
				continue
			}
			step := api.Step{Rule: rule, From: from, Clause: right[0].Clause}
			steps := append(slices.Clone(right), step, step, step)
			for last := -1; last <= len(steps); last++ {
				got := log.Trim(steps, last)
				if err, _ := log.Check(abcd, parseAll(t, "a=d"), got); last >= 2 && last < len(steps) && err == api.OK {
					t.Errorf("of wrong ones come right ones at %d:\n%s", last, tell(got))
				}
			}
		}
	}
	// From the first one twice the second one would come.
	for _, n := range []int{1, 2, -1} {
		steps := parseSteps(t, "1 0: b(b(X0))=d\n4 0 0: b(d)=d\n1 0: b(b(X0))=d")
		steps[1].From[1] = n
		checks(t, "what is trimmed", parseAll(t, "b(b(X0))=d"), log.Trim(steps, 1), api.ErrFit, 1)
	}
	log.Trim([]api.Step{{}, {Rule: 5}, {Rule: 4, Clause: api.Clause{is(f(-1), v(-7)), not(f(99, f(1)), f(1<<62))}}}, 2)
	log.Trim(make([]api.Step, 100_000), 99_999)
}
