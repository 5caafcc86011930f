package log_test

import (
	"testing"

	"mendproof/api"
	"mendproof/log"
)

func TestJ1RightSteps(t *testing.T) {
	for _, x := range []struct{ name, in, steps string }{
		{"nothing", "", ""},
		{"clauses, and no steps", "a=d; []", ""},
		{"two picks, and nothing is left", "b(X0)=X0; b(a)!=a", `
1 0: b(X0)=X0
1 1: b(a)!=a
5 1 0: []`},
		{"those of the input in any order, and again", "a=d; b(a)=a; []", `
1 2: []
1 0: d=a
1 2: []
1 1: b(a)=a
1 0: d=a`},
		{"of the input, as it is kept", "X3=b(X3) | b(X3)=X3 | a!=a; X1!=X1", `
1 0: b(X0)=X0
1 1: []`},
		{"any one that comes of Resolve", "X0!=a | X1!=d | c(X0,X1)=a; d=a", `
1 0: X0!=a | X1!=d | c(X0,X1)=a
2 0: X0!=a | c(X0,d)=a
1 1: d=a
2 0: X0!=d | c(a,X0)=a
2 1: c(a,d)=a`},
		{"any one that comes of Factor", "X0=a | b(X1)=a", `
1 0: X0=a | b(X1)=a
3 0: b(X0)=a | X1!=b(X0)
3 0: b(X0)=a`},
		{"Sup of the first one into the second one", "b(a)=a; c(b(X0),X0)=a", `
1 1: c(b(X0),X0)=a
1 0: b(a)=a
4 1 0: c(a,a)=a`},
		{"Sup of one into itself", "b(b(X0))=d", `
1 0: b(b(X0))=d
4 0 0: b(d)=d`},
		{"what comes beside something that is lost", "X0!=b(b(b(b(b(X1))))) | X0!=a | c(X0,X0)=a", `
1 0: X0!=b(b(b(b(b(X1))))) | X0!=a | c(X0,X0)=a
2 0: b(b(b(b(b(X0)))))!=a | c(a,a)=a`},
		{"rewritten by none", "c(X0,X1)=a | b(X1)!=d", `
1 0: c(X0,X1)=a | b(X1)!=d
5 0: c(X0,X1)=a | b(X1)!=d`},
		{"rewritten by some that have nothing to do with it", "b(a)=a; c(a,d)!=a; c(d,d)=d", `
1 0: b(a)=a
1 1: c(a,d)!=a
1 2: c(d,d)=d
5 1 0 2 0: c(a,d)!=a`},
		{"rewritten by them in their order", "b(X0)=X0; b(X0)=a; c(b(d),a)!=d", `
1 0: b(X0)=X0
1 1: b(X0)=a
1 2: c(b(d),a)!=d
5 2 0 1: c(d,a)!=d
5 2 1 0: c(a,a)!=d
5 2 1 0 0 1: c(a,a)!=d`},
		{"rewritten, and rewritten again", "d=a; b(d)!=d | c(d,a)=d", `
1 0: d=a
1 1: b(d)!=d | c(d,a)=d
5 1 0: b(a)!=a | c(a,a)=a
5 2 0: b(a)!=a | c(a,a)=a`},
		{"steps behind one that is empty", "[]; a=d", `
1 0: []
5 0: []
1 1: d=a
5 2: d=a`},
	} {
		checks(t, x.name, parseAll(t, x.in), parseSteps(t, x.steps), api.OK, -1)
	}
}

// Each is right but for its last step, which does not come of its rule.
func TestJ1StepsThatDoNotFit(t *testing.T) {
	for _, x := range []struct{ name, in, steps string }{
		{"of no input", "a=d", "1: d=a"},
		{"of two of the input", "a=d; a=d", "1 0 1: d=a"},
		{"of the input below 0", "a=d", "1 -1: d=a"},
		{"of the input behind the last one", "a=d", "1 1: d=a"},
		{"of the input, where there is none", "", "1 0: []"},
		{"of a step, which is not of the input", "a=d", `
1 0: d=a
1 1: d=a`},
		{"of another one of the input", "b(a)=a; a=d", "1 0: d=a"},
		{"of the input, as it was given", "a=d", "1 0: a=d"},
		{"of the input, with other variables", "b(X3)=X3", "1 0: b(X3)=X3"},
		{"of the input, less of it", "a=d | b(a)=a", "1 0: d=a"},
		{"of the input, more of it", "a=d", "1 0: d=a | b(a)=a"},
		{"of the input, which holds always", "X0=X0", "1 0: X0=X0"},
		{"of the input, which holds always: nothing is not it", "X0=X0", "1 0: []"},
		{"of the input, two that can't be in one", "a=d | d!=a", "1 0: []"},

		{"Resolve of none", "X0!=a", `
1 0: X0!=a
2: []`},
		{"Resolve of two", "X0!=a", `
1 0: X0!=a
2 0 0: []`},
		{"Resolve of itself", "[]", "2 0: []"},
		{"Resolve of one below 0", "X0!=a", `
1 0: X0!=a
2 -1: []`},
		{"Resolve of the input, which is no step", "a=d; X0!=a", `
1 0: d=a
2 1: []`},
		{"Resolve, with other variables", "X0!=a | c(X0,X1)=a", `
1 0: X0!=a | c(X0,X1)=a
2 0: c(a,X1)=a`},
		{"Resolve of what can't be the same", "a!=d", `
1 0: d!=a
2 0: []`},
		{"Resolve of one that is not Neg", "X0=a", `
1 0: X0=a
2 0: []`},
		{"Resolve twice at once", "X0!=a | X1!=d | c(X0,X1)=a", `
1 0: X0!=a | X1!=d | c(X0,X1)=a
2 0: c(a,d)=a`},
		{"Resolve, to what is itself", "X0!=X1 | a=d", `
1 0: X0!=X1 | d=a
2 0: X0!=X1 | d=a`},
		{"Resolve, to what is left where something is lost", "X0!=b(b(b(b(b(X1))))) | c(X0,X0)=a", `
1 0: X0!=b(b(b(b(b(X1))))) | c(X0,X0)=a
2 0: []`},
		{"Resolve, of another rule", "X0=a | b(X1)=a", `
1 0: X0=a | b(X1)=a
2 0: b(X0)=a`},

		{"Factor of none", "X0=a | b(X1)=a", `
1 0: X0=a | b(X1)=a
3: b(X0)=a`},
		{"Factor of two", "X0=a | b(X1)=a", `
1 0: X0=a | b(X1)=a
3 0 0: b(X0)=a`},
		{"Factor of itself", "X0=a | b(X1)=a", `
1 0: X0=a | b(X1)=a
3 1: b(X0)=a`},
		{"Factor of one that can't be factored", "a=d", `
1 0: d=a
3 0: d=a`},
		{"Factor, to the first one", "X0=a | b(X1)=a", `
1 0: X0=a | b(X1)=a
3 0: X0=a`},
		{"Factor, of another rule", "X0!=a | b(X0)=a", `
1 0: X0!=a | b(X0)=a
3 0: b(a)=a`},

		{"Sup of one", "b(b(X0))=d", `
1 0: b(b(X0))=d
4 0: b(d)=d`},
		{"Sup of three", "b(b(X0))=d", `
1 0: b(b(X0))=d
4 0 0 0: b(d)=d`},
		{"Sup in the other order", "b(a)=a; c(b(X0),X0)=a", `
1 0: b(a)=a
1 1: c(b(X0),X0)=a
4 1 0: c(a,a)=a`},
		{"Sup, the first one is none", "b(a)=a; c(b(X0),X0)=a", `
1 0: b(a)=a
1 1: c(b(X0),X0)=a
4 -1 1: c(a,a)=a`},
		{"Sup, the second one is itself", "b(a)=a; c(b(X0),X0)=a", `
1 0: b(a)=a
1 1: c(b(X0),X0)=a
4 0 2: c(a,a)=a`},
		{"Sup, the other way round", "b(a)=a; c(b(X0),X0)=a", `
1 0: b(a)=a
1 1: c(b(X0),X0)=a
4 0 1: a=c(a,a)`},
		{"Sup, of another rule", "X0!=a", `
1 0: X0!=a
4 0 0: []`},

		{"rewritten is none", "a=d", `
1 0: d=a
5: d=a`},
		{"rewritten is itself", "a=d", `
1 0: d=a
5 1: d=a`},
		{"rewritten by itself", "a=d", `
1 0: d=a
5 0 1: d=a`},
		{"rewritten by one below 0", "a=d", `
1 0: d=a
5 0 -1: d=a`},
		{"rewritten by none, to another one", "a=d; b(a)=a", `
1 0: d=a
1 1: b(a)=a
5 0: b(a)=a`},
		{"rewritten in another order", "b(X0)=X0; b(X0)=a; c(b(d),a)!=d", `
1 0: b(X0)=X0
1 1: b(X0)=a
1 2: c(b(d),a)!=d
5 2 0 1: c(a,a)!=d`},
		{"rewritten, but not to the end", "b(X0)=X0; b(b(a))!=d", `
1 0: b(X0)=X0
1 1: b(b(a))!=d
5 1 0: b(a)!=d`},
		{"rewritten not at all", "b(X0)=X0; b(b(a))!=d", `
1 0: b(X0)=X0
1 1: b(b(a))!=d
5 1 0: b(b(a))!=d`},
		{"rewritten by one that is Neg", "d!=a; b(a)=a", `
1 0: d!=a
1 1: b(a)=a
5 1 0: b(a)=a`},
		{"rewritten by one of two literals", "b(X0)=X0; a=d | b(a)=d; b(a)!=a", `
1 0: b(X0)=X0
1 1: d=a | b(a)=d
1 2: b(a)!=a
5 2 0 1: []`},
		{"rewritten by one of no literals", "[]; b(a)=a", `
1 0: []
1 1: b(a)=a
5 1 0: b(a)=a`},
		{"rewritten, it holds always: nothing is not it", "b(X0)=X0; b(a)=a", `
1 0: b(X0)=X0
1 1: b(a)=a
5 1 0: []`},
		{"rewritten by itself, it holds always", "b(X0)=X0", `
1 0: b(X0)=X0
5 0 0: b(X0)=X0`},
	} {
		steps := parseSteps(t, x.steps)
		in, last := parseAll(t, x.in), len(steps)-1
		checks(t, x.name, in, steps, api.ErrFit, last)
		checks(t, x.name+", but for that", in, steps[:last], api.OK, -1)
	}
}

func TestJ1NoSuchStepAhead(t *testing.T) {
	in := parseAll(t, "X0!=a; b(X0)=X0")
	for _, n := range []int{2, 3, 4, 100, 1<<63 - 1, -1, -2, -1 << 63} {
		for _, x := range []api.Step{
			{Rule: api.RuleInput, From: []int{n}},
			{Rule: api.RuleResolve, From: []int{n}},
			{Rule: api.RuleFactor, From: []int{n}},
			{Rule: api.RuleSup, From: []int{n, 0}},
			{Rule: api.RuleSup, From: []int{0, n}},
			{Rule: api.RuleRewrite, From: []int{n}},
			{Rule: api.RuleRewrite, From: []int{0, n}},
			{Rule: api.RuleRewrite, From: []int{0, 1, 1, n}},
		} {
			steps := append(parseSteps(t, "1 0: X0!=a\n1 1: b(X0)=X0"), x)
			checks(t, "a number", in, steps, api.ErrFit, 2)
			// What stands behind it is not ahead of it.
			checks(t, "a number", in, append(steps, parseSteps(t, "2 0: []\n2 0: []")...), api.ErrFit, 2)
		}
	}
}

func TestJ1NoSuchRule(t *testing.T) {
	for _, rule := range []int{0, -1, 6, 7, 100, 1<<63 - 1, -1 << 63} {
		for _, from := range [][]int{nil, {0}, {0, 0}, {0, 0, 0}} {
			steps := parseSteps(t, "1 0: d=a")
			steps = append(steps, api.Step{Rule: rule, From: from, Clause: steps[0].Clause})
			checks(t, "no such rule", parseAll(t, "a=d"), steps, api.ErrKind, 1)
		}
	}
}

// wrongOnes are clauses that are not right, and why.
func wrongOnes() map[api.Errno][]api.Clause {
	right := is(f(0), f(3))
	return map[api.Errno][]api.Clause{
		api.ErrMany: {
			make(api.Clause, api.MaxLits+1),
			{right, right, right, right, right},
			{is(f(1), f(0))},
			{is(f(0), f(0, f(0)))},
			{right, not(f(0), api.Term{Var: true, Args: []api.Term{f(0)}})},
		},
		api.ErrName:  {{is(f(4), f(0))}, {is(f(0), f(-1))}, {right, right, right, is(f(0), f(1, f(6)))}},
		api.ErrRange: {{is(v(api.MaxVars), f(0))}, {is(f(0), v(-1))}, {right, not(f(1, v(1<<62)), f(0))}},
		api.ErrMuch: {
			{is(chain(api.MaxSize, f(0)), f(0))},
			{right, is(f(0), f(2, chain(5, v(0)), chain(5, v(0))))},
			{is(chain(99, f(77)), f(0))},
		},
	}
}

func TestJ1WrongClausesOfSteps(t *testing.T) {
	in := parseAll(t, "a=d; X0!=a")
	for want, l := range wrongOnes() {
		for _, c := range l {
			for rule := api.RuleInput; rule <= api.RuleRewrite; rule++ {
				for _, from := range [][]int{nil, {0}, {0, 0}, {-7}, {9, 9, 9}} {
					steps := append(parseSteps(t, "1 1: X0!=a"), api.Step{Rule: rule, From: from, Clause: c})
					checks(t, "ahead of where it comes of", in, steps, want, 1)
				}
			}
			steps := append(parseSteps(t, "1 1: X0!=a"), api.Step{Rule: 6, Clause: c})
			checks(t, "behind its rule", in, steps, api.ErrKind, 1)
		}
	}
}

// Of each step all is looked at ahead of what is behind it.
func TestJ1TheFirstStepThatIsWrong(t *testing.T) {
	in := parseAll(t, "a=d; X0!=a")
	right, kind, name, fit := parseSteps(t, "1 0: d=a"), parseSteps(t, "9: []"), parseSteps(t, "2 0: []"), parseSteps(t, "2 0: []")
	name[0].Clause = api.Clause{is(f(4), f(0))}
	for _, x := range []struct {
		parts [][]api.Step
		want  api.Errno
		at    int
	}{
		{[][]api.Step{right, right, right}, api.OK, -1},
		{[][]api.Step{kind, name, fit}, api.ErrKind, 0},
		{[][]api.Step{name, kind, fit}, api.ErrName, 0},
		{[][]api.Step{fit, kind, name}, api.ErrFit, 0},
		{[][]api.Step{right, fit, name}, api.ErrFit, 1},
		{[][]api.Step{right, name, kind}, api.ErrName, 1},
		{[][]api.Step{right, right, right, kind}, api.ErrKind, 3},
		{[][]api.Step{right, right, name, right, fit}, api.ErrName, 2},
	} {
		var steps []api.Step
		for _, part := range x.parts {
			steps = append(steps, part...)
		}
		checks(t, "the first one", in, steps, x.want, x.at)
	}
}

func TestJ1WhatIsWrongAheadOfSteps(t *testing.T) {
	kind := []api.Step{{Rule: 9}}
	wrong := []api.Clause{{is(f(4), f(0))}}
	tooMany := make([]api.Clause, api.MaxInput+1)
	tooManyWrong := append(make([]api.Clause, api.MaxInput), wrong...)
	tooLong := make([]api.Step, api.MaxSteps+1)
	for _, x := range []struct {
		name  string
		s     api.Sig
		in    []api.Clause
		steps []api.Step
		want  api.Errno
	}{
		{"no symbols", nil, nil, nil, api.ErrMany},
		{"no symbols", api.Sig{}, wrong, kind, api.ErrMany},
		{"too many symbols", make(api.Sig, api.MaxSyms+1), nil, nil, api.ErrMany},
		{"a symbol below 0", api.Sig{0, -1}, nil, nil, api.ErrRange},
		{"a symbol of too much", api.Sig{api.MaxArgs + 1}, nil, nil, api.ErrRange},
		{"symbols, and too many clauses", api.Sig{3}, tooMany, tooLong, api.ErrRange},
		{"symbols, and a clause", api.Sig{3}, wrong, kind, api.ErrRange},
		{"too many clauses", abcd, tooMany, nil, api.ErrMany},
		{"too many clauses, and one is wrong", abcd, tooManyWrong, kind, api.ErrMany},
		{"too many steps", abcd, nil, tooLong, api.ErrMany},
		{"too many steps, and a clause is wrong", abcd, wrong, tooLong, api.ErrMany},
		{"too many of both", abcd, tooMany, tooLong, api.ErrMany},
		{"a clause, and no step", abcd, wrong, nil, api.ErrName},
		{"a clause, and a step", abcd, wrong, kind, api.ErrName},
		{"the last clause", abcd, tooManyWrong[1:], nil, api.ErrName},
	} {
		if err, at := log.Check(x.s, x.in, x.steps); err != x.want || at != -1 {
			t.Errorf("%s: Check is %d at %d, not %d at -1", x.name, err, at, x.want)
		}
	}
}

func TestJ1WrongClausesOfTheInput(t *testing.T) {
	right := parseAll(t, "a=d")
	steps := parseSteps(t, "1 0: d=a")
	for want, l := range wrongOnes() {
		for _, c := range l {
			checks(t, "an only one", []api.Clause{c}, nil, want, -1)
			checks(t, "one that no step needs", append(right[:1:1], c), steps, want, -1)
			if len(c) < api.MaxLits {
				// Even one that holds always must be right.
				always := append(api.Clause{is(f(0), f(0))}, c...)
				checks(t, "one that holds always", []api.Clause{always}, nil, want, -1)
			}
		}
	}
	// The first one counts.
	name, much := api.Clause{is(f(4), f(0))}, api.Clause{is(chain(api.MaxSize, f(0)), f(0))}
	checks(t, "two", []api.Clause{name, much}, nil, api.ErrName, -1)
	checks(t, "two", []api.Clause{much, name}, nil, api.ErrMuch, -1)
}

func TestJ1AsManyAsThereMayBe(t *testing.T) {
	in := parseAll(t, "a=d;a=d;a=d;a=d;a=d;a=d;a=d;X0!=d")
	steps := parseSteps(t, "1 7: X0!=d")
	for len(steps) < api.MaxSteps {
		steps = append(steps, parseSteps(t, "2 0: []")...)
	}
	checks(t, "as many", in, steps, api.OK, -1)
	last := api.MaxSteps - 1
	steps[last].Rule = api.RuleFactor
	checks(t, "as many, the last one wrong", in, steps, api.ErrFit, last)
	steps[last] = api.Step{Rule: api.RuleRewrite, From: []int{last - 1}}
	checks(t, "as many, the last one of the one ahead", in, steps, api.OK, -1)
	checks(t, "one more", in, append(steps, steps[0]), api.ErrMany, -1)
	checks(t, "one more of the input", append(in, in[0]), steps, api.ErrMany, -1)
}

func TestJ1TheGreatest(t *testing.T) {
	var c api.Clause
	for n := range api.MaxLits {
		c = append(c, is(chain(api.MaxSize-3-n, f(2, v(n), v(n+1))), f(0)))
	}
	s := api.Sig{0, 1, 2, 2, 2, 2}
	steps := []api.Step{{Rule: api.RuleInput, From: []int{7}, Clause: c}, {Rule: api.RuleRewrite, From: []int{0}, Clause: c}}
	if err, at := log.Check(s, []api.Clause{c, c, c, c, c, c, c, c}, steps); err != api.OK || at != -1 {
		t.Errorf("Check is %d at %d", err, at)
	}
}

// The promise sets no bound to how many a clause is rewritten by.
func TestJ1RewrittenByVeryMany(t *testing.T) {
	in := parseAll(t, "b(X0)=X0; b(b(a))!=d")
	steps := parseSteps(t, "1 0: b(X0)=X0\n1 1: b(b(a))!=d\n5 1: d!=a")
	steps[2].From = append(steps[2].From, make([]int, 50_000)...)
	checks(t, "by many", in, steps, api.OK, -1)
	steps[2].From[len(steps[2].From)-1] = 1
	checks(t, "by many, the last one no unit", in, steps, api.ErrFit, 2)
}
