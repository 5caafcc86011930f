package rules_test

import (
	"slices"
	"testing"

	"mendproof/api"
	"mendproof/clause"
	"mendproof/rules"
)

// all is what comes of both clauses by all rules.
func all(c, d api.Clause) []api.Clause {
	resolved, _ := rules.Resolve(c)
	factored, _ := rules.Factor(c)
	sup, _ := rules.Sup(c, d)
	return slices.Concat(resolved, factored, sup)
}

func TestZ2WhatIsHandedInIsOnlyRead(t *testing.T) {
	for _, x := range mixed(7, 60) {
		for _, y := range few()[:40] {
			c, d := roomy(x), roomy(y)
			got := all(c, d)
			if !alike(c, x) || !alike(d, y) || !marked(c) || !marked(d) {
				t.Fatalf("%s or %s was changed", clause.Text(x), clause.Text(y))
			}
			if !slices.EqualFunc(got, all(x, y), alike) {
				t.Fatalf("spare room behind %s or %s was looked at", clause.Text(x), clause.Text(y))
			}
		}
	}
}

func TestZ2AnswersShareNoMemory(t *testing.T) {
	for _, x := range few()[:40] {
		for _, y := range few()[:40] {
			c, d := roomy(x), roomy(y)
			want := all(x, y)
			got := all(c, d)
			for i := range got {
				spoil(got[i])
				if !slices.EqualFunc(got[i+1:], want[i+1:], alike) {
					t.Fatalf("of %s and %s answers change with each other", clause.Text(x), clause.Text(y))
				}
			}
			if !alike(c, x) || !alike(d, y) || !marked(c) || !marked(d) {
				t.Fatalf("%s or %s changes with an answer", clause.Text(x), clause.Text(y))
			}
			got = all(c, d)
			spoil(c)
			spoil(d)
			if !slices.EqualFunc(got, want, alike) {
				t.Fatalf("answers change with %s or %s", clause.Text(x), clause.Text(y))
			}
		}
	}
}

func TestZ2OneClauseTwice(t *testing.T) {
	for _, x := range few() {
		c := roomy(x)
		got, lost := rules.Sup(c, c)
		want, wantLost := rules.Sup(x, deepCopy(x))
		if !slices.EqualFunc(got, want, alike) || lost != wantLost || !alike(c, x) || !marked(c) {
			t.Fatalf("Sup of %s into itself is %s, not %s", clause.Text(x), texts(got), texts(want))
		}
	}
}

func TestZ3NilAndEmpty(t *testing.T) {
	l := parse(t, "b(a)=a")
	bare := api.Clause{is(api.Term{N: 1, Args: []api.Term{{Args: []api.Term{}}}}, f(0))}
	for _, none := range []api.Clause{nil, {}} {
		if got := all(none, none); len(got) != 0 {
			t.Errorf("of nothing %s comes", texts(got))
		}
		if got := slices.Concat(all(none, l), all(l, none)); len(got) != 0 {
			t.Errorf("of nothing and b(a)=a %s comes", texts(got))
		}
	}
	into := parse(t, "c(b(X0),X0)=a")
	if got := all(bare, into); texts(got) != "c(a,a)=a" {
		t.Errorf("of b(a)=a without arguments of a %s comes", texts(got))
	}
}

func TestZ1WrongClauses(t *testing.T) {
	var long api.Clause
	for n := range 8 {
		long = append(long, is(v(n), chain(n%3, f(0))), not(v(n), f(2, v(n+1), f(3))))
	}
	wrong := []api.Clause{
		nil,
		long,
		{is(v(-1), v(1<<62)), not(v(-1), f(1, v(1<<62)))},
		{is(f(-7), f(99, v(0))), is(f(99, f(-7)), v(-1<<63)), not(f(99), f(99, f(0)))},
		{is(f(1), f(1, v(0), v(1))), is(f(1, v(1), v(0)), f(2, v(2)))},
		{is(api.Term{Var: true, Args: []api.Term{f(0)}}, f(1, v(0))), not(f(1, api.Term{Var: true, Args: []api.Term{v(0)}}), v(3))},
		{is(chain(60, v(0)), chain(40, v(1))), not(chain(90, v(0)), v(2))},
		{{}, {Neg: true}},
	}
	for _, c := range wrong {
		for _, d := range append(few()[:10], wrong...) {
			all(c, d)
			all(d, c)
		}
	}
	deep := api.Clause{not(chain(1<<16-1, v(0)), chain(1<<16-2, v(1))), is(chain(1<<16-1, v(0)), v(1)), is(chain(1<<16-3, v(2)), f(0))}
	rules.Resolve(deep)
	rules.Factor(deep)
}
