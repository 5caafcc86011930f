package index_test

import (
	"math"
	"slices"
	"testing"

	"mendproof/api"
	"mendproof/clause"
	"mendproof/index"
	"mendproof/term"
)

func TestZ2WhatIsHandedInIsOnlyRead(t *testing.T) {
	next := counter(34)
	for _, x := range mixedLists(35, 1000) {
		one := []api.Term{mixedTerm(next, 3)}
		l, u := roomy(x), roomy(one)
		got := index.Find(l, u[0])
		if !slices.Equal(got, index.Find(x, one[0])) || index.Key(u[0]) != index.Key(one[0]) {
			t.Fatalf("spare room behind %s or %s was looked at", texts(x), texts(one))
		}
		if !alike(l, x) || !alike(u, one) || !marked(l) || !marked(u) {
			t.Fatalf("%s or %s was changed", texts(x), texts(one))
		}
	}
	for _, x := range mixed(36, 1000) {
		c := roomyClause(x)
		if got := index.All(c); !alike(got, index.All(x)) {
			t.Fatalf("spare room behind %s was looked at", clause.Text(x))
		}
		if !alike(sides(c), sides(x)) || !markedClause(c) {
			t.Fatalf("%s was changed", clause.Text(x))
		}
	}
}

func TestZ2AnswersShareNoMemory(t *testing.T) {
	for _, x := range mixed(37, 1000) {
		c, want := roomyClause(x), index.All(x)
		got := index.All(c)
		for i := range got {
			if !alike(got[i:], want[i:]) {
				t.Fatalf("of %s one part changes with another one", clause.Text(x))
			}
			spoil(got[i].Args)
			got[i] = api.Term{}
		}
		spoil(got)
		if !alike(sides(c), sides(x)) || !markedClause(c) {
			t.Fatalf("%s changes with its parts", clause.Text(x))
		}
		got = index.All(c)
		for _, side := range sides(c) {
			spoil(side.Args)
		}
		if !alike(got, want) {
			t.Fatalf("parts change with %s", clause.Text(x))
		}
	}
}

func TestZ3NilAndEmpty(t *testing.T) {
	bare := api.Term{N: 1, Args: []api.Term{{Args: []api.Term{}}}}
	if got := index.Key(bare); got != [3]int{2, 1, -2} {
		t.Errorf("Key is %v", got)
	}
	if got := index.Key(bare.Args[0]); got != [3]int{1, -2, -2} {
		t.Errorf("Key is %v", got)
	}
	for _, l := range [][]api.Term{nil, {}} {
		if got := index.Find(l, v(0)); len(got) != 0 {
			t.Errorf("of none %v are found", got)
		}
	}
	for _, c := range []api.Clause{nil, {}} {
		if got := index.All(c); len(got) != 0 {
			t.Errorf("of nothing there comes %s", texts(got))
		}
	}
	if got := index.All(api.Clause{is(bare, v(0))}); texts(got) != "b(a) a" {
		t.Errorf("All is %s", texts(got))
	}
}

func TestZ1WrongTermsAndClauses(t *testing.T) {
	wrong := []api.Term{
		{},
		f(-7),
		f(math.MaxInt),
		f(math.MinInt, v(-3)),
		f(99, f(-1), v(math.MaxInt)),
		v(-1),
		v(math.MinInt),
		f(0, f(0), f(1), f(2), f(3)),
		f(1),
		f(2, f(2)),
		{Var: true, N: 1, Args: []api.Term{f(0)}},
		f(1, api.Term{Var: true, Args: []api.Term{v(0)}}),
	}
	for _, x := range append(wrong, upTo(3, 0)...) {
		index.Find(wrong, x)
		for _, y := range wrong {
			index.Unify(index.Key(x), index.Key(y))
			index.Match(index.Key(x), index.Key(y))
			index.All(api.Clause{is(x, y), not(y, x)})
		}
	}
	for _, n := range []int{-3, 5, math.MinInt, math.MaxInt} {
		index.Unify([3]int{n, 0, -1}, [3]int{0, n, n})
		index.Match([3]int{n, 0, -1}, [3]int{0, n, n})
	}
}

func TestZ1DeepTerms(t *testing.T) {
	deep := chain(1<<16-1, v(0))
	if got := index.Find([]api.Term{f(0), deep}, f(1, v(1))); !slices.Equal(got, []int{1}) {
		t.Errorf("Find is %v", got)
	}
	got := index.All(api.Clause{is(chain(2000, v(0)), v(1))})
	if len(got) != 2000 || term.Text(got[1999]) != "b(X0)" {
		t.Errorf("All has %d", len(got))
	}
}
