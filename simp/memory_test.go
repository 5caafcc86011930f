package simp_test

import (
	"slices"
	"testing"

	"mendproof/api"
	"mendproof/clause"
	"mendproof/simp"
	"mendproof/term"
)

// downs are the terms of c, Down, as one clause.
func downs(c api.Clause, units []api.Clause) api.Clause {
	var out api.Clause
	for _, l := range c {
		out = append(out, not(simp.Down(l.Left, units), simp.Down(l.Right, units)))
	}
	return out
}

func TestZ2WhatIsHandedInIsOnlyRead(t *testing.T) {
	lists := unitLists(21, 1500)
	for i, x := range mixed(22, len(lists), api.MaxLits, 3, api.MaxVars) {
		c, units := roomy(x), roomyUnits(lists[i])
		got, err := simp.Rewrite(c, units)
		low := downs(c, units)
		simp.Covers(c, c)
		if !alike(c, x) || !marked(c) {
			t.Fatalf("%s was changed", clause.Text(x))
		}
		if !slices.EqualFunc(units, lists[i], alike) || slices.ContainsFunc(units, func(u api.Clause) bool { return !marked(u) }) {
			t.Fatalf("units %q were changed", texts(lists[i]))
		}
		if behind := units[:len(units)+1][len(units)]; clause.Text(behind) != "X0=a" {
			t.Fatalf("behind units stands %s", clause.Text(behind))
		}
		want, wantErr := simp.Rewrite(x, lists[i])
		if !alike(got, want) || err != wantErr || !alike(low, downs(x, lists[i])) {
			t.Fatalf("spare room behind %s or %q was looked at", clause.Text(x), texts(lists[i]))
		}
	}
}

func TestZ2CoversOnlyReads(t *testing.T) {
	next := counter(23)
	for _, x := range mixed(24, 500, 3, 2, 3) {
		y := instance(next, x)
		c, d := roomy(x), roomy(y)
		if simp.Covers(c, d) != simp.Covers(x, y) {
			t.Fatalf("spare room behind %s or %s was looked at", clause.Text(x), clause.Text(y))
		}
		if !alike(c, x) || !alike(d, y) || !marked(c) || !marked(d) {
			t.Fatalf("%s or %s was changed", clause.Text(x), clause.Text(y))
		}
	}
}

func TestZ2AnswersShareNoMemory(t *testing.T) {
	lists := unitLists(25, 1500)
	for i, x := range mixed(26, len(lists), api.MaxLits, 3, api.MaxVars) {
		c, units := roomy(x), roomyUnits(lists[i])
		want, _ := simp.Rewrite(x, lists[i])
		got, _ := simp.Rewrite(c, units)
		low := downs(c, units)
		spoil(c)
		for _, u := range units {
			spoil(u)
		}
		if !alike(got, want) || !alike(low, downs(x, lists[i])) {
			t.Fatalf("of what came of %s by %q something was kept from it", clause.Text(x), texts(lists[i]))
		}
		c, units = roomy(x), roomyUnits(lists[i])
		got, _ = simp.Rewrite(c, units)
		spoil(got)
		spoil(downs(c, units))
		if !alike(c, x) || !marked(c) || !slices.EqualFunc(units, lists[i], alike) {
			t.Fatalf("%s or %q changes with what came of it", clause.Text(x), texts(lists[i]))
		}
	}
}

// TestZ2PartsShareNoMemory has one variable be in what comes more than once.
func TestZ2PartsShareNoMemory(t *testing.T) {
	units := parseAll(t, "c(c(X0,X1),b(X1))=c(X0,c(X0,X0))")
	got := simp.Down(parseTerm(t, "c(c(b(d),b(b(a))),b(b(b(a))))"), units)
	if term.Text(got) != "c(b(d),c(b(d),b(d)))" {
		t.Fatalf("Down is %s", term.Text(got))
	}
	spoilTerm(got.Args[0])
	if text := term.Text(got.Args[1]); text != "c(b(d),b(d))" {
		t.Errorf("with one argument the other one changes, to %s", text)
	}
	spoilTerm(got.Args[1].Args[0])
	if text := term.Text(got.Args[1].Args[1]); text != "b(d)" {
		t.Errorf("with one argument the other one changes, to %s", text)
	}
}

func TestZ3NilAndEmpty(t *testing.T) {
	none := [][]api.Clause{nil, {}}
	bare := api.Term{N: 1, Args: []api.Term{{Args: []api.Term{}}}}
	for _, units := range none {
		if got := simp.Down(bare, units); term.Text(got) != "b(a)" {
			t.Errorf("by no units b(a) is %s", term.Text(got))
		}
		if got, err := simp.Rewrite(parse(t, "b(a)=a"), units); clause.Text(got) != "b(a)=a" || err != api.OK {
			t.Errorf("by no units b(a)=a is %s, %d", clause.Text(got), err)
		}
	}
	for _, c := range []api.Clause{nil, {}} {
		got, err := simp.Rewrite(c, parseAll(t, "b(X0)=X0"))
		if len(got) != 0 || err != api.OK || simp.Unit(c) {
			t.Errorf("of nothing there comes %s, %d", clause.Text(got), err)
		}
		for _, d := range []api.Clause{nil, {}, {is(bare, f(0))}} {
			if !simp.Covers(c, d) || simp.Covers(d, c) != (len(d) == 0) {
				t.Errorf("of nothing and %s one is covered, or not", clause.Text(d))
			}
		}
	}
	if got := simp.Down(f(1, f(0)), []api.Clause{{is(bare, f(0))}}); term.Text(got) != "a" {
		t.Errorf("by b(a)=a, without arguments of a, b(a) is %s", term.Text(got))
	}
	if !simp.Covers(api.Clause{is(bare, f(0))}, api.Clause{is(f(1, f(0)), f(0))}) {
		t.Error("b(a)=a, without arguments of a, does not cover itself")
	}
}

func TestZ4BesideAnErrorNothing(t *testing.T) {
	if got, err := simp.Rewrite(parse(t, "X1=d | b(b(a))=a | c(a,a)=a"), parseAll(t, "b(X0)=X0")); len(got) != 0 || err != api.ErrNone {
		t.Errorf("beside the error %d there is %s", err, clause.Text(got))
	}
}

func TestG1ClausesThatAreNoUnitsMakeNothingLess(t *testing.T) {
	none := parseAll(t, "[]; b(X0)!=X0; b(X0)=X0 | a=d; a!=d | b(X0)=X0")
	if got := simp.Down(parseTerm(t, "c(b(a),d)"), none); term.Text(got) != "c(b(a),d)" {
		t.Errorf("Down is %s", term.Text(got))
	}
	if got := simp.Down(parseTerm(t, "c(b(a),d)"), append(none, parse(t, "b(X0)=X0"))); term.Text(got) != "c(a,d)" {
		t.Errorf("Down is %s", term.Text(got))
	}
}

func TestZ1WrongClauses(t *testing.T) {
	var long api.Clause
	for n := range 8 {
		long = append(long, is(v(n), chain(n%3, f(0))), not(v(n), f(2, v(n+1), f(3))))
	}
	wrong := []api.Clause{
		nil,
		long,
		{is(v(-1), v(1<<62))},
		{is(f(-7), f(99, v(0)))},
		{is(f(99, f(-7)), v(-1<<63))},
		{not(f(99), f(99, f(0)))},
		{is(f(1), f(1, v(0), v(1)))},
		{is(f(1, v(1), v(0)), f(2, v(2)))},
		{is(f(1, v(0)), f(1))},
		{is(api.Term{Var: true, Args: []api.Term{f(0)}}, f(1, v(0)))},
		{not(f(1, api.Term{Var: true, Args: []api.Term{v(0)}}), v(3))},
		{is(chain(60, v(0)), chain(40, v(1)))},
		{is(chain(60, v(0)), chain(40, v(0)))},
		{is(v(0), f(0))},
		{{}},
		{{}, {Neg: true}},
	}
	l := append(mixed(27, 20, api.MaxLits, 3, api.MaxVars), wrong...)
	for _, c := range l {
		simp.Unit(c)
		for _, d := range l {
			units := []api.Clause{d, c}
			simp.Rewrite(c, units)
			simp.Rewrite(d, append(units, wrong...))
			downs(c, units)
			simp.Covers(c, d)
		}
	}
	deep := api.Clause{is(chain(1<<16-1, v(0)), chain(1<<16-2, f(0)))}
	simp.Down(deep[0].Left, nil)
	simp.Unit(deep)
	simp.Covers(deep, deep)
}
