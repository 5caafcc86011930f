package simp_test

import (
	"slices"
	"testing"

	"mendproof/api"
	"mendproof/bind"
	"mendproof/clause"
	"mendproof/simp"
	"mendproof/term"
)

func TestG1Covers(t *testing.T) {
	for _, x := range []struct {
		c, d string
		want bool
	}{
		// No literals are all of any clause's.
		{"[]", "[]", true},
		{"[]", "a=d", true},
		{"[]", "a!=d | X0=X1", true},
		{"a=d", "[]", false},
		{"X0=X0", "[]", false},
		// Each literal is one of d's, whatever else d has.
		{"a=d", "a=d", true},
		{"a=d", "X0=a | a=d | a!=b(a)", true},
		{"a=d", "X0=a | a=a", false},
		{"a=d | b(a)=a", "a=d", false},
		{"a=d | b(a)=a", "b(a)=a", false},
		{"a=d | b(a)=a", "b(a)=a | d!=d | a=d", true},
		{"a=d | a=d", "a=d", true},
		// Either way, Neg or not, but not one for the other.
		{"a=d", "d=a", true},
		{"a!=d", "d!=a", true},
		{"a=d", "a!=d", false},
		{"a!=d", "a=d", false},
		{"X0!=X1", "a=d", false},
		{"X0=X1", "a!=d | b(a)!=d", false},
		{"a!=d | b(a)=d", "a=d | b(a)!=d", false},
		{"b(X0)=a", "a=b(d)", true},
		{"a=b(X0)", "b(X3)=a", true},
		// Variables of c are bound, those of d are not.
		{"X0=a", "d=a", true},
		{"X0=a", "a=b(d)", true},
		{"d=a", "X0=a", false},
		{"X0=X1", "c(a,d)=b(X0)", true},
		{"X0=X0", "a=a", true},
		{"X0=X0", "a=d", false},
		{"b(X0)=X0", "b(X1)=X1", true},
		{"b(X0)=X0", "X4=b(X4)", true},
		{"b(X0)=X0", "b(X0)=X1", false},
		{"b(X0)=X1", "b(X2)=X2", true},
		{"b(X0)=X0", "b(b(a))=b(a)", true},
		{"b(X0)=X0", "b(b(a))=a", false},
		{"b(b(X0))=X0", "b(X0)=X0", false},
		{"c(X0,X0)=a", "c(X0,X1)=a", false},
		{"c(X0,X1)=a", "c(X0,X0)=a", true},
		{"c(X0,X1)=a", "c(X1,X0)=a", true},
		{"c(X0,X1)=X0", "c(X1,X0)=X1", true},
		{"c(X0,X1)=X0", "c(X1,X0)=X0", false},
		{"c(X0,b(X1))=X1", "c(X1,b(X0))=X0", true},
		// One binding for all of c's literals.
		{"b(X0)=a | c(X0,X0)=a", "b(a)=a | c(a,a)=a", true},
		{"b(X0)=a | c(X0,X0)=a", "b(a)=a | c(d,d)=a", false},
		{"b(X0)=a | c(X1,X1)=a", "b(a)=a | c(d,d)=a", true},
		{"b(X0)=a | X0=d", "b(X1)=a | X0=d", false},
		{"b(X0)=a | X0!=d", "b(X1)=a | X1!=d | X0=d", true},
		// Two of c's literals may be the same one of d's.
		{"X0=a | X1=a", "d=a", true},
		{"X0=a | X1=d", "a=d", true},
		{"X0=X1 | X1=X0", "a=d", true},
		{"b(X0)=a | b(X1)=X2 | X3=X4", "b(d)=a", true},
		{"b(X0)=a | b(X0)=X1 | X1=b(X0)", "b(d)=a", true},
		{"b(X0)=a | b(X0)=X1 | X1=X0", "b(d)=a", false},
		// What was chosen first need not be what stays.
		{"b(X0)=a | c(X0,X0)=a", "b(a)=a | b(d)=a | c(d,d)=a", true},
		{"X0=X1 | b(X0)=a", "a=d | b(d)=a", true},
		{"X0=X1 | b(X0)=a", "b(d)=a | d=X3", true},
		{"X0=X1 | X1=X2 | X2=d", "d=b(a) | b(a)=a", true},
		{"X0!=X1 | X1!=X2 | X2!=X3 | X3!=X4", "b(X0)!=a | d!=b(X0) | a!=X1 | X1!=X2", true},
		{"X0=X1 | X1=X2 | X0=X2", "a=d | d=b(a) | b(a)=a", true},
		{"X0=X1 | X1=X2 | X0=X2", "a=d | d=b(a) | b(a)=X0 | X0=a", false},
		{"X0=X1 | X1=X2 | X2=X3 | X0=X3", "a=d | d=b(a) | b(a)=X0 | X0=a", true},
		// As it is written, not as it could be seen to hold.
		{"a=a", "d=d", false},
		{"a=d", "b(a)=b(d)", false},
		{"X0=X1", "a!=a", false},
	} {
		if got := simp.Covers(parse(t, x.c), parse(t, x.d)); got != x.want {
			t.Errorf("Covers(%s, %s) is %t", x.c, x.d, got)
		}
	}
}

// parts are all that c's variables could be for a literal to be one of d's.
func parts(d api.Clause) []api.Term {
	var out []api.Term
	for _, l := range d {
		out = addParts(addParts(out, l.Left), l.Right)
	}
	return out
}

func addParts(out []api.Term, t api.Term) []api.Term {
	if !slices.ContainsFunc(out, func(u api.Term) bool { return term.Same(t, u) }) {
		out = append(out, t)
	}
	for _, arg := range t.Args {
		out = addParts(out, arg)
	}
	return out
}

// allOf tells whether each literal of c is one of d's, either way.
func allOf(c, d api.Clause) bool {
	for _, l := range c {
		turned := api.Lit{Neg: l.Neg, Left: l.Right, Right: l.Left}
		if !slices.ContainsFunc(d, func(m api.Lit) bool { return clause.SameLit(l, m) || clause.SameLit(turned, m) }) {
			return false
		}
	}
	return true
}

// coversByWord tries all that could be bound.
func coversByWord(c, d api.Clause) bool {
	return bindAll(clause.Vars(c), parts(d), nil, func(s api.Sub) bool { return allOf(clause.Apply(s, c), d) })
}

func bindAll(vars []int, to []api.Term, s api.Sub, holds func(s api.Sub) bool) bool {
	if len(vars) == 0 {
		return holds(s)
	}
	for _, u := range to {
		if bindAll(vars[1:], to, append(slices.Clip(s), api.Pair{Var: vars[0], Term: u}), holds) {
			return true
		}
	}
	return false
}

// instance is c, with its variables bound to some terms, its literals one way
// or the other, and one more; at times one of all of them is changed.
func instance(next func(below int) int, c api.Clause) api.Clause {
	var s api.Sub
	for n := range api.MaxVars {
		s = append(s, api.Pair{Var: n, Term: mixedTerm(next, 1, 3)})
	}
	d := clause.Apply(s, c)
	for i, l := range d {
		if next(2) == 0 {
			d[i].Left, d[i].Right = l.Right, l.Left
		}
	}
	d = append(d, api.Lit{Neg: next(2) == 0, Left: mixedTerm(next, 1, 3), Right: mixedTerm(next, 0, 3)})
	if next(2) == 0 {
		slices.Reverse(d)
	}
	if next(2) == 0 {
		d[next(len(d))].Left = mixedTerm(next, 1, 3)
	}
	return d
}

func TestG1CoversWordByWord(t *testing.T) {
	next := counter(11)
	often := map[bool]int{}
	check := func(c, d api.Clause) {
		t.Helper()
		want := coversByWord(c, d)
		if got := simp.Covers(c, d); got != want {
			t.Fatalf("Covers(%s, %s) is %t", clause.Text(c), clause.Text(d), got)
		}
		often[want]++
	}
	for _, c := range mixed(12, 2000, 3, 2, 3) {
		check(c, instance(next, c))
	}
	l := mixed(13, 60, 2, 1, 2)
	for _, c := range l {
		for _, d := range l {
			check(c, d)
		}
	}
	if often[false] < 500 || often[true] < 500 {
		t.Errorf("of what was told there were %v", often)
	}
}

func TestG1CoversItselfAndWhatIsCovered(t *testing.T) {
	l := mixed(14, 70, 2, 1, 3)
	many := 0
	for _, c := range l {
		if !simp.Covers(c, c) || !simp.Covers(c, clause.Rename(c, 1)) {
			t.Errorf("%s does not cover itself", clause.Text(c))
		}
		for _, d := range l {
			if !simp.Covers(c, d) {
				continue
			}
			for _, e := range l {
				if simp.Covers(d, e) {
					many++
					if !simp.Covers(c, e) {
						t.Fatalf("%s covers %s, and that %s", clause.Text(c), clause.Text(d), clause.Text(e))
					}
				}
			}
		}
	}
	if many < 1000 {
		t.Errorf("only %d were seen", many)
	}
}

func TestG1WhatIsCoveredTellsNothingNew(t *testing.T) {
	h := newHeld()
	next := counter(15)
	many := 0
	for _, c := range mixed(16, 500, 3, 1, 2) {
		if d := instance(next, c); simp.Covers(c, d) {
			h.follows(t, d, c)
			many++
		}
	}
	if many < 100 {
		t.Errorf("only %d were covered", many)
	}
}

// TestG1CoversAsItIsMatched asks of units what bind tells of terms.
func TestG1CoversAsItIsMatched(t *testing.T) {
	next := counter(17)
	often := map[bool]int{}
	for range 3000 {
		pattern, x := mixedTerm(next, 2, 3), mixedTerm(next, 2, 3)
		_, want := bind.Match(pattern, x)
		c, d := api.Clause{not(f(2, f(0), pattern), f(3))}, api.Clause{not(f(3), f(2, f(0), x))}
		if got := simp.Covers(c, d); got != want {
			t.Fatalf("Covers is %t, and it is %t that %s matches %s", got, want, term.Text(pattern), term.Text(x))
		}
		often[want]++
	}
	if often[false] < 100 || often[true] < 100 {
		t.Errorf("of what was told there were %v", often)
	}
}
