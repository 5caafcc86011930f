package rules_test

import (
	"slices"
	"testing"

	"mendproof/api"
	"mendproof/bind"
	"mendproof/clause"
	"mendproof/order"
	"mendproof/rules"
	"mendproof/term"
)

// check holds what came against clauses as they are written, in turn.
func check(t *testing.T, name, want string, lost bool, got []api.Clause, gotLost bool) {
	t.Helper()
	if texts(got) != want || gotLost != lost {
		t.Errorf("%s is\n%s (%t), not\n%s (%t)", name, texts(got), gotLost, want, lost)
	}
}

func TestF1Resolve(t *testing.T) {
	for _, x := range []struct {
		c, want string
		lost    bool
	}{
		{"[]", "", false},
		{"a!=a", "[]", false},
		{"X0!=X0", "[]", false},
		{"X3!=X1", "[]", false},
		{"a!=d", "", false},
		{"X0=X1", "", false},
		{"a=a | X0=X0", "", false},
		{"X0!=b(X0)", "", false},
		{"c(X0,a)!=c(d,X0)", "", false},
		{"X0!=a | b(X0)=a", "b(a)=a", false},
		{"X0=a | X1!=b(X0)", "X0=a", false},
		{"X2!=X4 | c(X2,X4)=a", "c(X0,X0)=a", false},
		{"c(X0,b(X1))!=c(b(a),X0) | c(X0,X1)=X2", "c(b(a),a)=X0", false},
		// One literal at a time is left out, literal by literal.
		{"X0!=a | X1!=d | c(X0,X1)=a", "X0!=d | c(a,X0)=a; X0!=a | c(X0,d)=a", false},
		{"X0!=a | d=b(X0) | X1!=b(X1) | X1!=X0", "b(a)=d | b(X0)!=X0 | X0!=a; X0!=a | b(X0)=d | b(X0)!=X0", false},
		// What is there already does not come again.
		{"X0!=a | X1!=a", "X0!=a", false},
		{"X0!=X1 | X1!=X2 | X2!=X3", "X0!=X1 | X1!=X2", false},
		{"a!=a | d!=d | X0=a", "X0=a", false},
		// What holds always is nothing, and nothing is lost by it.
		{"X0!=a | X0=a", "", false},
		{"X0!=a | b(X0)=d | b(a)!=d", "", false},
		// What is too much is lost, but not if it holds always; the rest comes.
		{"X0!=b(b(b(b(X1)))) | c(X0,b(X0))=a", "c(b(b(b(b(X0)))),b(b(b(b(b(X0))))))=a", false},
		{"X0!=b(b(b(b(b(X1))))) | c(X0,X0)=a", "", true},
		{"X0!=b(b(b(b(b(X1))))) | c(X0,X0)=a | X0=b(b(b(b(b(X1)))))", "", false},
		{"X0!=b(b(b(b(b(X1))))) | c(X0,X0)=a | X2!=d", "X0!=b(b(b(b(b(X1))))) | c(X0,X0)=a", true},
		{"X2!=d | X0!=b(b(b(b(b(X1))))) | c(X0,X0)=a", "X0!=b(b(b(b(b(X1))))) | c(X0,X0)=a", true},
	} {
		got, lost := rules.Resolve(parse(t, x.c))
		check(t, "Resolve("+x.c+")", x.want, x.lost, got, lost)
	}
}

func TestF1Factor(t *testing.T) {
	for _, x := range []struct {
		c, want string
		lost    bool
	}{
		{"[]", "", false},
		{"X0=a", "", false},
		{"X0=X1", "", false},
		{"a=b(a) | d=b(d)", "", false},
		{"b(X0)=a | b(a)=a", "b(a)=a; b(a)=a | b(X0)!=b(a)", false},
		{"X0=a | b(X1)=a", "b(X0)=a; b(X0)=a | X1!=b(X0)", false},
		// One that is Neg is neither the first nor the one behind it.
		{"X0!=a | X1!=a", "", false},
		{"X0!=a | X1=a", "", false},
		{"X0=a | X1!=a", "", false},
		{"X0=a | X1!=a | X2=a", "X0!=a | X1=a; X0!=a | X1=a | X2!=X1", false},
		// Both both ways, the first one's way kept the longer; what is told of
		// the second terms tells the first literal's first.
		{"X0=b(X1) | X2=b(d)", "X0=b(d) | b(X1)!=b(d); X0=b(d) | b(X1)!=X0; b(X0)=b(d) | X1!=b(d); X0=b(d) | X1!=X0", false},
		// All of one pair of literals comes ahead of what comes of the next pair.
		{"b(X0)=d | d=c(X0,X0) | b(a)=a", "c(X0,X0)=d | b(a)=a | c(X0,X0)!=b(X0); c(a,a)=d | b(a)=a | d!=a", false},
		{"b(X0)=d | c(X0,X0)=a | c(X1,b(X2))=d", "c(X0,X0)=a | c(X1,b(X2))=d | b(X0)!=c(X1,b(X2)); b(b(X0))=d | c(b(X0),b(X0))=d | d!=a", false},
		{"X0=a | X0=d | b(X0)=d", "X0=d | b(X0)=d | d!=a; X0=a | b(X0)=d | b(X0)!=X0", false},
		// What holds always is nothing.
		{"b(X0)=a | b(X0)=d | a!=d", "b(X0)=d | d!=a", false},
		{"b(X0)=a | b(X0)=d | a=d", "", false},
		// What is too much is lost, and the rest comes.
		{"c(X0,X0)=X1 | c(b(b(b(b(b(X2))))),X3)=a", "c(b(b(b(b(b(X0))))),X1)=a | c(X2,X2)!=a; c(b(b(b(b(b(X0))))),X1)=a | c(X2,X2)!=c(b(b(b(b(b(X0))))),X1)", true},
	} {
		got, lost := rules.Factor(parse(t, x.c))
		check(t, "Factor("+x.c+")", x.want, x.lost, got, lost)
	}
}

func TestF1Sup(t *testing.T) {
	for _, x := range []struct {
		c, d, want string
		lost       bool
	}{
		{"[]", "[]", "", false},
		{"b(a)=a", "[]", "", false},
		{"[]", "b(a)=a", "", false},
		{"b(a)=a", "c(b(X0),X0)=a", "c(a,a)=a", false},
		{"b(a)=a", "b(a)!=d", "d!=a", false},
		{"b(a)=a", "b(a)!=a", "[]", false},
		// One that is Neg is not taken of c, nor is a first term that is a
		// variable, nor is a variable looked at within d.
		{"b(a)!=a", "b(a)=d", "", false},
		{"X0=a", "b(a)=d", "b(X0)=d", false},
		{"X0=X1", "b(a)=d", "", false},
		{"b(a)=a", "c(X0,X0)=X1", "", false},
		// Variables of d are others than those of c.
		{"b(X0)=X0", "c(X0,b(X1))=X0", "c(X0,X1)=X0", false},
		{"b(X0)=X0", "X0!=b(b(X0))", "b(X0)!=X0", false},
		{"b(b(X0))=a", "b(b(X0))=a", "b(a)=a", false},
		{"c(X4,X3)=X3 | X4=a", "c(X4,X3)=d | X3=d", "X0=a | X1=d", false},
		// Place by place, outer ones first, and the first ones first.
		{"b(X0)=a", "c(b(X1),b(b(X2)))=d", "c(a,b(b(X0)))=d; c(b(X0),a)=d; c(b(X0),b(a))=d", false},
		{"b(X0)=X0", "b(b(b(a)))=c(a,a)", "c(a,a)=b(b(a))", false},
		// c without its literal, behind that d; and c's literals first, then d's.
		{"X1=d | b(X0)=a", "d!=X3 | c(b(X2),X2)=X2", "b(X0)=a | X1!=X2 | c(b(X3),X3)=X3; X0=d | d!=X1 | c(a,X2)=X2", false},
		{"b(X0)=a | b(X0)=d", "b(b(X0))!=X0 | X1=b(X1)",
			"b(b(X0))=d | a!=X0 | b(X1)=X1; b(X0)=d | b(a)!=X0 | b(X1)=X1; b(X0)=d | b(b(X1))!=X1 | X0=a; " +
				"b(b(X0))=a | d!=X0 | b(X1)=X1; b(X0)=a | b(d)!=X0 | b(X1)=X1; b(X0)=a | b(b(X1))!=X1 | X0=d", false},
		{"a=X0", "c(a,X0)=c(X1,a)", "c(X0,X1)=c(X2,a); c(a,X0)=c(X1,X2)", false},
		// What is changed of d stands where it stood.
		{"b(X0)=X0", "b(X0)!=b(X1) | X0=X1", "X0!=b(X1) | X0=X1; b(X0)!=X1 | X0=X1", false},
		// So bound, neither second term is above its first one.
		{"c(X0,X1)=c(X1,X0)", "c(d,a)!=d", "c(a,d)!=d", false},
		{"c(X0,X1)=c(X1,X0)", "c(a,d)!=d", "", false},
		{"c(d,a)=d", "c(X0,X1)!=c(X1,X0)", "c(a,d)!=d", false},
		{"c(a,d)=d", "c(X0,X1)!=c(X1,X0)", "", false},
		{"a=b(a)", "c(a,a)=d", "", false},
		{"b(a)=d", "b(a)=c(a,a)", "", false},
		{"b(a)=d", "c(a,a)=b(a)", "", false},
		{"b(a)=d", "b(b(b(a)))=c(a,a)", "c(a,a)=b(b(d))", false},
		{"b(X0)=b(X0) | X0=d", "b(a)=d", "d=a | b(a)=d", false},
		// What is too much is lost: literals, variables, and parts.
		{"b(b(a))=a | a!=d | b(a)!=d", "b(b(a))!=d | X0!=d | X1!=d", "d!=a | b(a)!=d | X0!=d | X1!=d", false},
		{"b(b(a))=a | a!=d | b(a)!=d", "b(b(a))=b(a) | X0!=d | X1!=d", "", true},
		{"b(b(a))=a | a!=d | b(a)!=d", "b(b(a))=d | X0!=d | X1!=d", "", false},
		{"b(a)=a | c(X0,X1)!=X2", "c(b(a),X0)!=c(X1,X1)", "c(X0,X1)!=X2 | c(a,X3)!=c(X4,X4)", false},
		{"b(a)=a | c(X0,X1)!=X2", "c(b(a),X0)!=c(X1,X2)", "", true},
		{"c(X0,X0)=a | c(X0,b(X0))!=d", "c(b(b(b(b(a)))),X0)=d", "c(b(b(b(b(a)))),b(b(b(b(b(a))))))!=d | d=a", false},
		{"c(X0,X0)=a | c(X0,X0)!=d", "c(b(b(b(b(b(a))))),X0)=d", "", true},
	} {
		got, lost := rules.Sup(parse(t, x.c), parse(t, x.d))
		check(t, "Sup("+x.c+", "+x.d+")", x.want, x.lost, got, lost)
	}
}

// taken is a literal's terms, way 0 or way 1.
func taken(l api.Lit, way int) (first, second api.Term) {
	if way == 0 {
		return l.Left, l.Right
	}
	return l.Right, l.Left
}

// byWord is what comes, as the promise tells it, written.
type byWord struct {
	all  []api.Clause
	seen []string
	lost bool
}

func (w *byWord) add(s api.Sub, c api.Clause) {
	kept, err := clause.Norm(clause.Apply(s, c))
	if err == api.ErrMuch {
		w.lost = true
	}
	if text := clause.Text(kept); err == api.OK && !slices.Contains(w.seen, text) {
		w.all, w.seen = append(w.all, kept), append(w.seen, text)
	}
}

func resolveByWord(c api.Clause) byWord {
	var out byWord
	for i := range c {
		if s, ok := bind.Unify(c[i].Left, c[i].Right); ok && c[i].Neg {
			out.add(s, slices.Delete(slices.Clone(c), i, i+1))
		}
	}
	return out
}

func factorByWord(c api.Clause) byWord {
	var out byWord
	// Each number tells a first literal, one behind it, and both ways.
	for n := range len(c) * len(c) * 4 {
		i, j := n/(len(c)*4), n/4%len(c)
		if i >= j || c[i].Neg || c[j].Neg {
			continue
		}
		x, y := taken(c[i], n/2%2)
		z, w := taken(c[j], n%2)
		if s, ok := bind.Unify(x, z); ok {
			out.add(s, append(slices.Delete(slices.Clone(c), i, i+1), not(y, w)))
		}
	}
	return out
}

// spot is where c's literal may be put to use within d, and how.
type spot struct {
	c, cWay, d, dWay int
	place            []int
}

// spots are all of them, in turn: sorted, not gone through in that order.
func spots(c, d api.Clause) []spot {
	var out []spot
	for _, place := range [][]int{nil, {0}, {1}, {0, 0}, {0, 1}, {1, 0}, {1, 1}, {0, 0, 0}, {0, 0, 1}, {0, 1, 0}, {0, 1, 1}, {1, 0, 0}, {1, 0, 1}, {1, 1, 0}, {1, 1, 1}} {
		for j := range d {
			for i := range c {
				out = append(out, spot{i, 0, j, 0, place}, spot{i, 0, j, 1, place}, spot{i, 1, j, 0, place}, spot{i, 1, j, 1, place})
			}
		}
	}
	slices.SortFunc(out, func(a, b spot) int {
		if k := slices.Compare([]int{a.c, a.cWay, a.d, a.dWay}, []int{b.c, b.cWay, b.d, b.dWay}); k != 0 {
			return k
		}
		return slices.Compare(a.place, b.place)
	})
	return out
}

func supByWord(c, d api.Clause) byWord {
	var out byWord
	d = clause.Rename(d, api.MaxVars)
	for _, x := range spots(c, d) {
		first, second := taken(c[x.c], x.cWay)
		whole, other := taken(d[x.d], x.dWay)
		part, ok := term.At(whole, x.place)
		if c[x.c].Neg || first.Var || !ok || part.Var {
			continue
		}
		s, ok := bind.Unify(first, part)
		bound := func(t api.Term) api.Term { return bind.Apply(s, t) }
		if !ok || order.Compare(bound(first), bound(second)) == api.CmpLess || order.Compare(bound(whole), bound(other)) == api.CmpLess {
			continue
		}
		changed := deepCopy(d)
		if put := term.Put(whole, x.place, second); x.dWay == 0 {
			changed[x.d].Left = put
		} else {
			changed[x.d].Right = put
		}
		out.add(s, append(slices.Delete(slices.Clone(c), x.c, x.c+1), changed...))
	}
	return out
}

// counted tells how much a test saw, so that it can't pass by seeing nothing.
type counted struct{ came, lost, none int }

func (n *counted) count(t *testing.T, name string, want byWord, got []api.Clause, lost bool) {
	t.Helper()
	if !slices.EqualFunc(got, want.all, alike) || lost != want.lost {
		t.Fatalf("%s is\n%s (%t), not\n%s (%t)", name, texts(got), lost, texts(want.all), want.lost)
	}
	n.came += len(got)
	if lost {
		n.lost++
	}
	if len(got) == 0 && !lost {
		n.none++
	}
}

func (n counted) enough(t *testing.T, name string) {
	t.Helper()
	if n.came < 100 || n.lost < 10 || n.none < 10 {
		t.Errorf("of %s %d came, and %d times some were lost, and %d times there were none", name, n.came, n.lost, n.none)
	}
}

func TestF1WordByWord(t *testing.T) {
	var resolved, factored, sup counted
	for _, c := range mixed(1, 4000) {
		got, lost := rules.Resolve(c)
		resolved.count(t, "Resolve("+clause.Text(c)+")", resolveByWord(c), got, lost)
		got, lost = rules.Factor(c)
		factored.count(t, "Factor("+clause.Text(c)+")", factorByWord(c), got, lost)
	}
	l := append(few(), mixed(2, 50)...)
	for _, c := range l {
		for _, d := range l {
			got, lost := rules.Sup(c, d)
			sup.count(t, "Sup("+clause.Text(c)+", "+clause.Text(d)+")", supByWord(c, d), got, lost)
		}
	}
	resolved.enough(t, "Resolve")
	factored.enough(t, "Factor")
	sup.enough(t, "Sup")
}

func TestF1WhatComesIsKept(t *testing.T) {
	see := func(l []api.Clause, _ bool) {
		t.Helper()
		for i, c := range l {
			again, err := clause.Norm(c)
			if err != api.OK || !alike(again, c) || clause.Wrong(abcd, c) != api.OK {
				t.Fatalf("%s is not as it is kept", clause.Text(c))
			}
			for _, old := range l[:i] {
				if alike(old, c) {
					t.Fatalf("%s comes twice", clause.Text(c))
				}
			}
		}
	}
	l := mixed(3, 120)
	for _, c := range l {
		see(rules.Resolve(c))
		see(rules.Factor(c))
		for _, d := range l {
			see(rules.Sup(c, d))
		}
	}
}
