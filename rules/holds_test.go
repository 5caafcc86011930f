package rules_test

import (
	"testing"

	"mendproof/api"
	"mendproof/clause"
	"mendproof/model"
	"mendproof/rules"
)

// models are all of two things, and mixed ones of three.
func models() []api.Model {
	var out []api.Model
	for k := range 1 << 8 {
		bits := make([]int, 8)
		for i := range bits {
			bits[i] = k >> i & 1
		}
		out = append(out, api.Model{Size: 2, Tables: [][]int{bits[0:1], bits[1:3], bits[3:7], bits[7:8]}})
	}
	next := counter(4)
	for range 30 {
		m := api.Model{Size: 3}
		for _, entries := range []int{1, 3, 9, 1} {
			table := make([]int, entries)
			for i := range table {
				table[i] = next(3)
			}
			m.Tables = append(m.Tables, table)
		}
		out = append(out, m)
	}
	return out
}

// held keeps of each clause in which of the models it holds.
type held struct {
	models []api.Model
	in     map[string][]bool
}

func (h held) of(c api.Clause) []bool {
	text := clause.Text(c)
	if h.in[text] == nil {
		list := make([]bool, len(h.models))
		for i, m := range h.models {
			list[i] = model.Holds(m, c)
		}
		h.in[text] = list
	}
	return h.in[text]
}

// follows tells in how many models all of those hold that came holds in, and
// fails where it does not.
func (h held) follows(t *testing.T, came api.Clause, from ...api.Clause) int {
	t.Helper()
	many := 0
	for i, holds := range h.of(came) {
		all := true
		for _, c := range from {
			all = all && h.of(c)[i]
		}
		if all && !holds {
			t.Fatalf("%s comes, and does not hold in %v", clause.Text(came), h.models[i])
		}
		if all {
			many++
		}
	}
	return many
}

func TestF1WhatComesOfWhatHoldsHolds(t *testing.T) {
	h := held{models(), map[string][]bool{}}
	l := append(few()[:50], mixed(6, 30)...)
	came, many := 0, 0
	see := func(all []api.Clause, from ...api.Clause) {
		t.Helper()
		for _, c := range all {
			came++
			many += h.follows(t, c, from...)
		}
	}
	for _, c := range mixed(5, 300) {
		all, _ := rules.Resolve(c)
		see(all, c)
		all, _ = rules.Factor(c)
		see(all, c)
	}
	for _, c := range l {
		for _, d := range l {
			all, _ := rules.Sup(c, d)
			see(all, c, d)
		}
	}
	if came < 1000 || many < 1000 {
		t.Errorf("%d came, in %d models", came, many)
	}
}

// reaches tells whether nothing is left of those clauses at some time, if
// all that comes is taken to them, round by round.
func reaches(t *testing.T, rounds int, given ...string) bool {
	t.Helper()
	var all []api.Clause
	in := map[string]int{}
	add := func(l []api.Clause, _ bool) {
		for _, c := range l {
			if text := clause.Text(c); in[text] == 0 {
				in[text] = 1
				all = append(all, c)
			}
		}
	}
	for _, text := range given {
		add([]api.Clause{parse(t, text)}, false)
	}
	for range rounds {
		old := all[:len(all):len(all)]
		for _, c := range old {
			add(rules.Resolve(c))
			add(rules.Factor(c))
			for _, d := range old {
				add(rules.Sup(c, d))
			}
		}
	}
	return in["[]"] == 1
}

func TestF1NothingIsLeftOfWhatCantHold(t *testing.T) {
	for _, x := range []struct {
		rounds int
		given  []string
		want   bool
	}{
		{1, []string{"X0!=X0"}, true},
		{2, []string{"b(X0)=X0", "b(a)!=a"}, true},
		{3, []string{"a=d", "b(a)!=b(d)"}, true},
		{3, []string{"b(b(X0))=X0", "b(b(b(a)))!=b(a)"}, true},
		{4, []string{"a=d | b(a)=a", "a!=d", "b(a)!=a"}, true},
		{4, []string{"X0=a | X0=d", "a!=d", "b(a)=d", "b(X0)!=d"}, true},
		{3, []string{"c(X0,X1)=c(X1,X0)", "c(a,d)!=c(d,a)"}, true},
		{3, []string{"b(X0)=X0", "a!=d"}, false},
		{3, []string{"c(X0,X1)=c(X1,X0)", "c(a,X0)=X0", "a!=d"}, false},
		{3, []string{"b(b(X0))=X0", "b(a)=d", "a!=d"}, false},
	} {
		if got := reaches(t, x.rounds, x.given...); got != x.want {
			t.Errorf("of %q it is %t that nothing is left", x.given, got)
		}
	}
}
