package prove_test

import (
	"slices"
	"testing"

	"mendproof/api"
	"mendproof/clause"
	"mendproof/model"
	"mendproof/prove"
	"mendproof/rules"
	"mendproof/simp"
)

// models are all of two things, and mixed ones of three.
func models() []api.Model {
	var out []api.Model
	for k := range 1 << 8 {
		bits := make([]int, 8)
		for i := range bits {
			bits[i] = k >> i & 1
		}
		out = append(out, api.Model{Size: 2, Tables: [][]int{bits[0:1], bits[1:3], bits[3:7], bits[7:8]}})
	}
	next := counter(4)
	for range 60 {
		m := api.Model{Size: 3}
		for _, entries := range []int{1, 3, 9, 1} {
			table := make([]int, entries)
			for i := range table {
				table[i] = next(3)
			}
			m.Tables = append(m.Tables, table)
		}
		out = append(out, m)
	}
	return out
}

// holdAll keeps those models in which all of l hold.
func holdAll(l []api.Clause, models []api.Model) []api.Model {
	var out []api.Model
	for _, m := range models {
		if !slices.ContainsFunc(l, func(c api.Clause) bool { return !model.Holds(m, c) }) {
			out = append(out, m)
		}
	}
	return out
}

// few picks are enough to see much, and leave time for many searches.
func few(t *testing.T, p api.Proof, next func(below int) int) api.Proof {
	t.Helper()
	for range 25 {
		if p.Found >= 0 || len(p.Wait) == 0 {
			break
		}
		p = pick(t, p, next(len(p.Wait)))
	}
	return p
}

func TestI2AllThatComesHolds(t *testing.T) {
	all := models()
	came, none := 0, 0
	for i, l := range allMixed() {
		p := few(t, start(t, texts(l)), counter(uint32(i)))
		in := holdAll(l, all)
		if p.Found >= 0 {
			none++
		}
		for _, x := range p.Steps {
			for _, m := range in {
				came++
				if !model.Holds(m, x.Clause) {
					t.Fatalf("of %s comes %s, and does not hold in %v", texts(l), clause.Text(x.Clause), m)
				}
			}
		}
	}
	if came < 1000 || none < 10 {
		t.Errorf("%d times what came was held against a model, and %d times nothing was left", came, none)
	}
}

// comes tells whether a step comes of its rule, looked at alone.
func comes(l []api.Clause, steps []api.Step, x api.Step) bool {
	from := func(i int) api.Clause { return steps[x.From[i]].Clause }
	var all []api.Clause
	switch {
	case x.Rule == api.RuleInput && len(x.From) == 1:
		c, err := clause.Norm(l[x.From[0]])
		return err == api.OK && clause.Same(c, x.Clause)
	case x.Rule == api.RuleRewrite && len(x.From) > 1:
		var units []api.Clause
		for i := range x.From[1:] {
			units = append(units, from(i+1))
		}
		c, err := simp.Rewrite(from(0), units)
		return err == api.OK && clause.Same(c, x.Clause) && !clause.Same(c, from(0)) &&
			!slices.ContainsFunc(units, func(c api.Clause) bool { return !simp.Unit(c) })
	case x.Rule == api.RuleResolve && len(x.From) == 1:
		all, _ = rules.Resolve(from(0))
	case x.Rule == api.RuleFactor && len(x.From) == 1:
		all, _ = rules.Factor(from(0))
	case x.Rule == api.RuleSup && len(x.From) == 2:
		all, _ = rules.Sup(from(0), from(1))
	}
	return slices.ContainsFunc(all, func(c api.Clause) bool { return clause.Same(c, x.Clause) })
}

func TestI2EachStepComesOfThoseAheadOfIt(t *testing.T) {
	var many [api.RuleRewrite + 1]int
	for i, l := range allMixed() {
		p := few(t, start(t, texts(l)), counter(uint32(i)))
		for n, x := range p.Steps {
			if x.Rule != api.RuleInput && slices.Max(x.From) >= n || !comes(l, p.Steps, x) {
				t.Fatalf("of %s step %d does not come of its rule, of\n%s", texts(l), n, tell(p))
			}
			many[x.Rule]++
		}
	}
	if slices.Min(many[1:]) < 20 {
		t.Errorf("of the rules there came %v", many)
	}
}

// What was a step stays as it is, and nothing is active and waits, or does so
// twice.
func TestI2WhatWasStays(t *testing.T) {
	for i, l := range allMixed() {
		next := counter(uint32(i))
		p := start(t, texts(l))
		for range 25 {
			if p.Found >= 0 || len(p.Wait) == 0 {
				break
			}
			old := p
			p = pick(t, p, next(len(p.Wait)))
			was := deepCopy(p)
			was.Steps, was.Active = was.Steps[:len(old.Steps)], was.Active[:len(old.Active)]
			was.Wait, was.Found, was.Lost = old.Wait, old.Found, old.Lost
			if !alike(was, old) || old.Lost && !p.Lost || len(p.Steps) > api.MaxSteps || len(p.Active) > len(old.Active)+1 {
				t.Fatalf("of\n%s\ncomes\n%s", tell(old), tell(p))
			}
			in := slices.Sorted(slices.Values(slices.Concat(p.Active, p.Wait)))
			if len(slices.Compact(slices.Clone(in))) != len(in) {
				t.Fatalf("one is active, or waits, more than once, of\n%s", tell(p))
			}
		}
	}
}

// end picks at the first place until nothing is left to do.
func end(t *testing.T, p api.Proof) api.Proof {
	t.Helper()
	for range api.MaxSteps + 1 {
		next, err := prove.Pick(p, 0)
		if err == api.ErrDone {
			return p
		}
		if err != api.OK {
			t.Fatalf("Pick has the error %d, of\n%s", err, tell(p))
		}
		p = next
	}
	t.Fatalf("it does not end: of\n%s", tell(p))
	return p
}

func TestI2ItEnds(t *testing.T) {
	for _, x := range []struct {
		given string
		found bool
	}{
		{"", false},
		{"[]", true},
		{"X0!=X0", true},
		{"b(X0)=X0; b(a)!=a", true},
		{"a=d; b(a)!=b(d)", true},
		{"c(X0,X1)=c(X1,X0); c(a,d)!=c(d,a)", true},
		{"c(X0,a)=X0; c(a,X0)=d; a!=d", true},
		{"b(b(X0))=X0; b(a)=d; b(d)!=a", true},
		{"X0=a | X0=d; b(a)=d; b(d)=a; b(X0)=X0; a!=d", true},
		{"a=d | b(a)=a; a!=d; b(a)!=a", true},
		{"c(c(X0,X1),X2)=c(X0,c(X1,X2)); c(a,X0)=X0; c(b(X0),X0)=a; c(b(b(d)),a)!=d", true},
		{"a=d", false},
		{"a!=d", false},
		{"X0=a | X0=d; a!=d", false},
		{"b(X0)=X0; a!=d; c(X0,X1)=c(X1,X0)", false},
		{"c(X0,X1)=c(X1,X0); c(c(X0,X1),X2)=c(X0,c(X1,X2)); a!=d", false},
	} {
		p := end(t, start(t, x.given))
		if (p.Found >= 0) != x.found {
			t.Errorf("of %s one is found: %t, of\n%s", x.given, !x.found, tell(p))
		}
		if first := slices.IndexFunc(p.Steps, func(x api.Step) bool { return len(x.Clause) == 0 }); p.Found != first {
			t.Errorf("of %s found is %d, not %d", x.given, p.Found, first)
		}
	}
}
