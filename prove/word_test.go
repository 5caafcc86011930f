package prove_test

import (
	"slices"
	"testing"

	"mendproof/api"
	"mendproof/clause"
	"mendproof/prove"
	"mendproof/rules"
	"mendproof/simp"
)

// byWord does as the promises say, sentence by sentence, with texts of
// clauses; and it counts what it saw.
type byWord struct {
	p    api.Proof
	text []string // of each step
	saw  map[string]int
}

func newByWord(l []api.Clause, saw map[string]int) byWord {
	w := byWord{p: api.Proof{Sig: abcd, Found: -1}, saw: saw}
	for i, c := range l {
		if kept, err := clause.Norm(c); err == api.OK {
			w.p.Wait = append(w.p.Wait, len(w.p.Steps))
			w.add(api.Step{Rule: api.RuleInput, From: []int{i}, Clause: kept})
		}
	}
	return w
}

func (w *byWord) add(step api.Step) {
	if len(w.p.Steps) == api.MaxSteps {
		w.p.Lost = true
		return
	}
	w.p.Steps, w.text = append(w.p.Steps, step), append(w.text, clause.Text(step.Clause))
	w.p.Found = slices.Index(w.text, "[]")
}

// coversOne looks at active ones from behind, which must not matter.
func (w *byWord) coversOne(c api.Clause) bool {
	for _, n := range slices.Backward(w.p.Active) {
		if simp.Covers(w.p.Steps[n].Clause, c) {
			return true
		}
	}
	return false
}

// pick is for places at which one waits, where none is found.
func (w *byWord) pick(place int) {
	it := w.p.Wait[place]
	var rest []int
	for i, n := range w.p.Wait {
		if i != place {
			rest = append(rest, n)
		}
	}
	w.p.Wait = rest
	it, ok := w.rewrite(it)
	if !ok {
		return
	}
	if w.p.Found >= 0 {
		w.saw["found by rewriting"]++
		return
	}
	if w.coversOne(w.p.Steps[it].Clause) {
		w.saw["covered"]++
		return
	}
	w.p.Active = append(w.p.Active, it)
	w.saw["active"]++
	for _, step := range w.comes(it) {
		w.take(step)
	}
}

func (w *byWord) rewrite(it int) (int, bool) {
	from := []int{it}
	var units []api.Clause
	for _, n := range w.p.Active {
		if c := w.p.Steps[n].Clause; len(c) == 1 && !c[0].Neg {
			from, units = append(from, n), append(units, c)
		}
	}
	c, err := simp.Rewrite(w.p.Steps[it].Clause, units)
	if err == api.ErrNone {
		w.saw["gone"]++
		return it, false
	}
	if clause.Text(c) == w.text[it] {
		return it, true
	}
	had := len(w.p.Steps)
	w.add(api.Step{Rule: api.RuleRewrite, From: from, Clause: c})
	if len(w.p.Steps) == had {
		w.saw["no room to rewrite"]++
		return it, false
	}
	w.saw["rewritten"]++
	return had, true
}

// comes is all that comes, ahead of any step of it.
func (w *byWord) comes(it int) []api.Step {
	var out []api.Step
	put := func(l []api.Clause, lost bool, rule int, from ...int) {
		for _, c := range l {
			out = append(out, api.Step{Rule: rule, From: slices.Clone(from), Clause: c})
		}
		if lost && !w.p.Lost {
			w.p.Lost = true
			w.saw["lost by rules"]++
		}
	}
	c := w.p.Steps[it].Clause
	l, lost := rules.Resolve(c)
	put(l, lost, api.RuleResolve, it)
	l, lost = rules.Factor(c)
	put(l, lost, api.RuleFactor, it)
	for _, n := range w.p.Active[:len(w.p.Active)-1] {
		d := w.p.Steps[n].Clause
		l, lost = rules.Sup(d, c)
		put(l, lost, api.RuleSup, n, it)
		l, lost = rules.Sup(c, d)
		put(l, lost, api.RuleSup, it, n)
	}
	l, lost = rules.Sup(c, c)
	put(l, lost, api.RuleSup, it, it)
	return out
}

func (w *byWord) take(step api.Step) {
	text := clause.Text(step.Clause)
	switch {
	case w.p.Found >= 0:
		w.saw["came after one was found"]++
	case slices.ContainsFunc(w.p.Wait, func(n int) bool { return w.text[n] == text }):
		w.saw["waited"]++
	case w.coversOne(step.Clause):
		w.saw["came, and was covered"]++
	case len(w.p.Steps) == api.MaxSteps:
		w.add(step)
		w.saw["no room"]++
	default:
		w.p.Wait = append(w.p.Wait, len(w.p.Steps))
		w.add(step)
		if w.p.Found >= 0 {
			w.saw["found by rules"]++
		}
	}
}

// allMixed are lists of clauses of which searches differ much: some fill up.
func allMixed() [][]api.Clause {
	return slices.Concat(mixed(1, 150, 1, 3), mixed(2, 45, 2, 3), mixed(3, 6, 4, 5))
}

func TestI2WordByWord(t *testing.T) {
	saw := map[string]int{}
	for i, l := range append(allMixed(), parseAll(t, swaps)) {
		next := counter(uint32(i))
		w := newByWord(l, saw)
		p, err := prove.New(abcd, l)
		if err != api.OK || !alike(p, w.p) {
			t.Fatalf("New(%s) is\n%s\nnot\n%s", texts(l), tell(p), tell(w.p))
		}
		most := 45
		if i%11 == 0 {
			most = api.MaxSteps + 1 // to its end
		}
		for len(w.p.Wait) > 0 && w.p.Found < 0 && most > 0 {
			most--
			place := next(len(w.p.Wait))
			if i%2 == 0 {
				place = 0
			}
			w.pick(place)
			old := p
			p, err = prove.Pick(p, place)
			if err != api.OK || !alike(p, w.p) {
				t.Fatalf("Pick at %d of\n%s\nis %d,\n%s\nnot\n%s", place, tell(old), err, tell(p), tell(w.p))
			}
		}
		if most == 0 {
			continue
		}
		if _, err = prove.Pick(p, 0); err != api.ErrDone {
			t.Fatalf("at its end the error is %d, of\n%s", err, tell(p))
		}
	}
	for _, name := range []string{"found by rewriting", "covered", "active", "gone", "no room to rewrite", "rewritten", "lost by rules", "came after one was found", "waited", "came, and was covered", "no room", "found by rules"} {
		if saw[name] < 3 {
			t.Errorf("%s: that was seen %d times", name, saw[name])
		}
	}
}
