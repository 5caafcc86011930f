package prove

import (
	"slices"

	"mendproof/api"
	"mendproof/clause"
	"mendproof/rules"
	"mendproof/simp"
)

const notFound = -1

// search is a Proof of the program's own, which may be changed.
type search struct {
	api.Proof
}

func (x *search) found() bool {
	return x.Found > notFound
}

// clause answers no literals for a step that there is not, as what is handed
// in may be no search.
func (x *search) clause(n int) api.Clause {
	if n < 0 || n >= len(x.Steps) {
		return nil
	}
	return x.Steps[n].Clause
}

// add tells whether there was room for a step.
func (x *search) add(step api.Step) bool {
	if len(x.Steps) >= api.MaxSteps {
		x.Lost = true
		return false
	}
	if len(step.Clause) == 0 && !x.found() {
		x.Found = len(x.Steps)
	}
	x.Steps = append(x.Steps, step)
	return true
}

// wait adds a step that waits then, if there was room for it.
func (x *search) wait(step api.Step) {
	if x.add(step) {
		x.Wait = append(x.Wait, len(x.Steps)-1)
	}
}

// input has clause number i wait, or tells what is wrong with it.
func (x *search) input(i int, c api.Clause) api.Errno {
	if err := clause.Wrong(x.Sig, c); err != api.OK {
		return err
	}
	kept, err := clause.Norm(c)
	switch err {
	case api.OK:
		x.wait(api.Step{Rule: api.RuleInput, From: []int{i}, Clause: kept})
	case api.ErrMuch:
		return err
	}
	return api.OK
}

// rewrite answers the step that is meant from then on, and whether there is
// anything to do with it.
func (x *search) rewrite(it int) (int, bool) {
	from := []int{it}
	var units []api.Clause
	for _, n := range x.Active {
		if c := x.clause(n); simp.Unit(c) {
			from, units = append(from, n), append(units, c)
		}
	}
	c, err := simp.Rewrite(x.clause(it), units)
	if err != api.OK {
		x.Lost = x.Lost || err == api.ErrMuch
		return it, false
	}
	if clause.Same(c, x.clause(it)) {
		return it, true
	}
	ok := x.add(api.Step{Rule: api.RuleRewrite, From: from, Clause: c})
	return len(x.Steps) - 1, ok
}

// follow has all wait that comes of a step, and of it and those that are
// active, of which it is the last one.
func (x *search) follow(it int) {
	c := x.clause(it)
	x.by(api.RuleResolve, it)(rules.Resolve(c))
	x.by(api.RuleFactor, it)(rules.Factor(c))
	for _, n := range x.Active {
		other := x.clause(n)
		x.by(api.RuleSup, n, it)(rules.Sup(other, c))
		if n != it {
			x.by(api.RuleSup, it, n)(rules.Sup(c, other))
		}
	}
}

// by answers what takes in the answer of a rule, asked of those steps. What
// was lost counts even when one is found: all that could come was asked for.
func (x *search) by(rule int, from ...int) func(l []api.Clause, lost bool) {
	return func(l []api.Clause, lost bool) {
		x.Lost = x.Lost || lost
		for _, c := range l {
			if !x.found() && !x.waits(c) && !x.covered(c) {
				x.wait(api.Step{Rule: rule, From: slices.Clone(from), Clause: c})
			}
		}
	}
}

// waits tells whether one that waits is the same.
func (x *search) waits(c api.Clause) bool {
	return slices.ContainsFunc(x.Wait, func(n int) bool { return clause.Same(x.clause(n), c) })
}

// covered tells whether an active one tells as much as c.
func (x *search) covered(c api.Clause) bool {
	return slices.ContainsFunc(x.Active, func(n int) bool { return simp.Covers(x.clause(n), c) })
}
