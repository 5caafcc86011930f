package log

import (
	"slices"

	"mendproof/api"
	"mendproof/clause"
	"mendproof/rules"
	"mendproof/simp"
)

// kind is of steps of one rule.
type kind struct {
	many  int  // how many clauses they come of
	more  bool // or more than that
	comes func(from []api.Clause, c api.Clause) bool
}

// allKinds are those that there are, by their rules.
func allKinds() map[int]kind {
	return map[int]kind{
		api.RuleInput: {many: 1, comes: isKept},
		api.RuleResolve: {many: 1, comes: among(func(from []api.Clause) ([]api.Clause, bool) {
			return rules.Resolve(from[0])
		})},
		api.RuleFactor: {many: 1, comes: among(func(from []api.Clause) ([]api.Clause, bool) {
			return rules.Factor(from[0])
		})},
		api.RuleSup: {many: 2, comes: among(func(from []api.Clause) ([]api.Clause, bool) {
			return rules.Sup(from[0], from[1])
		})},
		api.RuleRewrite: {many: 1, more: true, comes: isRewritten},
	}
}

// fits tells whether a step comes of its rule, from some of those clauses.
func (k kind) fits(of []api.Clause, step api.Step) bool {
	if len(step.From) < k.many || len(step.From) > k.many && !k.more {
		return false
	}
	from, ok := choose(of, step.From)
	return ok && k.comes(from, step.Clause)
}

// choose answers the clauses of those numbers, or false, if one is not there.
func choose(of []api.Clause, numbers []int) ([]api.Clause, bool) {
	out := make([]api.Clause, len(numbers))
	for i, n := range numbers {
		if n < 0 || n >= len(of) {
			return nil, false
		}
		out[i] = of[n]
	}
	return out, true
}

// isKept asks for the error, as what is beside one would pass for the empty
// clause; so does isRewritten.
func isKept(from []api.Clause, c api.Clause) bool {
	kept, err := clause.Norm(from[0])
	return err == api.OK && clause.Same(kept, c)
}

func isRewritten(from []api.Clause, c api.Clause) bool {
	units := from[1:]
	if slices.ContainsFunc(units, func(c api.Clause) bool { return !simp.Unit(c) }) {
		return false
	}
	low, err := simp.Rewrite(from[0], units)
	return err == api.OK && clause.Same(low, c)
}

// among answers what tells whether a clause is one of all that come of a
// rule. That others were lost is no matter.
func among(all func(from []api.Clause) ([]api.Clause, bool)) func(from []api.Clause, c api.Clause) bool {
	return func(from []api.Clause, c api.Clause) bool {
		come, _ := all(from)
		return slices.ContainsFunc(come, func(x api.Clause) bool { return clause.Same(x, c) })
	}
}
