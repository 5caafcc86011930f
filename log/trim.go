package log

import (
	"slices"

	"mendproof/api"
	"mendproof/clause"
)

// Trim answers step last, and ahead of it those that it needs alone.
func Trim(steps []api.Step, last int) []api.Step {
	if last < 0 || last >= len(steps) {
		return nil
	}
	var out []api.Step
	anew := map[int]int{} // the numbers of those that are in out
	for _, n := range needed(steps, last) {
		out = append(out, renumber(steps[n], anew))
		anew[n] = len(out) - 1
	}
	return out
}

// needed answers the numbers of steps of which one comes, and its own, rising.
func needed(steps []api.Step, last int) []int {
	var out []int
	is := make([]bool, last+1)
	is[last] = true
	// From behind, as steps come of those ahead of them: all that need a step
	// are seen ahead of it.
	for n := last; n >= 0; n-- {
		if !is[n] {
			continue
		}
		out = append(out, n)
		for _, from := range comesOf(steps[n]) {
			if from >= 0 && from < n {
				is[from] = true
			}
		}
	}
	slices.Reverse(out)
	return out
}

// comesOf are numbers of steps: those of RuleInput are none.
func comesOf(step api.Step) []int {
	if step.Rule == api.RuleInput {
		return nil
	}
	return step.From
}

// renumber answers a step of its own. What is no step ahead stays as it is,
// so that a step which is not right does not come to be.
func renumber(step api.Step, anew map[int]int) api.Step {
	out := api.Step{Rule: step.Rule, From: slices.Clone(step.From), Clause: clause.Apply(nil, step.Clause)}
	for i, from := range comesOf(step) {
		if n, ok := anew[from]; ok {
			out.From[i] = n
		}
	}
	return out
}
