package log_test

import (
	"slices"
	"testing"

	"mendproof/api"
	"mendproof/clause"
	"mendproof/log"
	"mendproof/model"
	"mendproof/rules"
	"mendproof/simp"
)

// ahead tells whether all numbers are below, and none is below 0.
func ahead(numbers []int, below int) bool {
	return len(numbers) == 0 || slices.Min(numbers) >= 0 && slices.Max(numbers) < below
}

// fitsByWord does as the promise says, with texts of clauses.
func fitsByWord(in []api.Clause, steps []api.Step, at int) bool {
	x := steps[at]
	if x.Rule == api.RuleInput {
		if len(x.From) != 1 || !ahead(x.From, len(in)) {
			return false
		}
		kept, err := clause.Norm(in[x.From[0]])
		return err == api.OK && clause.Text(kept) == clause.Text(x.Clause)
	}
	if !ahead(x.From, at) {
		return false
	}
	var from, come []api.Clause
	for _, n := range x.From {
		from = append(from, steps[n].Clause)
	}
	switch many := len(from); {
	case x.Rule == api.RuleResolve && many == 1:
		come, _ = rules.Resolve(from[0])
	case x.Rule == api.RuleFactor && many == 1:
		come, _ = rules.Factor(from[0])
	case x.Rule == api.RuleSup && many == 2:
		come, _ = rules.Sup(from[0], from[1])
	case x.Rule == api.RuleRewrite && many >= 1:
		for _, c := range from[1:] {
			if len(c) != 1 || c[0].Neg {
				return false
			}
		}
		if low, err := simp.Rewrite(from[0], from[1:]); err == api.OK {
			come = []api.Clause{low}
		}
	}
	for _, c := range come {
		if clause.Text(c) == clause.Text(x.Clause) {
			return true
		}
	}
	return false
}

// checkByWord is for right symbols, and a right input, of no more than there
// may be.
func checkByWord(in []api.Clause, steps []api.Step) (api.Errno, int) {
	for i, x := range steps {
		if x.Rule < 1 || x.Rule > 5 {
			return api.ErrKind, i
		}
		if err := clause.Wrong(abcd, x.Clause); err != api.OK {
			return err, i
		}
		if !fitsByWord(in, steps, i) {
			return api.ErrFit, i
		}
	}
	return api.OK, -1
}

// otherwise changes steps, which are its own, in one or two ways.
func otherwise(next func(below int) int, in []api.Clause, steps []api.Step) {
	some := func() api.Clause {
		if len(in) > 0 && next(3) == 0 {
			return in[next(len(in))]
		}
		return steps[next(len(steps))].Clause
	}
	for range 1 + next(2) {
		x := &steps[next(len(steps))]
		switch next(8) {
		case 0:
			x.Rule = next(7)
		case 1:
			x.From = append(slices.Clone(x.From), next(len(steps)))
		case 2:
			x.From = slices.Clone(x.From)[:next(len(x.From)+1)]
		case 3:
			if len(x.From) > 0 {
				x.From = slices.Clone(x.From)
				x.From[next(len(x.From))] = next(len(steps)+2) - 1
			}
		case 4:
			x.From = slices.Clone(x.From)
			slices.Reverse(x.From)
		case 5:
			x.Clause = some()
		case 6:
			if len(x.Clause) > 0 {
				x.Clause = slices.Clone(x.Clause)
				l := &x.Clause[next(len(x.Clause))]
				l.Left, l.Right = l.Right, l.Left
			}
		case 7:
			// Nearer to what fits: the same one again, where it may stand.
			y := steps[next(len(steps))]
			*x = api.Step{Rule: api.RuleRewrite, From: []int{slices.IndexFunc(steps, func(z api.Step) bool { return clause.Same(z.Clause, y.Clause) })}, Clause: y.Clause}
		}
	}
}

func TestJ1WordByWord(t *testing.T) {
	saw := map[api.Errno]int{}
	rulesSeen := map[int]int{}
	for i, x := range searched(t) {
		if err, at := log.Check(abcd, x.in, x.steps); err != api.OK || at != -1 {
			t.Fatalf("Check is %d at %d, of %s, and\n%s", err, at, texts(x.in), tell(x.steps))
		}
		for _, step := range x.steps {
			rulesSeen[step.Rule]++
		}
		if len(x.steps) == 0 {
			continue
		}
		next := counter(uint32(i))
		for range 40 {
			steps := slices.Clone(x.steps)
			otherwise(next, x.in, steps)
			err, at := log.Check(abcd, x.in, steps)
			if want, wantAt := checkByWord(x.in, steps); err != want || at != wantAt {
				t.Fatalf("Check is %d at %d, not %d at %d, of %s, and\n%s", err, at, want, wantAt, texts(x.in), tell(steps))
			}
			saw[err]++
		}
	}
	if saw[api.OK] < 100 || saw[api.ErrKind] < 100 || saw[api.ErrFit] < 1000 {
		t.Errorf("what was told: %v", saw)
	}
	for rule := api.RuleInput; rule <= api.RuleRewrite; rule++ {
		if rulesSeen[rule] < 50 {
			t.Errorf("rule %d was seen %d times", rule, rulesSeen[rule])
		}
	}
}

// models are all of two things.
func models() []api.Model {
	var out []api.Model
	for k := range 1 << 8 {
		bits := make([]int, 8)
		for i := range bits {
			bits[i] = k >> i & 1
		}
		out = append(out, api.Model{Size: 2, Tables: [][]int{bits[0:1], bits[1:3], bits[3:7], bits[7:8]}})
	}
	return out
}

// holdAll tells whether all of l hold.
func holdAll(m api.Model, l []api.Clause) bool {
	return !slices.ContainsFunc(l, func(c api.Clause) bool { return !model.Holds(m, c) })
}

// What is looked at alone is enough: whatever made the steps, they hold where
// the input does.
func TestJ1RightStepsHoldWhereTheInputDoes(t *testing.T) {
	all := models()
	held := 0
	for i, x := range searched(t) {
		if len(x.steps) == 0 {
			continue
		}
		next := counter(uint32(i) + 1000)
		for range 8 {
			steps := slices.Clone(x.steps)
			otherwise(next, x.in, steps)
			if err, _ := log.Check(abcd, x.in, steps); err != api.OK {
				continue
			}
			for _, m := range all {
				if !holdAll(m, x.in) {
					continue
				}
				held++
				for n, step := range steps {
					if !model.Holds(m, step.Clause) {
						t.Fatalf("step %d does not hold in %v, of %s, and\n%s", n, m, texts(x.in), tell(steps))
					}
				}
			}
		}
	}
	if held < 500 {
		t.Errorf("%d times the input held", held)
	}
}
