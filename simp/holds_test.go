package simp_test

import (
	"testing"

	"mendproof/api"
	"mendproof/clause"
	"mendproof/model"
)

// models are all of two things, and mixed ones of three.
func models() []api.Model {
	var out []api.Model
	for k := range 1 << 8 {
		bits := make([]int, 8)
		for i := range bits {
			bits[i] = k >> i & 1
		}
		out = append(out, api.Model{Size: 2, Tables: [][]int{bits[0:1], bits[1:3], bits[3:7], bits[7:8]}})
	}
	next := counter(4)
	for range 60 {
		m := api.Model{Size: 3}
		for _, entries := range []int{1, 3, 9, 1} {
			table := make([]int, entries)
			for i := range table {
				table[i] = next(3)
			}
			m.Tables = append(m.Tables, table)
		}
		out = append(out, m)
	}
	return out
}

// held keeps of each clause in which of the models it holds.
type held struct {
	models []api.Model
	in     map[string][]bool
}

func newHeld() held {
	return held{models(), map[string][]bool{}}
}

func (h held) of(c api.Clause) []bool {
	text := clause.Text(c)
	if h.in[text] == nil {
		list := make([]bool, len(h.models))
		for i, m := range h.models {
			list[i] = model.Holds(m, c)
		}
		h.in[text] = list
	}
	return h.in[text]
}

// follows fails where all of those clauses hold, and c does not.
func (h held) follows(t *testing.T, c api.Clause, from ...api.Clause) {
	t.Helper()
	for i, holds := range h.of(c) {
		all := true
		for _, x := range from {
			all = all && h.of(x)[i]
		}
		if all && !holds {
			t.Fatalf("where %q hold %s does not: in %v", texts(from), clause.Text(c), h.models[i])
		}
	}
}
