package model_test

import (
	"reflect"
	"slices"
	"strconv"
	"strings"
	"testing"

	"mendproof/api"
	"mendproof/clause"
	"mendproof/term"
)

// abcd has two symbols of no argument, and one of one and of two.
var abcd = api.Sig{0, 1, 2, 0}

func v(n int) api.Term { return api.Term{Var: true, N: n} }

func f(n int, args ...api.Term) api.Term { return api.Term{N: n, Args: args} }

// is and not are the two kinds of literals.
func is(l, r api.Term) api.Lit { return api.Lit{Left: l, Right: r} }

func not(l, r api.Term) api.Lit { return api.Lit{Neg: true, Left: l, Right: r} }

// chain is b of b of .. of end, with so many b.
func chain(many int, end api.Term) api.Term {
	for range many {
		end = f(1, end)
	}
	return end
}

// parse reads a clause that must be right.
func parse(t *testing.T, text string) api.Clause {
	t.Helper()
	out, err := clause.Parse(abcd, text)
	if err != api.OK {
		t.Fatalf("Parse(%q) has the error %d", text, err)
	}
	return out
}

// three counts round: b is one more, and c the sum, of three things.
func three() api.Model {
	return api.Model{Size: 3, Tables: [][]int{{1}, {1, 2, 0}, {0, 1, 2, 1, 2, 0, 2, 0, 1}, {2}}}
}

// oneWay has tables that tell arguments' places from each other: c(x,y) is
// unlike c(y,x), and b never comes back.
func oneWay() api.Model {
	return api.Model{Size: 4, Tables: [][]int{{2}, {1, 2, 3, 3}, {0, 1, 2, 3, 3, 0, 1, 2, 3, 2, 0, 1, 1, 0, 2, 3}, {0}}}
}

// twos are all models of two things.
func twos() []api.Model {
	var out []api.Model
	for k := range 1 << 8 {
		bits := make([]int, 8)
		for i := range bits {
			bits[i] = k >> i & 1
		}
		out = append(out, api.Model{Size: 2, Tables: [][]int{bits[0:1], bits[1:3], bits[3:7], bits[7:8]}})
	}
	return out
}

// counter tells numbers that look mixed; the same ones each time.
func counter(state uint32) func(below int) int {
	return func(below int) int {
		state = state*1664525 + 1013904223
		return int(state>>16) % below
	}
}

// ofThings is a model of so many things, whose tables fit.
func ofThings(size int, next func(below int) int) api.Model {
	m := api.Model{Size: size}
	for _, entries := range []int{1, size, size * size, 1} {
		table := make([]int, entries)
		for i := range table {
			table[i] = next(size)
		}
		m.Tables = append(m.Tables, table)
	}
	return m
}

// mixedModels are so many right models, of all sizes.
func mixedModels(many int) []api.Model {
	next := counter(5)
	var out []api.Model
	for k := range many {
		out = append(out, ofThings(k%api.MaxThings+1, next))
	}
	return out
}

// mixedClauses are so many clauses of up to 6 literals, more than is right,
// and of variables up to that many.
func mixedClauses(many, vars int) []api.Clause {
	next := counter(1)
	var pick func(deep int) api.Term
	pick = func(deep int) api.Term {
		switch k := next(8); {
		case deep > 0 && k < 2:
			return f(1, pick(deep-1))
		case deep > 0 && k < 4:
			return f(2, pick(deep-1), pick(deep-1))
		case vars > 0 && k < 7:
			return v(next(vars))
		}
		return f(3 * next(2))
	}
	var out []api.Clause
	for k := range many {
		var c api.Clause
		for range k % 7 {
			c = append(c, api.Lit{Neg: next(3) == 0, Left: pick(3), Right: pick(2)})
		}
		out = append(out, c)
	}
	return out
}

// envs are all of MaxVars things of so many.
func envs(size int) [][]int {
	out := [][]int{nil}
	for range api.MaxVars {
		var longer [][]int
		for _, env := range out {
			for thing := range size {
				longer = append(longer, append(env[:len(env):len(env)], thing))
			}
		}
		out = longer
	}
	return out
}

// byText tells the thing that a term is by what is written: variables and
// all that is of things alone are replaced by these, until one is left.
func byText(m api.Model, env []int, t api.Term) int {
	var pairs []string
	for n, thing := range env {
		pairs = append(pairs, "X"+strconv.Itoa(n), strconv.Itoa(thing))
	}
	pairs = append(pairs, "a", strconv.Itoa(m.Tables[0][0]), "d", strconv.Itoa(m.Tables[3][0]))
	text := strings.NewReplacer(pairs...).Replace(term.Text(t))
	pairs = nil
	for x := range m.Size {
		of := strconv.Itoa(x)
		pairs = append(pairs, "b("+of+")", strconv.Itoa(m.Tables[1][x]))
		for y := range m.Size {
			pairs = append(pairs, "c("+of+","+strconv.Itoa(y)+")", strconv.Itoa(m.Tables[2][m.Size*x+y]))
		}
	}
	step := strings.NewReplacer(pairs...)
	for len(text) > 1 {
		text = step.Replace(text)
	}
	return int(text[0] - '0')
}

// someByText is Some, of what byText tells.
func someByText(m api.Model, env []int, c api.Clause) bool {
	for _, l := range c {
		left, right := byText(m, env, l.Left), byText(m, env, l.Right)
		if !l.Neg && left == right || l.Neg && left != right {
			return true
		}
	}
	return false
}

// roomyList is the same list, with spare room behind it, and marks in it.
func roomyList[T any](l []T, mark T) []T {
	out := append(slices.Clone(l), mark, mark, mark)
	return out[:len(l):len(out)]
}

// markOf stands in spare room: it would count if it were looked at.
var markOf = f(1, v(1))

func roomyTerm(t api.Term) api.Term {
	out := api.Term{Var: t.Var, N: t.N}
	for _, arg := range t.Args {
		out.Args = append(out.Args, roomyTerm(arg))
	}
	out.Args = roomyList(out.Args, markOf)
	return out
}

func roomyClause(c api.Clause) api.Clause {
	var out api.Clause
	for _, l := range c {
		out = append(out, api.Lit{Neg: l.Neg, Left: roomyTerm(l.Left), Right: roomyTerm(l.Right)})
	}
	return roomyList(out, is(markOf, markOf))
}

func roomyModel(m api.Model) api.Model {
	out := api.Model{Size: m.Size}
	for _, table := range m.Tables {
		out.Tables = append(out.Tables, roomyList(table, 1))
	}
	out.Tables = roomyList(out.Tables, []int{1})
	return out
}

// whole is a list, and the spare room behind it.
func whole[T any](l []T) []T { return l[:cap(l)] }

// sameWithRoom tells whether two roomy terms are the same, spare room too.
func sameWithRoom(a, b api.Term) bool {
	if a.Var != b.Var || a.N != b.N || len(a.Args) != len(b.Args) || !reflect.DeepEqual(whole(a.Args)[len(a.Args):], whole(b.Args)[len(b.Args):]) {
		return false
	}
	return slices.EqualFunc(a.Args, b.Args, sameWithRoom)
}

func sameClauseWithRoom(a, b api.Clause) bool {
	if len(a) != len(b) || !reflect.DeepEqual(whole(a)[len(a):], whole(b)[len(b):]) {
		return false
	}
	return slices.EqualFunc(a, b, func(x, y api.Lit) bool {
		return x.Neg == y.Neg && sameWithRoom(x.Left, y.Left) && sameWithRoom(x.Right, y.Right)
	})
}

func sameModelWithRoom(a, b api.Model) bool {
	if a.Size != b.Size || !reflect.DeepEqual(whole(a.Tables), whole(b.Tables)) {
		return false
	}
	return slices.EqualFunc(a.Tables, b.Tables, func(x, y []int) bool { return slices.Equal(whole(x), whole(y)) })
}
