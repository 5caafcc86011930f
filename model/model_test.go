package model_test

import (
	"math"
	"slices"
	"testing"

	"mendproof/api"
	"mendproof/bind"
	"mendproof/clause"
	"mendproof/model"
	"mendproof/term"
)

func TestE1Wrong(t *testing.T) {
	for _, x := range []struct {
		why    string
		change func(m *api.Model)
		want   api.Errno
	}{
		{"right", func(m *api.Model) {}, api.OK},
		{"no things", func(m *api.Model) { m.Size = 0 }, api.ErrMany},
		{"fewer than none", func(m *api.Model) { m.Size = -3 }, api.ErrMany},
		{"one too many things", func(m *api.Model) { m.Size = api.MaxThings + 1 }, api.ErrMany},
		{"far too many things", func(m *api.Model) { m.Size = math.MaxInt }, api.ErrMany},
		{"fewer things than the tables are of", func(m *api.Model) { m.Size = 2 }, api.ErrMany},
		{"more things than the tables are of", func(m *api.Model) { m.Size = 4 }, api.ErrMany},
		{"no tables", func(m *api.Model) { m.Tables = nil }, api.ErrMany},
		{"a table is missing", func(m *api.Model) { m.Tables = m.Tables[:3] }, api.ErrMany},
		{"a table too many", func(m *api.Model) { m.Tables = append(m.Tables, []int{0}) }, api.ErrMany},
		{"a table too many, ahead of a wrong one", func(m *api.Model) { m.Tables = append(m.Tables, nil); m.Tables[0][0] = 9 }, api.ErrMany},
		{"nothing of no arguments", func(m *api.Model) { m.Tables[0] = nil }, api.ErrMany},
		{"two of no arguments", func(m *api.Model) { m.Tables[0] = []int{0, 0} }, api.ErrMany},
		{"too few of one argument", func(m *api.Model) { m.Tables[1] = m.Tables[1][:2] }, api.ErrMany},
		{"too many of one argument", func(m *api.Model) { m.Tables[1] = m.Tables[2] }, api.ErrMany},
		{"too few of two arguments", func(m *api.Model) { m.Tables[2] = m.Tables[2][:8] }, api.ErrMany},
		{"as many of two as of one", func(m *api.Model) { m.Tables[2] = m.Tables[1] }, api.ErrMany},
		{"too many of two arguments", func(m *api.Model) { m.Tables[2] = append(m.Tables[2], 0) }, api.ErrMany},
		{"too many in the last one", func(m *api.Model) { m.Tables[3] = append(m.Tables[3], 0) }, api.ErrMany},
		{"Size itself, of none", func(m *api.Model) { m.Tables[0][0] = 3 }, api.ErrRange},
		{"Size itself, of one", func(m *api.Model) { m.Tables[1][2] = 3 }, api.ErrRange},
		{"Size itself, of two", func(m *api.Model) { m.Tables[2][8] = 3 }, api.ErrRange},
		{"below 0", func(m *api.Model) { m.Tables[3][0] = -1 }, api.ErrRange},
		{"far below 0", func(m *api.Model) { m.Tables[2][0] = math.MinInt }, api.ErrRange},
		{"range ahead of a later table's length", func(m *api.Model) { m.Tables[1][0] = 3; m.Tables[2] = nil }, api.ErrRange},
		{"length ahead of a later table's range", func(m *api.Model) { m.Tables[1] = nil; m.Tables[2][0] = 3 }, api.ErrMany},
		{"length ahead of the same table's range", func(m *api.Model) { m.Tables[1] = []int{9} }, api.ErrMany},
		{"all things the same one", func(m *api.Model) { clear(m.Tables[1]); clear(m.Tables[2]) }, api.OK},
	} {
		m := three()
		x.change(&m)
		if got := model.Wrong(abcd, m); got != x.want {
			t.Errorf("%s: %d, not %d", x.why, got, x.want)
		}
	}
}

func TestE1WrongOfEachSize(t *testing.T) {
	for size := 1; size <= 2*api.MaxThings; size++ {
		if got := model.Wrong(abcd, ofThings(size, counter(3))); (got == api.OK) != (size <= api.MaxThings) || got != api.OK && got != api.ErrMany {
			t.Errorf("of %d things, where all tables fit, Wrong is %d", size, got)
		}
	}
	if got := model.Wrong(api.Sig{1, 2}, api.Model{Tables: make([][]int, 2)}); got != api.ErrMany {
		t.Errorf("of no things, where all tables fit, Wrong is %d", got)
	}
	for _, m := range mixedModels(4 * api.MaxThings) {
		// Of one thing each table has one entry.
		if got := model.Wrong(api.Sig{0, 2, 1, 0}, m); (got == api.OK) != (m.Size == 1) {
			t.Errorf("of other symbols, of %d things, Wrong is %d", m.Size, got)
		}
		if got := model.Wrong(abcd[:3], m); got != api.ErrMany {
			t.Errorf("of fewer symbols, of %d things, Wrong is %d", m.Size, got)
		}
		for i, table := range m.Tables {
			for j, old := range table {
				for _, thing := range []int{-1, m.Size} {
					table[j] = thing
					if got := model.Wrong(abcd, m); got != api.ErrRange {
						t.Errorf("with %d in table %d, of %d things, Wrong is %d", thing, i, m.Size, got)
					}
				}
				table[j] = old
			}
		}
	}
}

func TestE1Value(t *testing.T) {
	env := []int{3, 1, 0, 2, 1}
	for _, x := range []struct {
		text string
		want int
	}{
		{"X0", 3},
		{"X1", 1},
		{"X4", 1},
		{"a", 2},
		{"d", 0},
		{"b(d)", 1},
		{"b(X3)", 3},
		{"b(b(d))", 2},
		{"c(X1,X0)", 2},
		{"c(X0,X1)", 0},
		{"c(d,a)", 2},
		{"c(a,d)", 3},
		{"c(c(a,d),b(X1))", 2},
		{"b(c(X4,c(X0,a)))", 2},
	} {
		u, err := term.Parse(abcd, x.text)
		if err != api.OK {
			t.Fatalf("Parse(%s) has the error %d", x.text, err)
		}
		if got := model.Value(oneWay(), env, u); got != x.want {
			t.Errorf("Value(%s) is %d, not %d", x.text, got, x.want)
		}
	}
}

func TestE1Some(t *testing.T) {
	env := []int{0, 1, 2, 0, 0}
	for _, x := range []struct {
		text string
		want bool
	}{
		{"[]", false},
		{"a=X1", true},
		{"a!=X1", false},
		{"a=X2", false},
		{"a!=X2", true},
		{"X0=X3", true},
		{"X0=X1 | X1=X2", false},
		{"X0=X1 | X1=X2 | X0!=X1", true},
		{"X0!=X1 | X0=X1", true},
		{"X0=X1 | X1=X2 | X2=X0 | c(X1,X2)=X0", true},
		{"X0!=X3 | b(X2)!=X0", false},
		{"b(X0)=X1 | X0!=X0", true},
	} {
		if got := model.Some(three(), env, parse(t, x.text)); got != x.want {
			t.Errorf("Some(%s) is %t", x.text, got)
		}
	}
}

func TestE1Holds(t *testing.T) {
	for _, x := range []struct {
		text string
		want bool
	}{
		{"[]", false},
		{"a=d", false},
		{"a!=d", true},
		{"b(a)=d", true},
		{"X0=X0", true},
		{"X0=X1", false},
		{"X0!=X1", false},
		{"X0=X1 | X0!=X1", true},
		{"b(X0)!=X0", true},
		{"b(b(b(X4)))=X4", true},
		{"b(b(X4))=X4", false},
		{"c(X0,X1)=c(X1,X0)", true},
		{"c(X0,c(X1,X2))=c(c(X0,X1),X2)", true},
		{"c(X3,c(X1,X4))=c(c(X4,X1),X3)", true},
		{"X0=a | X0=d | X0=b(d)", true},
		{"X0=a | X0=d", false},
		{"X4=a | X4=d", false},
		{"X0=X1 | X0=X2 | X1=X2", false},
		{"c(X0,X1)=X2 | c(X0,X2)=X1 | X0!=X0", false},
		{"c(c(c(X0,X1),X2),c(X3,X4))=c(c(c(X4,X3),X2),c(X1,X0))", true},
		{"c(c(c(X0,X1),X2),c(X3,X4))=c(c(c(X4,X3),X2),c(X1,a))", false},
	} {
		if got := model.Holds(three(), parse(t, x.text)); got != x.want {
			t.Errorf("Holds(%s) is %t", x.text, got)
		}
	}
	four := api.Clause{is(v(0), v(1)), is(v(0), v(2)), is(v(0), v(3)), is(v(1), v(2)), is(v(1), v(3)), is(v(2), v(3))}
	if !model.Holds(three(), four) || model.Holds(oneWay(), four) {
		t.Errorf("of four among three none are the same, or of four among four some always are")
	}
}

// Example 5: two things that change places.
func TestE1TwoThingsThatChangePlaces(t *testing.T) {
	m := api.Model{Size: 2, Tables: [][]int{{0}, {1, 0}}}
	if got := model.Wrong(api.Sig{0, 1}, m); got != api.OK {
		t.Errorf("Wrong is %d", got)
	}
	if !model.Holds(m, parse(t, "b(b(X0))=X0")) || model.Holds(m, parse(t, "b(X0)=X0")) || !model.Holds(m, parse(t, "b(X0)!=X0")) {
		t.Errorf("b of b of something is not that, or b of it is")
	}
}

// E1: only the last one of all things can make a clause fail, whichever
// variable it is of.
func TestE1HoldsAsksEachThing(t *testing.T) {
	for size := 1; size <= api.MaxThings; size++ {
		for thing := range size {
			b, c := make([]int, size), make([]int, size*size)
			b[thing] = size - 1
			m := api.Model{Size: size, Tables: [][]int{{0}, b, c, {0}}}
			for n := range api.MaxVars {
				if got := model.Holds(m, api.Clause{is(f(1, v(n)), f(0))}); got != (size == 1) {
					t.Errorf("of %d things, where b is unlike at %d alone, b(X%d)=a is %t", size, thing, n, got)
				}
			}
		}
	}
}

// E1, word by word: on what is written, and of all that MaxVars variables can
// be, not only c's.
func TestE1WordByWord(t *testing.T) {
	hold, fail := 0, 0
	for _, m := range append(mixedModels(2*api.MaxThings), three()) {
		if m.Size > 3 {
			continue
		}
		all := envs(m.Size)
		for _, c := range mixedClauses(70, 3) {
			holds := true
			for _, env := range all {
				some := someByText(m, env, c)
				holds = holds && some
				if model.Some(m, env, c) != some {
					t.Fatalf("Some(%v, %v, %s) is not %t", m, env, clause.Text(c), some)
				}
			}
			if model.Holds(m, c) != holds {
				t.Fatalf("Holds(%v, %s) is not %t", m, clause.Text(c), holds)
			}
			if holds {
				hold++
			} else {
				fail++
			}
		}
	}
	if hold < 50 || fail < 50 {
		t.Errorf("%d hold, and %d do not", hold, fail)
	}
}

func TestE1ValueWordByWord(t *testing.T) {
	next := counter(9)
	for _, m := range append(mixedModels(10*api.MaxThings), oneWay()) {
		for _, c := range mixedClauses(60, api.MaxVars) {
			env := make([]int, api.MaxVars)
			for i := range env {
				env[i] = next(m.Size)
			}
			for _, l := range c {
				if got, want := model.Value(m, env, l.Left), byText(m, env, l.Left); got != want {
					t.Fatalf("Value(%v, %v, %s) is %d, not %d", m, env, term.Text(l.Left), got, want)
				}
			}
		}
	}
}

// What holds of all holds of each.
func TestE1WhatHoldsOfAllHoldsOfEach(t *testing.T) {
	subs := []api.Sub{
		{{Var: 0, Term: f(0)}},
		{{Var: 0, Term: v(1)}, {Var: 1, Term: v(0)}},
		{{Var: 0, Term: f(2, v(1), f(3))}, {Var: 1, Term: f(1, v(2))}},
		{{Var: 0, Term: f(3)}, {Var: 1, Term: f(3)}},
	}
	held := 0
	for _, m := range append(twos(), three(), oneWay()) {
		for _, c := range mixedClauses(200, 2) {
			if !model.Holds(m, c) {
				continue
			}
			held++
			for _, s := range subs {
				if each := clause.Apply(s, c); !model.Holds(m, each) {
					t.Fatalf("in %v %s holds, and %s does not", m, clause.Text(c), clause.Text(each))
				}
			}
		}
	}
	if held < 1000 {
		t.Errorf("only %d hold", held)
	}
}

// As it is kept it tells the same, and what is not kept, as it holds always,
// does.
func TestE1AsItIsKeptItTellsTheSame(t *testing.T) {
	for _, m := range append(twos(), three(), oneWay()) {
		for _, c := range mixedClauses(200, 3) {
			kept, err := clause.Norm(c)
			if err == api.OK && model.Holds(m, kept) != model.Holds(m, c) || err == api.ErrNone && !model.Holds(m, c) {
				t.Fatalf("in %v %s, as it is kept, tells something else", m, clause.Text(c))
			}
		}
	}
}

// Two terms that are made the same are the same thing.
func TestE1WhatIsMadeTheSameIsTheSameThing(t *testing.T) {
	made := 0
	for _, c := range mixedClauses(700, 4) {
		for _, l := range c {
			s, ok := bind.Unify(l.Left, l.Right)
			if !ok {
				continue
			}
			made++
			if x := (api.Clause{is(bind.Apply(s, l.Left), bind.Apply(s, l.Right))}); !model.Holds(oneWay(), x) {
				t.Fatalf("%s does not hold", clause.Text(x))
			}
		}
	}
	if made < 100 {
		t.Errorf("only %d are made the same", made)
	}
}

func TestE1MoreThanIsRight(t *testing.T) {
	deep := chain(1<<16-1, v(3))
	// b counts round three, and 65535 is three times something.
	if got := model.Value(three(), []int{0, 0, 0, 2, 0}, deep); got != 2 {
		t.Errorf("Value is %d", got)
	}
	if !model.Holds(three(), api.Clause{is(deep, v(3))}) || model.Holds(three(), api.Clause{is(f(1, deep), v(3))}) {
		t.Errorf("what is deep does not hold, or what does not does")
	}
	many := slices.Repeat(api.Clause{not(v(0), v(0))}, 1000)
	if model.Holds(three(), many) || !model.Holds(three(), append(many, is(v(1), v(1)))) {
		t.Errorf("of many literals none holds, or one that does not")
	}
}

func TestZ2WhatIsHandedInIsOnlyRead(t *testing.T) {
	for _, m := range append(mixedModels(api.MaxThings), oneWay()) {
		env := []int{0, m.Size - 1, m.Size / 2, 0, m.Size - 1}
		for _, c := range mixedClauses(50, 3) {
			x, d, e := roomyModel(m), roomyClause(c), roomyList(env, 1)
			if model.Wrong(roomyList(abcd, 0), x) != api.OK || model.Some(x, e, d) != model.Some(m, env, c) || model.Holds(x, d) != model.Holds(m, c) {
				t.Fatalf("%s, with room behind, is another one", clause.Text(c))
			}
			for i, l := range d {
				if model.Value(x, e, l.Left) != model.Value(m, env, c[i].Left) {
					t.Fatalf("%s, with room behind, is another one", term.Text(l.Left))
				}
			}
			if !sameModelWithRoom(x, roomyModel(m)) || !sameClauseWithRoom(d, roomyClause(c)) || !slices.Equal(whole(e), whole(roomyList(env, 1))) {
				t.Fatalf("%v, %v or %s was changed", m, env, clause.Text(c))
			}
		}
	}
}

func TestZ3NilAndEmpty(t *testing.T) {
	for _, m := range []api.Model{{Size: 1}, {Size: 1, Tables: [][]int{}}} {
		for _, s := range []api.Sig{nil, {}} {
			if got := model.Wrong(s, m); got != api.OK {
				t.Errorf("of no symbols Wrong is %d", got)
			}
		}
		for _, c := range []api.Clause{nil, {}} {
			if model.Some(m, nil, c) || model.Some(m, []int{}, c) || model.Holds(m, c) {
				t.Errorf("of no literals one holds")
			}
		}
	}
	m := three()
	m.Tables[0] = []int{}
	if got := model.Wrong(abcd, m); got != api.ErrMany {
		t.Errorf("of an empty table Wrong is %d", got)
	}
	empty := api.Term{N: 3, Args: []api.Term{}}
	if got := model.Value(three(), nil, empty); got != 2 {
		t.Errorf("of empty arguments Value is %d", got)
	}
}

func TestZ1EnvMayBeShort(t *testing.T) {
	for _, env := range [][]int{nil, {}, {1}, {-1, 7, 99}, {math.MinInt, math.MaxInt}, make([]int, 300)} {
		for _, m := range append(mixedModels(api.MaxThings), three()) {
			for _, c := range mixedClauses(30, api.MaxVars) {
				model.Some(m, env, c)
			}
		}
	}
}

func TestZ1WrongOnesDoNotPanic(t *testing.T) {
	terms := []api.Term{{}, f(0, f(0)), f(1), f(1, f(0), f(0)), f(2, f(0)), f(2, v(0), v(0), v(0)), f(-1), f(300, v(-2)), v(-7), v(math.MinInt), v(math.MaxInt), {Var: true, N: 1, Args: []api.Term{f(0)}}}
	models := []api.Model{{}, {Size: -1}, {Size: 3}, {Size: 2, Tables: [][]int{nil, {7}, {0, -9}}}, {Size: 5, Tables: make([][]int, 4)}, three()}
	for _, m := range models {
		for _, s := range []api.Sig{nil, {-1}, {0, 1, 1 << 62, 3}, abcd, {3, 4, -1, 0}, make(api.Sig, 300)} {
			model.Wrong(s, m)
		}
		for _, x := range terms {
			for _, y := range terms {
				c := api.Clause{is(x, y), not(y, x)}
				model.Value(m, []int{0, 1, 2, 0, 1}, x)
				model.Some(m, nil, c)
				model.Holds(m, c)
			}
		}
	}
	if got := model.Wrong(api.Sig{-1}, api.Model{Size: 1, Tables: [][]int{{0}}}); got != api.ErrMany {
		t.Errorf("of a symbol that is wrong Wrong is %d", got)
	}
}
