package clause_test

import (
	"math"
	"slices"
	"strings"
	"testing"

	"mendproof/api"
	"mendproof/bind"
	"mendproof/clause"
	"mendproof/term"
)

func TestD1SameLit(t *testing.T) {
	for _, x := range []struct {
		name string
		a, b api.Lit
		want bool
	}{
		{"the same", is(f(0), v(1)), is(f(0), v(1)), true},
		{"the same, not", not(f(0), v(1)), not(f(0), v(1)), true},
		{"one says not", is(f(0), v(1)), not(f(0), v(1)), false},
		{"another one on the left", is(f(0), v(1)), is(f(3), v(1)), false},
		{"another one on the right", is(f(0), v(1)), is(f(0), v(2)), false},
		{"another one within", is(f(1, f(0)), v(1)), is(f(1, v(0)), v(1)), false},
		{"the other way round", is(f(0), v(1)), is(v(1), f(0)), false},
		{"noughts", api.Lit{}, api.Lit{}, true},
		{"nil and empty", is(f(0), f(0)), is(api.Term{Args: []api.Term{}}, f(0)), true},
		{"wrong ones", is(f(-7, v(99)), f(1)), is(f(-7, v(99)), f(1)), true},
		{"wrong ones, unlike", is(f(-7, v(99)), f(1)), is(f(-7, v(98)), f(1)), false},
	} {
		if clause.SameLit(x.a, x.b) != x.want || clause.SameLit(x.b, x.a) != x.want {
			t.Errorf("%s: not %t", x.name, x.want)
		}
		if clause.Same(api.Clause{x.a}, api.Clause{x.b}) != x.want {
			t.Errorf("%s, as clauses: not %t", x.name, x.want)
		}
	}
}

func TestD1Same(t *testing.T) {
	for _, x := range []struct {
		a, b string
		want bool
	}{
		{"[]", "[]", true},
		{"[]", "a=a", false},
		{"a=d | a!=d", "a=d | a!=d", true},
		{"a=d | a!=d", "a!=d | a=d", false},
		{"a=d | a=d", "a=d", false},
		{"a=d | X0=d", "a=d | X1=d", false},
		{"X0=d", "d=X0", false},
	} {
		a, b := parse(t, x.a), parse(t, x.b)
		if clause.Same(a, b) != x.want || clause.Same(b, a) != x.want {
			t.Errorf("Same(%s, %s) is not %t", x.a, x.b, x.want)
		}
	}
	if !clause.Same(nil, api.Clause{}) || clause.Same(nil, api.Clause{{}}) {
		t.Errorf("nil is not the same as empty, or as something")
	}
}

func TestD1SameOfEachTwo(t *testing.T) {
	l := litsOf(upTo(2, 0))
	all := append(clausesOf(l, 0), clausesOf(l, 1)...)
	all = append(all, clausesOf(l[:12], 2)...)
	for i, a := range all {
		for j, b := range all {
			if clause.Same(a, deepCopy(b)) != (i == j) {
				t.Fatalf("Same(%s, %s) is %t", clause.Text(a), clause.Text(b), i != j)
			}
		}
	}
}

func TestD1Wrong(t *testing.T) {
	right := is(f(0), v(4))
	name, many, much, number := f(4), f(1), chain(12, f(0)), v(5)
	for _, x := range []struct {
		name string
		c    api.Clause
		want api.Errno
	}{
		{"nil", nil, api.OK},
		{"empty", api.Clause{}, api.OK},
		{"right ones, as many as can be", api.Clause{right, right, right, right}, api.OK},
		{"as large as can be", api.Clause{not(chain(11, v(0)), chain(11, f(3)))}, api.OK},
		{"one more", make(api.Clause, api.MaxLits+1), api.ErrMany},
		{"too many, ahead of a wrong one", api.Clause{is(name, name), right, right, right, right}, api.ErrMany},
		{"wrong on the left", api.Clause{is(name, f(0))}, api.ErrName},
		{"wrong on the right", api.Clause{is(f(0), name)}, api.ErrName},
		{"a symbol's arguments", api.Clause{is(f(0), many)}, api.ErrMany},
		{"a variable's number", api.Clause{not(number, f(0))}, api.ErrRange},
		{"a variable's number below 0", api.Clause{not(f(0), v(-1))}, api.ErrRange},
		{"too large on the left", api.Clause{is(much, f(0))}, api.ErrMuch},
		{"too large on the right", api.Clause{is(f(0), much)}, api.ErrMuch},
		{"left ahead of right", api.Clause{is(much, number)}, api.ErrMuch},
		{"right ahead of the next one", api.Clause{is(f(0), number), is(name, f(0))}, api.ErrRange},
		{"the last one", api.Clause{right, right, right, is(f(0), name)}, api.ErrName},
	} {
		if got := clause.Wrong(abcd, x.c); got != x.want {
			t.Errorf("%s: %d, not %d", x.name, got, x.want)
		}
	}
	if got := clause.Wrong(api.Sig{0}, api.Clause{is(f(0), f(1, f(0)))}); got != api.ErrName {
		t.Errorf("of other symbols it is %d", got)
	}
}

func TestD1Vars(t *testing.T) {
	for _, x := range []struct {
		text string
		want []int
	}{
		{"[]", nil},
		{"a=d | b(a)!=d", nil},
		{"X3=X1", []int{3, 1}},
		{"a=X1 | X3=a", []int{1, 3}},
		{"X1=X0 | b(X2)=X0", []int{1, 0, 2}},
		{"X2!=X2 | c(X4,X2)=c(X0,X4) | X1=X3", []int{2, 4, 0, 1, 3}},
	} {
		if got := clause.Vars(parse(t, x.text)); !slices.Equal(got, x.want) {
			t.Errorf("Vars(%s) is %v", x.text, got)
		}
	}
	if got := clause.Vars(api.Clause{is(v(70), f(1, v(9))), is(v(9), v(math.MaxInt))}); !slices.Equal(got, []int{70, 9, math.MaxInt}) {
		t.Errorf("of greater numbers Vars is %v", got)
	}
}

func TestD1Apply(t *testing.T) {
	s := api.Sub{{Var: 0, Term: f(3)}, {Var: 1, Term: f(1, v(0))}, {Var: 0, Term: f(0)}, {Var: 9, Term: v(2)}}
	for _, x := range []struct{ text, want string }{
		{"[]", "[]"},
		{"a=a", "a=a"},
		{"X0=X0 | X0=X0", "d=d | d=d"},
		{"X1!=X0 | c(X0,X1)=X2", "b(X0)!=d | c(d,b(X0))=X2"},
		// What comes is neither turned nor made simpler.
		{"a=b(X1) | X0!=d", "a=b(b(X0)) | d!=d"},
	} {
		if got := clause.Text(clause.Apply(s, parse(t, x.text))); got != x.want {
			t.Errorf("Apply to %s is %s, not %s", x.text, got, x.want)
		}
	}
	if got := clause.Text(clause.Apply(s, api.Clause{not(v(9), v(10))})); got != "X2!=X10" {
		t.Errorf("of greater numbers Apply is %s", got)
	}
}

func TestD1Rename(t *testing.T) {
	for _, x := range []struct {
		text string
		by   int
		want string
	}{
		{"[]", 5, "[]"},
		{"a!=d", 5, "a!=d"},
		{"X0=X4 | b(X1)!=c(X0,a)", 0, "X0=X4 | b(X1)!=c(X0,a)"},
		{"X0=X4 | b(X1)!=c(X0,a)", 5, "X5=X9 | b(X6)!=c(X5,a)"},
		{"X3=X4", -3, "X0=X1"},
	} {
		if got := clause.Text(clause.Rename(parse(t, x.text), x.by)); got != x.want {
			t.Errorf("Rename(%s, %d) is %s, not %s", x.text, x.by, got, x.want)
		}
	}
}

// D1: of all that is mixed, term by term as chapters 1 and 2 have it.
func TestD1TermByTerm(t *testing.T) {
	s := api.Sub{{Var: 2, Term: f(2, v(0), v(7))}, {Var: 0, Term: f(3)}}
	for _, c := range mixed(2000) {
		applied, renamed := clause.Apply(s, c), clause.Rename(c, 5)
		if len(applied) != len(c) || len(renamed) != len(c) {
			t.Fatalf("of %s there are %d, %d literals", clause.Text(c), len(applied), len(renamed))
		}
		var vars []int
		for i, l := range c {
			if want := (api.Lit{Neg: l.Neg, Left: bind.Apply(s, l.Left), Right: bind.Apply(s, l.Right)}); !clause.SameLit(applied[i], want) {
				t.Fatalf("Apply to %s is %s", clause.Text(c), clause.Text(applied))
			}
			if want := (api.Lit{Neg: l.Neg, Left: bind.Rename(l.Left, 5), Right: bind.Rename(l.Right, 5)}); !clause.SameLit(renamed[i], want) {
				t.Fatalf("Rename of %s is %s", clause.Text(c), clause.Text(renamed))
			}
			vars = term.Vars(vars, l.Left)
			vars = term.Vars(vars, l.Right)
		}
		if got := clause.Vars(c); !slices.Equal(got, vars) {
			t.Fatalf("Vars(%s) is %v, not %v", clause.Text(c), got, vars)
		}
	}
}

func TestZ2WhatIsHandedInIsOnlyRead(t *testing.T) {
	s := api.Sub{{Var: 2, Term: roomyTerm(f(2, v(0), v(7)))}, {Var: 0, Term: f(3)}}
	for _, c := range mixed(2000) {
		x, y := roomy(c), roomy(c)
		got, err := clause.Norm(x)
		want, err2 := clause.Norm(c)
		if err != err2 || !alike(got, want) {
			t.Fatalf("Norm(%s) with room behind is %s, %d, not %s, %d", clause.Text(c), clause.Text(got), err, clause.Text(want), err2)
		}
		if clause.Text(x) != clause.Text(c) || clause.Wrong(abcd, x) != clause.Wrong(abcd, c) || !clause.Same(x, y) || !slices.Equal(clause.Vars(x), clause.Vars(c)) {
			t.Fatalf("%s with room behind is another one", clause.Text(c))
		}
		if !alike(clause.Apply(s, x), clause.Apply(s, c)) || !alike(clause.Rename(x, 3), clause.Rename(c, 3)) {
			t.Fatalf("of %s with room behind other ones come", clause.Text(c))
		}
		if !alike(x, c) || !alike(y, c) || !marked(x) || !marked(y) || !markedTerm(s[0].Term) {
			t.Fatalf("%s was changed", clause.Text(c))
		}
	}
}

// made are the calls that answer clauses, by their names.
func made(s api.Sub) map[string]func(c api.Clause) api.Clause {
	return map[string]func(c api.Clause) api.Clause{
		"Apply":  func(c api.Clause) api.Clause { return clause.Apply(s, c) },
		"Rename": func(c api.Clause) api.Clause { return clause.Rename(c, 1) },
		"Norm": func(c api.Clause) api.Clause {
			out, _ := clause.Norm(c)
			return out
		},
	}
}

func TestZ2AnswersShareNoMemoryWithArguments(t *testing.T) {
	text := "c(a,X0)=c(b(X1),a) | b(b(X2))!=c(X0,X0) | X1=b(a)"
	for name := range made(nil) {
		x, bound := roomy(parse(t, text)), roomyTerm(f(2, v(0), v(1)))
		call := made(api.Sub{{Var: 0, Term: bound}})[name]
		got := call(x)
		old := deepCopy(got)
		spoil(got)
		if clause.Text(x) != text || !marked(x) || !markedTerm(bound) || !term.Same(bound, f(2, v(0), v(1))) {
			t.Errorf("%s: what was handed in changes with the answer", name)
		}
		got = call(x)
		spoil(x)
		spoilTerm(bound)
		if len(got) != 3 || !alike(got, old) {
			t.Errorf("%s: the answer changes with what was handed in", name)
		}
	}
}

func TestZ2ListsOfOneAnswerShareNoMemory(t *testing.T) {
	two := f(1, f(0))
	c := api.Clause{is(f(2, two, v(0)), f(2, v(0), two)), not(f(1, two), v(0)), is(f(1, v(0)), two)}
	calls := made(api.Sub{{Var: 0, Term: f(1, f(3))}})
	calls["Parse"] = func(c api.Clause) api.Clause { return parse(t, clause.Text(c)) }
	for name, call := range calls {
		got := call(c)
		old := deepCopy(got)
		for i := range got {
			for _, side := range []struct{ now, was api.Term }{{got[i].Left, old[i].Left}, {got[i].Right, old[i].Right}} {
				if !term.Same(side.now, side.was) {
					t.Errorf("%s: %s was changed with another one", name, term.Text(side.was))
				}
				spoilTerm(side.now)
			}
		}
	}
}

func TestZ3NilAndEmpty(t *testing.T) {
	for _, c := range []api.Clause{nil, {}} {
		got, err := clause.Norm(c)
		if len(got) != 0 || err != api.OK || clause.Text(c) != "[]" || len(clause.Vars(c)) != 0 || len(clause.Apply(nil, c)) != 0 || len(clause.Rename(c, 1)) != 0 {
			t.Errorf("of no literals something comes")
		}
	}
	empty := api.Term{N: 3, Args: []api.Term{}}
	if got, err := clause.Norm(api.Clause{is(empty, f(3))}); err != api.ErrNone || len(got) != 0 {
		t.Errorf("Norm is %s, %d", clause.Text(got), err)
	}
	if got, err := clause.Norm(api.Clause{is(empty, f(0)), is(f(0), f(3))}); err != api.OK || clause.Text(got) != "d=a" {
		t.Errorf("Norm is %s, %d", clause.Text(got), err)
	}
}

func TestZ1WrongClausesDoNotPanic(t *testing.T) {
	terms := []api.Term{{}, f(0, f(0)), f(1), f(1, f(0), f(0)), f(2, f(0)), f(-1), f(300, v(-2)), v(-7), v(math.MinInt), {Var: true, N: 1, Args: []api.Term{f(0)}}}
	l := litsOf(terms)
	for _, s := range []api.Sig{nil, {-1}, {1 << 62}, abcd, make(api.Sig, 300)} {
		for _, c := range append(clausesOf(l, 1), clausesOf(l[:40], 2)...) {
			clause.Wrong(s, c)
			clause.Parse(s, clause.Text(c))
		}
	}
	for _, c := range append(clausesOf(l, 1), clausesOf(l[:40], 2)...) {
		clause.Same(c, c[1:])
		clause.Vars(c)
		clause.Apply(api.Sub{{Var: -7, Term: c[0].Left}, {}}, c)
		clause.Rename(c, math.MinInt)
		if got, err := clause.Norm(c); err != api.OK && len(got) != 0 {
			t.Fatalf("Norm answers %v beside the error %d", got, err)
		}
	}
}

func TestZ1DeepTerms(t *testing.T) {
	deep := chain(1<<16-1, v(8))
	c := api.Clause{is(v(8), deep), is(deep, f(0))}
	if got, err := clause.Norm(c); err != api.ErrMuch || len(got) != 0 {
		t.Errorf("Norm has the error %d", err)
	}
	if _, err := clause.Norm(api.Clause{is(deep, v(8)), not(v(8), deep)}); err != api.ErrNone {
		t.Errorf("Norm of what always holds has the error %d", err)
	}
	if !clause.Same(clause.Rename(clause.Rename(c, 2), -2), c) {
		t.Errorf("renamed there and back it is another one")
	}
	if got := clause.Wrong(abcd, api.Clause{is(chain(1<<16-1, v(0)), f(0))}); got != api.ErrMuch {
		t.Errorf("Wrong is %d", got)
	}
	if got := clause.Text(c); len(got) != 2*(3*(1<<16-1)+2)+len("X8= | =a") || !strings.HasSuffix(got, ")=a") {
		t.Errorf("Text has %d bytes", len(got))
	}
}
