package prove_test

import (
	"testing"

	"mendproof/api"
	"mendproof/clause"
	"mendproof/prove"
)

func TestI1New(t *testing.T) {
	for _, x := range []struct{ given, want string }{
		{"", "active [] wait [] found -1 lost false"},
		// As they are kept, with their numbers.
		{"b(X3)=X3; b(a)!=a", `
1 [0] b(X0)=X0
1 [1] b(a)!=a
active [] wait [0 1] found -1 lost false`},
		{"a=d | X4=X4 | a!=a", "active [] wait [] found -1 lost false"},
		{"a=d | a!=a | d=a", `
1 [0] d=a
active [] wait [0] found -1 lost false`},
		// One that holds always is no step, and the numbers are those of all.
		{"a=a; a=d; X0=d | d!=X0; X0!=X0 | X1!=a", `
1 [1] d=a
1 [3] X0!=a
active [] wait [0 1] found -1 lost false`},
		// The same ones are steps each: none is left out for another one.
		{"b(X0)=a; b(a)=a; a=b(X1)", `
1 [0] b(X0)=a
1 [1] b(a)=a
1 [2] b(X0)=a
active [] wait [0 1 2] found -1 lost false`},
		// Of those that are empty the first one is found, and all wait.
		{"[]", `
1 [0] []
active [] wait [0] found 0 lost false`},
		{"a=d; X0!=X0; b(a)=a; []", `
1 [0] d=a
1 [1] []
1 [2] b(a)=a
1 [3] []
active [] wait [0 1 2 3] found 1 lost false`},
		// As many as there may be.
		{"[];[];[];[];[];[];a=d;[]", `
1 [0] []
1 [1] []
1 [2] []
1 [3] []
1 [4] []
1 [5] []
1 [6] d=a
1 [7] []
active [] wait [0 1 2 3 4 5 6 7] found 0 lost false`},
	} {
		check(t, "New("+x.given+")", start(t, x.given), x.want)
	}
}

func TestI1NewOfNoClauses(t *testing.T) {
	for _, l := range [][]api.Clause{nil, {}} {
		p, err := prove.New(abcd, l)
		if err != api.OK {
			t.Errorf("New has the error %d", err)
		}
		check(t, "New of none", p, "active [] wait [] found -1 lost false")
	}
}

func TestI1NewOfWrongOnes(t *testing.T) {
	right := api.Clause{is(f(0), f(3))}
	always := api.Clause{is(f(0), f(0))}
	var many api.Clause
	for range api.MaxLits + 1 {
		many = append(many, is(f(0), f(3)))
	}
	long := make([]api.Clause, api.MaxInput+1)
	name, deep := api.Clause{is(f(0), f(4))}, api.Clause{is(chain(api.MaxSize, f(0)), f(0))}
	for _, x := range []struct {
		name string
		s    api.Sig
		l    []api.Clause
		want api.Errno
	}{
		{"no symbols", nil, nil, api.ErrMany},
		{"no symbols", api.Sig{}, []api.Clause{nil}, api.ErrMany},
		{"too many symbols", make(api.Sig, api.MaxSyms+1), nil, api.ErrMany},
		{"a symbol below 0", api.Sig{0, -1}, nil, api.ErrRange},
		{"a symbol of too much", api.Sig{api.MaxArgs + 1}, nil, api.ErrRange},
		{"too many clauses", abcd, long, api.ErrMany},
		{"too many literals", abcd, []api.Clause{many}, api.ErrMany},
		{"no such name", abcd, []api.Clause{name}, api.ErrName},
		{"no such variable", abcd, []api.Clause{{is(v(api.MaxVars), f(0))}}, api.ErrRange},
		{"no arguments", abcd, []api.Clause{{is(f(1), f(0))}}, api.ErrMany},
		{"too much", abcd, []api.Clause{deep}, api.ErrMuch},
		// Symbols come first, then how many clauses there are.
		{"symbols, and clauses", api.Sig{3}, long, api.ErrRange},
		{"symbols, and a clause", api.Sig{3}, []api.Clause{name}, api.ErrRange},
		{"clauses, and one", abcd, append(long, name), api.ErrMany},
		// Then clause by clause, whatever else there is.
		{"the second one", abcd, []api.Clause{right, name}, api.ErrName},
		{"the last one of them", abcd, []api.Clause{right, right, right, right, right, right, right, deep}, api.ErrMuch},
		{"two", abcd, []api.Clause{name, deep}, api.ErrName},
		{"two", abcd, []api.Clause{deep, name}, api.ErrMuch},
		{"behind one that holds always", abcd, []api.Clause{always, name}, api.ErrName},
		{"behind an empty one", abcd, []api.Clause{nil, name}, api.ErrName},
		// One that holds always must be right, too.
		{"holds always", abcd, []api.Clause{{is(f(0), f(0)), is(f(0), f(4))}}, api.ErrName},
	} {
		p, err := prove.New(x.s, x.l)
		if err != x.want {
			t.Errorf("%s: the error is %d, not %d", x.name, err, x.want)
		}
		if !alike(p, api.Proof{}) {
			t.Errorf("%s: beside the error there is\n%s", x.name, tell(p))
		}
	}
}

// What is right is never too much to be kept, as much as there may be of it.
func TestI1NewOfTheGreatest(t *testing.T) {
	var c api.Clause
	for n := range api.MaxLits {
		c = append(c, is(chain(api.MaxSize-3-n, f(2, v(n), v(n+1))), f(0)))
	}
	l := []api.Clause{c, c, c, c, c, c, c, c}
	p, err := prove.New(api.Sig{0, 1, 2, 2, 2, 2}, l)
	if err != api.OK || len(p.Steps) != api.MaxInput {
		t.Fatalf("of the greatest there are %d steps, and the error %d", len(p.Steps), err)
	}
	for _, x := range p.Steps {
		if clause.Text(x.Clause) != clause.Text(c) {
			t.Errorf("%s is kept as %s", clause.Text(c), clause.Text(x.Clause))
		}
	}
}

func TestI1Own(t *testing.T) {
	for _, p := range []api.Proof{
		{},
		start(t, ""),
		start(t, "a=d; []; b(X0)=X0"),
		pick(t, start(t, "a!=d | X0=a; a=d"), 1, 0),
		{Sig: api.Sig{2, 0}, Steps: []api.Step{{Rule: 7, From: []int{3, 4}, Clause: api.Clause{not(v(9), f(40))}}}, Active: []int{5}, Wait: []int{-3, 6}, Found: 12, Lost: true},
	} {
		if got := prove.Own(p); !alike(got, p) {
			t.Errorf("the copy is\n%s\nnot\n%s", tell(got), tell(p))
		}
	}
}
