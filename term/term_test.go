package term_test

import (
	"slices"
	"testing"

	"mendproof/api"
	"mendproof/term"
)

func TestA1Same(t *testing.T) {
	for _, x := range []struct {
		name string
		a, b api.Term
		want bool
	}{
		{"the same symbol", f(0), f(0), true},
		{"nil and no arguments", api.Term{}, api.Term{Args: []api.Term{}}, true},
		{"another symbol", f(0), f(1), false},
		{"the same variable", v(3), v(3), true},
		{"another variable", v(3), v(2), false},
		{"a variable and a symbol of one number", v(0), f(0), false},
		{"the same parts", f(2, v(0), f(1, f(0))), f(2, v(0), f(1, f(0))), true},
		{"an unlike part within", f(2, v(0), f(1, f(0))), f(2, v(0), f(1, v(0))), false},
		{"arguments the other way round", f(2, v(0), v(1)), f(2, v(1), v(0)), false},
		{"fewer arguments", f(2, v(0)), f(2, v(0), v(1)), false},
		{"wrong ones, the same", f(-7, v(99)), f(-7, v(99)), true},
		{"wrong ones, unlike", f(-7, v(99)), f(-7, v(98)), false},
		{"a variable with arguments, and one without", api.Term{Var: true, Args: []api.Term{{}}}, v(0), false},
		{"two variables with the same arguments", api.Term{Var: true, Args: []api.Term{{}}}, api.Term{Var: true, Args: []api.Term{{}}}, true},
		{"deep ones", chain(1<<16-1, v(0)), chain(1<<16-1, v(0)), true},
		{"deep ones, unlike at their ends", chain(1<<16-1, v(0)), chain(1<<16-1, v(1)), false},
	} {
		if got := term.Same(x.a, x.b); got != x.want {
			t.Errorf("%s: %t", x.name, got)
		}
		if got := term.Same(x.b, x.a); got != x.want {
			t.Errorf("%s, the other way: %t", x.name, got)
		}
	}
}

func TestA1SameOfEachTwo(t *testing.T) {
	var all []api.Term
	for size := 1; size <= 4; size++ {
		all = append(all, allTerms(size)...)
	}
	for i, a := range all {
		for j, b := range all {
			if term.Same(a, deepCopy(b)) != (i == j) {
				t.Fatalf("Same(%v, %v) is %t", a, b, i != j)
			}
		}
	}
}

func TestA1WrongSig(t *testing.T) {
	for _, x := range []struct {
		s    api.Sig
		want api.Errno
	}{
		{nil, api.ErrMany},
		{api.Sig{}, api.ErrMany},
		{api.Sig{0}, api.OK},
		{api.Sig{2}, api.OK},
		{api.Sig{0, 1, 2}, api.OK},
		{api.Sig{2, 2, 2, 2, 2, 2}, api.OK},
		{make(api.Sig, api.MaxSyms), api.OK},
		{make(api.Sig, api.MaxSyms+1), api.ErrMany},
		{api.Sig{0, 0, 0, 0, 0, 0, 3}, api.ErrMany},
		{api.Sig{3}, api.ErrRange},
		{api.Sig{-1}, api.ErrRange},
		{api.Sig{0, 1, 3}, api.ErrRange},
		{api.Sig{0, 0, 0, 0, 0, -1}, api.ErrRange},
		// What stands behind a list is not looked at.
		{api.Sig{0, 1, 9}[:2], api.OK},
		{api.Sig{0, 1, 2}[:0], api.ErrMany},
	} {
		if got := term.WrongSig(x.s); got != x.want {
			t.Errorf("WrongSig(%v) is %d, not %d", x.s, got, x.want)
		}
	}
}

func TestA1Wrong(t *testing.T) {
	bare := func(n int) api.Term { return api.Term{N: n} }
	loaded := func(n int) api.Term { return api.Term{Var: true, N: n, Args: []api.Term{{}}} }
	for _, x := range []struct {
		name string
		t    api.Term
		want api.Errno
	}{
		{"a symbol", f(0), api.OK},
		{"a symbol without its argument", bare(1), api.ErrMany},
		{"a symbol with an argument too many", f(1, f(0), f(0)), api.ErrMany},
		{"a symbol that takes none, with one", f(0, f(0)), api.ErrMany},
		{"a symbol with one of two", f(2, f(0)), api.ErrMany},
		{"the last symbol", f(2, f(0), f(0)), api.OK},
		{"a symbol that is not there", bare(3), api.ErrName},
		{"a symbol below all", bare(-1), api.ErrName},
		{"no such symbol ahead of its arguments", f(3, f(0), f(0), f(0)), api.ErrName},
		{"the first variable", v(0), api.OK},
		{"the last variable", v(api.MaxVars - 1), api.OK},
		{"a variable above them", v(api.MaxVars), api.ErrRange},
		{"a variable below them", v(-1), api.ErrRange},
		{"a variable with arguments", loaded(0), api.ErrMany},
		{"a variable's number ahead of its arguments", loaded(5), api.ErrRange},
		{"outer ones first", f(2, v(9)), api.ErrMany},
		{"the first ones first: number, name", f(2, v(9), bare(9)), api.ErrRange},
		{"the first ones first: name, number", f(2, bare(9), v(9)), api.ErrName},
		{"the first one's inner ones ahead of the second one", f(2, f(1, v(9)), bare(9)), api.ErrRange},
		{"the greatest size", chain(11, f(0)), api.OK},
		{"the greatest depth, a variable", chain(11, v(4)), api.OK},
		{"one deeper", chain(12, f(0)), api.ErrMuch},
		{"too deep ahead of what is wrong there", chain(12, v(9)), api.ErrMuch},
		{"what is wrong just ahead of too deep", chain(11, v(9)), api.ErrRange},
		{"wrong at the last depth, with one within", chain(11, f(1)), api.ErrMany},
		{"too deep ahead of a second one", f(2, chain(12, f(0)), v(9)), api.ErrMuch},
		{"a first one ahead of too deep", f(2, v(9), chain(12, f(0))), api.ErrRange},
		{"a size of 12", f(2, f(1, chain(4, f(0))), chain(4, v(0))), api.OK},
		{"a size of 13", f(2, f(1, chain(4, f(0))), chain(5, v(0))), api.ErrMuch},
		{"a part is told ahead of the size", f(2, f(1, chain(9, f(0))), chain(9, v(5))), api.ErrRange},
		{"far too deep", chain(1<<16-1, f(0)), api.ErrMuch},
	} {
		if got := term.Wrong(abc, x.t); got != x.want {
			t.Errorf("%s: %d, not %d", x.name, got, x.want)
		}
	}
}

func TestA1WrongEndsOnWhatIsWithinItself(t *testing.T) {
	for many := 1; many <= 2; many++ {
		args := make([]api.Term, many)
		for i := range args {
			args[i] = api.Term{N: many, Args: args}
		}
		if got := term.Wrong(abc, args[0]); got != api.ErrMuch {
			t.Errorf("with %d arguments: %d", many, got)
		}
	}
}

func TestA1SizeAndVars(t *testing.T) {
	for _, x := range []struct {
		text string
		size int
		vars []int
	}{
		{"a", 1, nil},
		{"X0", 1, []int{0}},
		{"X4", 1, []int{4}},
		{"b(a)", 2, nil},
		{"c(a,b(X0))", 4, []int{0}},
		{"c(X3,c(X1,X3))", 5, []int{3, 1}},
		{"c(c(X4,X2),c(X0,c(X1,X3)))", 9, []int{4, 2, 0, 1, 3}},
		{"c(b(X1),X0)", 4, []int{1, 0}},
		{"b(b(b(b(b(b(b(b(b(b(b(X2)))))))))))", 12, []int{2}},
	} {
		u := parse(t, x.text)
		if got := term.Size(u); got != x.size {
			t.Errorf("Size(%s) is %d, not %d", x.text, got, x.size)
		}
		if got := term.Vars(nil, u); !slices.Equal(got, x.vars) {
			t.Errorf("Vars(nil, %s) is %v, not %v", x.text, got, x.vars)
		}
	}
	for size := 1; size <= 6; size++ {
		for _, u := range allTerms(size) {
			if got := term.Size(u); got != size {
				t.Fatalf("Size(%v) is %d, not %d", u, got, size)
			}
		}
	}
}

func TestA1VarsBehindAList(t *testing.T) {
	u := parse(t, "c(X3,c(X1,X3))")
	for _, x := range []struct{ l, want []int }{
		{[]int{}, []int{3, 1}},
		{[]int{1}, []int{1, 3}},
		{[]int{3}, []int{3, 1}},
		{[]int{1, 3}, []int{1, 3}},
		{[]int{7, 7, -2}, []int{7, 7, -2, 3, 1}},
	} {
		if got := term.Vars(x.l, u); !slices.Equal(got, x.want) {
			t.Errorf("Vars(%v, ..) is %v, not %v", x.l, got, x.want)
		}
	}
}

func TestA1VarsLeavesTheList(t *testing.T) {
	room := []int{1, 50, 51, 52}
	u := parse(t, "c(X3,c(X1,X0))")
	got := term.Vars(room[:1], u)
	if !slices.Equal(got, []int{1, 3, 0}) {
		t.Fatalf("%v comes", got)
	}
	if !slices.Equal(room, []int{1, 50, 51, 52}) {
		t.Errorf("the spare room was changed: %v", room)
	}
	room[0] = 9
	if got[0] != 1 {
		t.Errorf("the answer changes with what was handed in")
	}
	same := term.Vars(room[:1], f(0))
	_ = append(same, 60)
	same[0] = 61
	if !slices.Equal(room, []int{9, 50, 51, 52}) {
		t.Errorf("what was handed in changes with the answer: %v", room)
	}
}
