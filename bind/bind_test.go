package bind_test

import (
	"testing"

	"mendproof/api"
	"mendproof/bind"
	"mendproof/term"
)

func TestB1Apply(t *testing.T) {
	for _, x := range []struct{ sub, text, want string }{
		{"", "c(X0,b(X1))", "c(X0,b(X1))"},
		{"X0:b(a)", "X0", "b(a)"},
		{"X0:b(a)", "X1", "X1"},
		{"X0:b(a)", "a", "a"},
		{"X0:b(a)", "c(X0,X0)", "c(b(a),b(a))"},
		{"X0:b(a) X1:d", "c(X1,b(X0))", "c(d,b(b(a)))"},
		// The first pair of a variable counts.
		{"X1:d X0:b(a) X0:d X1:a", "c(X0,X1)", "c(b(a),d)"},
		{"X0:X0 X0:a", "b(X0)", "b(X0)"},
		// What a variable is bound to is not looked at again.
		{"X0:X1 X1:a", "b(X0)", "b(X1)"},
		{"X1:a X0:X1", "c(X0,X1)", "c(X1,a)"},
		{"X0:X1 X1:X0", "c(X0,X1)", "c(X1,X0)"},
		{"X0:b(X0)", "c(X0,b(X0))", "c(b(X0),b(b(X0)))"},
	} {
		got := term.Text(bind.Apply(sub(t, x.sub), parse(t, x.text)))
		if got != x.want {
			t.Errorf("Apply(%s, %s) is %s, not %s", x.sub, x.text, got, x.want)
		}
	}
}

func TestB1ApplyToAll(t *testing.T) {
	list := []api.Term{f(2, v(1), v(0)), f(1, v(2)), v(2)}
	s := api.Sub{{Var: 1, Term: list[1]}, {Var: 0, Term: list[0]}}
	for _, x := range upTo(5, 0, 1, 2) {
		if got := bind.Apply(s, x); !alike(got, put(x, list)) {
			t.Fatalf("Apply(%s) is %s", term.Text(x), term.Text(got))
		}
	}
}

func TestB1Rename(t *testing.T) {
	for _, x := range []struct {
		text string
		by   int
		want string
	}{
		{"a", 5, "a"},
		{"X0", 0, "X0"},
		{"X0", 5, "X5"},
		{"X4", 5, "X9"},
		{"c(b(X1),c(X0,b(X1)))", 3, "c(b(X4),c(X3,b(X4)))"},
		{"c(X3,b(X4))", -3, "c(X0,b(X1))"},
	} {
		if got := term.Text(bind.Rename(parse(t, x.text), x.by)); got != x.want {
			t.Errorf("Rename(%s, %d) is %s, not %s", x.text, x.by, got, x.want)
		}
	}
}

func TestB1NumbersMayBeGreater(t *testing.T) {
	x, y := f(2, v(0), f(1, v(11))), f(2, f(1, v(400)), f(1, v(0)))
	s, ok := bind.Unify(x, y)
	want := api.Sub{{Var: 0, Term: f(1, v(400))}, {Var: 11, Term: f(1, v(400))}}
	if !ok || !alikeSubs(s, want) {
		t.Errorf("Unify is %s, %t", subText(s), ok)
	}
	if got := bind.Apply(s, bind.Rename(v(6), 5)); !alike(got, f(1, v(400))) {
		t.Errorf("Apply is %s", term.Text(got))
	}
	s, ok = bind.Match(f(2, v(9), v(9)), f(2, v(12), v(12)))
	if !ok || !alikeSubs(s, api.Sub{{Var: 9, Term: v(12)}}) {
		t.Errorf("Match is %s, %t", subText(s), ok)
	}
}

func TestZ2WhatIsHandedInIsOnlyRead(t *testing.T) {
	s := sub(t, "X0:c(X1,b(a)) X2:b(X0)")
	for _, x := range upTo(4, 0, 1, 2) {
		for _, y := range upTo(3, 0, 1) {
			a, b, r := roomy(x), roomy(y), roomySub(s)
			bind.Apply(r, a)
			bind.Rename(a, 7)
			bind.Unify(a, b)
			bind.Unify(b, a)
			bind.Match(a, b)
			bind.More(r, a, b)
			bind.More(r, a, bind.Apply(s, x))
			if !alike(a, x) || !alike(b, y) || !alikeSubs(r, s) || !marked(a) || !marked(b) || !markedSub(r) {
				t.Fatalf("%s, %s or %s was changed", term.Text(x), term.Text(y), subText(s))
			}
		}
	}
}

func TestZ2SpareRoomIsNotLookedAt(t *testing.T) {
	none := roomySub(nil)
	if got := bind.Apply(none, f(2, v(0), v(1))); !alike(got, f(2, v(0), v(1))) {
		t.Errorf("Apply is %s", term.Text(got))
	}
	s, ok := bind.More(none, f(2, v(0), v(1)), f(2, f(0), f(3)))
	if !ok || subText(s) != "X0:a X1:d" {
		t.Errorf("More is %s, %t", subText(s), ok)
	}
}

func TestZ2AnswersShareNoMemoryWithArguments(t *testing.T) {
	x, y := roomy(parse(t, "c(X0,c(b(X1),X2))")), roomy(parse(t, "c(c(X1,d),c(b(b(a)),c(a,d)))"))
	s := roomySub(sub(t, "X0:c(X1,d) X3:b(a)"))
	oldX, oldY, oldS := deepCopy(x), deepCopy(y), copySub(s)
	call := func() ([]api.Term, []api.Sub) {
		unified, ok := bind.Unify(x, y)
		matched, ok2 := bind.Match(x, y)
		more, ok3 := bind.More(s, x, y)
		if !ok || !ok2 || !ok3 {
			t.Fatalf("they are %t, %t, %t", ok, ok2, ok3)
		}
		return []api.Term{bind.Apply(s, x), bind.Apply(nil, x), bind.Rename(x, 3)}, []api.Sub{unified, matched, more}
	}
	terms, subs := call()
	for _, out := range terms {
		spoil(out)
	}
	for _, out := range subs {
		spoilSub(out)
	}
	if !alike(x, oldX) || !alike(y, oldY) || !alikeSubs(s, oldS) || !marked(x) || !marked(y) || !markedSub(s) {
		t.Errorf("what was handed in changes with the answer")
	}
	terms, subs = call()
	var oldTerms []api.Term
	var oldSubs []api.Sub
	for _, out := range terms {
		oldTerms = append(oldTerms, deepCopy(out))
	}
	for _, out := range subs {
		oldSubs = append(oldSubs, copySub(out))
	}
	spoil(x)
	spoil(y)
	spoilSub(s)
	for i, out := range terms {
		if !alike(out, oldTerms[i]) {
			t.Errorf("term %d changes with what was handed in", i)
		}
	}
	for i, out := range subs {
		if !alikeSubs(out, oldSubs[i]) {
			t.Errorf("bindings %d change with what was handed in", i)
		}
	}
}

// apart spoils one term after the other: each must still be as it was.
func apart(t *testing.T, name string, terms []api.Term) {
	t.Helper()
	var old []api.Term
	for _, x := range terms {
		old = append(old, deepCopy(x))
	}
	for i, x := range terms {
		if !alike(x, old[i]) {
			t.Errorf("%s: %s was changed with another one", name, term.Text(old[i]))
		}
		spoil(x)
	}
}

func TestZ2ListsOfOneAnswerShareNoMemory(t *testing.T) {
	of := func(s api.Sub, ok bool) []api.Term {
		if !ok || len(s) < 3 {
			t.Fatalf("it is %s, %t", subText(s), ok)
		}
		var out []api.Term
		for _, p := range s {
			out = append(out, p.Term)
		}
		return out
	}
	two := f(1, f(0))
	apart(t, "Apply", bind.Apply(api.Sub{{Var: 0, Term: two}}, f(2, v(0), v(0))).Args)
	apart(t, "Unify", of(bind.Unify(parse(t, "c(X0,c(X1,X2))"), parse(t, "c(b(X2),c(b(X2),b(a)))"))))
	apart(t, "Unify", of(bind.Unify(parse(t, "c(X0,c(X0,X1))"), parse(t, "c(b(X2),c(X1,b(b(a))))"))))
	apart(t, "Match", of(bind.Match(parse(t, "c(X0,c(X1,X2))"), f(2, two, f(2, two, two)))))
	apart(t, "More", of(bind.More(api.Sub{{Var: 3, Term: two}, {Var: 4, Term: two}}, v(0), two)))
}

func TestZ1WrongTermsDoNotPanic(t *testing.T) {
	terms := []api.Term{{}, f(0, f(0)), f(1), f(1, f(0), f(0)), f(2, f(0)), f(-1), f(60, v(-2)), v(-7), {Var: true, N: 1, Args: []api.Term{f(0)}}}
	for _, x := range terms {
		for _, y := range terms {
			s := api.Sub{{Var: -2, Term: x}, {Var: 1, Term: y}}
			bind.Apply(s, x)
			bind.Rename(x, -1<<63)
			bind.Unify(x, y)
			bind.Match(x, y)
			bind.More(s, x, y)
		}
	}
	if s, ok := bind.Unify(f(2, v(0), v(1)), f(2, f(0))); ok || len(s) != 0 {
		t.Errorf("Unify of unlike lists of arguments is %s, %t", subText(s), ok)
	}
	if s, ok := bind.Match(f(2, v(0)), f(2, f(0), f(0))); ok || len(s) != 0 {
		t.Errorf("Match of unlike lists of arguments is %s, %t", subText(s), ok)
	}
}

func TestZ1DeepTerms(t *testing.T) {
	deep := func(end api.Term) api.Term {
		for range 1<<16 - 1 {
			end = f(1, end)
		}
		return end
	}
	s, ok := bind.Unify(deep(v(0)), deep(f(0)))
	if !ok || subText(s) != "X0:a" {
		t.Errorf("Unify is %s, %t", subText(s), ok)
	}
	if s, ok = bind.Match(deep(v(0)), deep(f(3))); !ok || subText(s) != "X0:d" {
		t.Errorf("Match is %s, %t", subText(s), ok)
	}
	if s, ok = bind.Unify(v(0), deep(v(0))); ok || len(s) != 0 {
		t.Errorf("Unify of a variable that is in the other one is true")
	}
}
