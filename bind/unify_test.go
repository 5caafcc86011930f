package bind_test

import (
	"testing"

	"mendproof/api"
	"mendproof/bind"
	"mendproof/term"
)

const no = "no"

func TestB1Unify(t *testing.T) {
	for _, x := range []struct{ a, b, want string }{
		{"a", "a", ""},
		{"a", "d", no},
		{"X0", "X0", ""},
		{"X0", "a", "X0:a"},
		{"a", "X0", "X0:a"},
		{"X1", "b(X0)", "X1:b(X0)"},
		{"b(X0)", "X1", "X1:b(X0)"},
		// Of two variables the first one is bound.
		{"X0", "X1", "X0:X1"},
		{"X1", "X0", "X1:X0"},
		{"b(X3)", "b(X2)", "X3:X2"},
		// A variable in the other one.
		{"X0", "b(X0)", no},
		{"b(X0)", "X0", no},
		{"c(X0,X1)", "c(b(X1),b(X0))", no},
		{"c(X0,X0)", "c(X1,b(X1))", no},
		{"b(X0)", "b(X0)", ""},
		// Symbols unlike.
		{"b(a)", "c(a,a)", no},
		{"b(a)", "b(d)", no},
		{"c(X0,b(a))", "c(a,b(d))", no},
		{"c(X0,X0)", "c(a,d)", no},
		// What is bound counts in what comes later.
		{"c(X0,b(X1))", "c(b(a),X0)", "X0:b(a) X1:a"},
		{"c(X0,X0)", "c(a,X1)", "X0:a X1:a"},
		{"c(X0,X0)", "c(X1,a)", "X0:a X1:a"},
		{"c(X0,c(X1,X0))", "c(X1,c(X0,a))", "X0:a X1:a"},
		{"c(X0,X1)", "c(X1,X0)", "X0:X1"},
		// It counts in what was bound before it, too.
		{"c(X0,X1)", "c(b(X1),a)", "X0:b(a) X1:a"},
		{"c(X0,c(X1,X2))", "c(b(X1),c(b(X2),d))", "X0:b(b(d)) X1:b(d) X2:d"},
		// Arguments come ahead of all others, the first ones first.
		{"c(c(X2,X0),X1)", "c(c(a,d),b(a))", "X2:a X0:d X1:b(a)"},
		{"c(X1,c(X2,X0))", "c(b(a),c(a,d))", "X1:b(a) X2:a X0:d"},
		{"c(c(X0,a),X1)", "c(c(X1,X2),X0)", "X0:X1 X2:a"},
		// What stands on the left is bound where both are variables then.
		{"c(X0,X1)", "c(X2,X0)", "X0:X2 X1:X2"},
		{"c(X0,X0)", "c(X2,X1)", "X0:X1 X2:X1"},
	} {
		s, ok := bind.Unify(parse(t, x.a), parse(t, x.b))
		if !ok && len(s) != 0 {
			t.Errorf("Unify(%s, %s) tells %s beside false", x.a, x.b, subText(s))
		}
		if ok != (x.want != no) || ok && subText(s) != x.want {
			t.Errorf("Unify(%s, %s) is %s, %t, not %s", x.a, x.b, subText(s), ok, x.want)
		}
	}
}

// slowly does as the chapter says, word by word: both terms are made anew with
// all that is bound, each time.
func slowly(s api.Sub, todo [][2]api.Term) (api.Sub, bool) {
	if len(todo) == 0 {
		return s, true
	}
	a, b := bind.Apply(s, todo[0][0]), bind.Apply(s, todo[0][1])
	todo = todo[1:]
	if alike(a, b) {
		return slowly(s, todo)
	}
	if !a.Var && b.Var {
		a, b = b, a
	}
	if a.Var {
		if within(a.N, b) {
			return nil, false
		}
		last := api.Sub{{Var: a.N, Term: b}}
		var all api.Sub
		for _, p := range s {
			all = append(all, api.Pair{Var: p.Var, Term: bind.Apply(last, p.Term)})
		}
		return slowly(append(all, last...), todo)
	}
	if a.N != b.N {
		return nil, false
	}
	var ahead [][2]api.Term
	for i := range a.Args {
		ahead = append(ahead, [2]api.Term{a.Args[i], b.Args[i]})
	}
	return slowly(s, append(ahead, todo...))
}

func within(n int, t api.Term) bool {
	if t.Var {
		return t.N == n
	}
	for _, arg := range t.Args {
		if within(n, arg) {
			return true
		}
	}
	return false
}

func TestB1UnifyAsTheChapterSays(t *testing.T) {
	all := upTo(5, 0, 1)
	all = append(all, ofSize(3, 2)...)
	for _, x := range all {
		for _, y := range all {
			checkSlowly(t, x, y)
		}
	}
	for _, x := range ofSize(7, 0, 1)[:400] {
		for _, y := range ofSize(7, 1, 2)[300:700] {
			checkSlowly(t, x, y)
		}
	}
}

func checkSlowly(t *testing.T, x, y api.Term) {
	t.Helper()
	got, ok := bind.Unify(x, y)
	want, ok2 := slowly(nil, [][2]api.Term{{x, y}})
	if ok != ok2 || !alikeSubs(got, want) {
		t.Fatalf("Unify(%s, %s) is %s, %t, not %s, %t", term.Text(x), term.Text(y), subText(got), ok, subText(want), ok2)
	}
	if ok && !alike(bind.Apply(got, x), bind.Apply(got, y)) {
		t.Fatalf("%s and %s are not the same by %s", term.Text(x), term.Text(y), subText(got))
	}
	for _, p := range got {
		if !alike(bind.Apply(got, p.Term), p.Term) {
			t.Fatalf("Unify(%s, %s) is not bound through: %s", term.Text(x), term.Text(y), subText(got))
		}
	}
}

// Whatever makes two terms the same comes of what Unify answers.
func TestB1UnifyMissesNothing(t *testing.T) {
	list := upTo(3)
	for _, x := range upTo(4, 0, 1) {
		for _, y := range upTo(4, 0, 1) {
			s, ok := bind.Unify(x, y)
			for _, p := range list {
				for _, q := range list {
					by := []api.Term{p, q}
					if !alike(put(x, by), put(y, by)) {
						continue
					}
					if !ok || !alike(put(bind.Apply(s, f(2, v(0), v(1))), by), f(2, p, q)) {
						t.Fatalf("Unify(%s, %s) is %s, %t, and %s, %s make them the same", term.Text(x), term.Text(y), subText(s), ok, term.Text(p), term.Text(q))
					}
				}
			}
		}
	}
}
