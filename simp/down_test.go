package simp_test

import (
	"slices"
	"testing"

	"mendproof/api"
	"mendproof/bind"
	"mendproof/clause"
	"mendproof/order"
	"mendproof/simp"
	"mendproof/term"
)

func TestG1Unit(t *testing.T) {
	for _, x := range []struct {
		c    string
		want bool
	}{
		{"[]", false},
		{"a=d", true},
		{"a=a", true},
		{"X0=X1", true},
		{"b(X0)=X0", true},
		{"a!=d", false},
		{"X0!=X1", false},
		{"a=d | a=d", false},
		{"a=d | a!=d", false},
		{"a!=d | a=d", false},
		{"a!=d | a!=d", false},
		{"a=d | a=d | X0=X1", false},
	} {
		if got := simp.Unit(parse(t, x.c)); got != x.want {
			t.Errorf("Unit(%s) is %t", x.c, got)
		}
	}
}

func TestG1Down(t *testing.T) {
	for _, x := range []struct{ t, units, want string }{
		{"b(b(a))", "b(X0)=X0", "a"},
		{"b(b(a))", "", "b(b(a))"},
		{"X0", "b(X0)=X0", "X0"},
		{"b(b(X3))", "b(X0)=X0", "X3"},
		// At all places, also where one comes of what stands there now.
		{"c(b(a),c(b(d),b(X1)))", "b(X0)=X0", "c(a,c(d,X1))"},
		{"c(b(a),b(a))", "b(a)=d; c(X0,X0)=X0", "d"},
		{"b(c(a,d))", "c(a,X0)=X0; b(d)=a", "a"},
		{"c(d,d)", "d=a; c(a,X0)=X0", "a"},
		// A unit is taken both ways.
		{"b(b(a))", "X0=b(X0)", "a"},
		{"b(d)", "a=b(d)", "a"},
		{"d", "a=d", "a"},
		{"d", "d=a", "a"},
		{"a", "d=a", "a"},
		// At the first place that there is, outer ones first: what is within
		// would have gone elsewhere.
		{"b(b(a))", "b(a)=d; b(b(a))=a", "a"},
		{"c(b(a),d)", "b(a)=d; c(X0,d)=X0; c(d,X0)=a", "d"},
		{"c(d,b(d))", "d=a; b(d)=a; c(a,b(d))=d", "a"},
		{"c(b(a),b(d))", "b(d)=d; b(a)=a; c(b(a),d)=d", "c(a,d)"},
		// By the first one of units.
		{"b(b(a))", "b(b(X0))=d; b(b(a))=a", "d"},
		{"b(b(a))", "b(b(a))=a; b(b(X0))=d", "a"},
		{"c(d,d)", "c(X0,X0)=b(X0); c(d,X0)=a; b(d)=d", "d"},
		// By the first way of one, where both would do.
		{"c(c(b(a),a),c(b(a),d))", "c(c(X0,X1),c(X2,X3))=c(c(X1,X2),c(X3,X0))", "c(c(a,b(a)),c(d,b(a)))"},
		{"c(c(b(a),a),c(b(a),d))", "c(c(X1,X2),c(X3,X0))=c(c(X0,X1),c(X2,X3))", "c(c(d,b(a)),c(a,b(a)))"},
		// The first term must match: what is bound within t is not.
		{"b(X0)", "b(a)=a", "b(X0)"},
		{"X0", "a=d", "X0"},
		{"c(X0,X1)", "c(X0,X0)=X0", "c(X0,X1)"},
		{"c(X1,X1)", "c(X0,X0)=X0", "X1"},
		{"c(b(X1),b(X0))", "c(X0,b(X1))=X0", "b(X1)"},
		{"c(X1,X0)", "c(X0,X1)=X0", "X1"},
		{"c(X1,b(X0))", "c(X0,X1)=b(X0); c(X0,X1)=X1", "b(X1)"},
		// One that is a variable matches all that stands at places.
		{"c(d,b(X2))", "X0=a", "a"},
		{"d", "X0=a", "a"},
		{"a", "X0=a", "a"},
		{"X2", "X0=a", "X2"},
		{"a", "X0=d", "a"},
		{"b(a)", "X3=d", "d"},
		// No variable in the second term that the first one has not, even where
		// t has it.
		{"c(X1,a)", "c(X0,a)=X1", "c(X1,a)"},
		{"c(b(X1),X1)", "c(b(X0),X0)=b(X1)", "c(b(X1),X1)"},
		{"c(b(X0),X0)", "c(X1,X0)=X0; X1=c(X0,X1)", "X0"},
		{"c(a,d)", "c(X0,a)=X1; c(X0,X1)=X2", "c(a,d)"},
		{"c(a,d)", "X0=X1", "c(a,d)"},
		{"c(b(a),a)", "c(X0,a)=b(X1)", "c(b(a),a)"},
		{"c(d,a)", "c(X0,X0)=c(X0,X1)", "c(d,a)"},
		{"c(b(d),b(a))", "b(X0)=b(X1)", "c(b(d),b(a))"},
		// What stands there must be above the second term, so bound.
		{"c(a,d)", "c(X0,X1)=c(X1,X0)", "c(a,d)"},
		{"c(d,a)", "c(X0,X1)=c(X1,X0)", "c(a,d)"},
		{"c(X0,X1)", "c(X0,X1)=c(X1,X0)", "c(X0,X1)"},
		{"c(b(X0),X0)", "c(X0,X1)=c(X1,X0)", "c(X0,b(X0))"},
		{"c(c(d,a),b(a))", "c(X0,X1)=c(X1,X0)", "c(b(a),c(a,d))"},
		{"c(X0,b(a))", "c(X0,b(X1))=c(X1,X0)", "c(a,X0)"},
		{"c(a,d)", "c(X0,X1)=X1; c(a,d)=d", "d"},
		{"b(a)", "b(X0)=c(X0,X0)", "b(a)"},
		{"c(b(a),b(a))", "b(X0)=c(X0,X0)", "b(b(a))"},
		{"b(a)", "b(a)=b(a); a=a", "b(a)"},
		{"c(a,c(a,d))", "c(X0,X1)=b(X0)", "b(a)"},
		// As large as a term may be.
		{"b(b(b(b(b(b(b(b(b(b(b(X4)))))))))))", "b(b(X0))=X0", "b(X4)"},
		{"c(c(b(b(a)),d),c(b(b(a)),b(a)))", "c(X0,X1)=c(X1,X0); b(a)=a", "c(c(a,a),c(a,d))"},
	} {
		got := simp.Down(parseTerm(t, x.t), parseAll(t, x.units))
		if text := term.Text(got); text != x.want {
			t.Errorf("Down(%s) by %q is %s, not %s", x.t, x.units, text, x.want)
		}
	}
}

// taken is a literal's terms, way 0 or way 1.
func taken(l api.Lit, way int) (first, second api.Term) {
	if way == 0 {
		return l.Left, l.Right
	}
	return l.Right, l.Left
}

// less answers what stands there then, as the promise tells it, written.
func less(part, first, second api.Term) (api.Term, bool) {
	s, ok := bind.Match(first, part)
	vars := term.Vars(nil, first)
	for _, n := range term.Vars(nil, second) {
		ok = ok && slices.Contains(vars, n)
	}
	bound := bind.Apply(s, second)
	return bound, ok && order.Compare(part, bound) == api.CmpMore
}

// once answers t, less, at the first place, by the first one of units.
func once(t api.Term, units []api.Clause) (api.Term, bool) {
	for _, place := range term.Places(t) {
		part, _ := term.At(t, place)
		for n := range 2 * len(units) {
			first, second := taken(units[n/2][0], n%2)
			if u, ok := less(part, first, second); ok {
				return term.Put(t, place, u), true
			}
		}
	}
	return t, false
}

// downByWord answers in how many turns, too.
func downByWord(t api.Term, units []api.Clause) (api.Term, int) {
	for turns := 0; ; turns++ {
		next, ok := once(t, units)
		if !ok {
			return t, turns
		}
		t = next
	}
}

func TestG1DownWordByWord(t *testing.T) {
	next := counter(1)
	often := map[int]int{}
	for _, units := range unitLists(2, 12000) {
		for range 10 {
			x := mixedTerm(next, 4, api.MaxVars)
			want, turns := downByWord(x, units)
			if got := simp.Down(x, units); !term.Same(got, want) {
				t.Fatalf("Down(%s) by %q is %s, not %s", term.Text(x), texts(units), term.Text(got), term.Text(want))
			}
			often[min(turns, 3)]++
		}
	}
	for turns := range 4 {
		if often[turns] < 300 {
			t.Errorf("only %d terms took %d turns", often[turns], turns)
		}
	}
}

func TestG1DownIsLessAndAtItsEnd(t *testing.T) {
	next := counter(3)
	for _, units := range unitLists(4, 2000) {
		for range 10 {
			x := mixedTerm(next, 4, api.MaxVars)
			got := simp.Down(x, units)
			if k := order.Compare(x, got); k != api.CmpMore && k != api.CmpSame {
				t.Fatalf("Down(%s) by %q is %s, which is not less", term.Text(x), texts(units), term.Text(got))
			}
			if again := simp.Down(got, units); !term.Same(again, got) || term.Wrong(abcd, got) != api.OK {
				t.Fatalf("Down(%s) by %q is %s, which is not at its end", term.Text(x), texts(units), term.Text(got))
			}
		}
	}
}

// TestG1DownEndsLate counts down: c and b are the digits 1 and 0.
func TestG1DownEndsLate(t *testing.T) {
	s := api.Sig{0, 1, 1}
	many := func(n, of int, end api.Term) api.Term {
		for range of {
			end = f(n, end)
		}
		return end
	}
	const digits = api.MaxSize - 1
	var units []api.Clause
	for k := range digits {
		units = append(units, api.Clause{is(f(2, many(1, k, f(0))), f(1, many(2, k, f(0))))})
	}
	all, none := many(2, digits, f(0)), many(1, digits, f(0))
	if term.Wrong(s, all) != api.OK {
		t.Fatal("the number is too large")
	}
	if _, turns := downByWord(all, units); turns != 1<<digits-1 {
		t.Errorf("it takes %d turns", turns)
	}
	if got := simp.Down(all, units); !term.Same(got, none) {
		t.Errorf("it ends at %s", term.Text(got))
	}
}

func TestG1DownTellsTheSame(t *testing.T) {
	h := newHeld()
	next := counter(5)
	changed := 0
	for _, units := range unitLists(6, 400) {
		for range 5 {
			x := mixedTerm(next, 3, 3)
			got := simp.Down(x, units)
			if !term.Same(x, got) {
				changed++
			}
			h.follows(t, api.Clause{is(x, got)}, units...)
		}
	}
	if changed < 200 {
		t.Errorf("only %d were changed", changed)
	}
}

func TestG1Rewrite(t *testing.T) {
	for _, x := range []struct {
		c, units, want string
		err            api.Errno
	}{
		{"[]", "", "[]", api.OK},
		{"[]", "b(X0)=X0", "[]", api.OK},
		{"b(a)=a", "", "b(a)=a", api.OK},
		// Both terms of each literal, Neg or not.
		{"b(a)=b(d)", "b(X0)=X0", "d=a", api.OK},
		{"b(a)!=b(d) | b(X2)=d", "b(X0)=X0", "d!=a | X0=d", api.OK},
		{"c(b(X3),a)=b(X1)", "b(X0)=X0", "c(X0,a)=X1", api.OK},
		// Norm comes behind it: what can't hold is gone, what holds always is
		// no clause, what is above comes to stand on the left, what is told
		// twice is told once, and variables are numbered anew.
		{"b(a)!=a", "b(X0)=X0", "[]", api.OK},
		{"b(a)=a", "b(X0)=X0", "[]", api.ErrNone},
		{"a=b(a)", "", "b(a)=a", api.OK},
		{"b(a)=d", "b(X0)=X0", "d=a", api.OK},
		{"b(b(a))=d | b(a)=d | d!=b(X3)", "b(X0)=X0", "d=a | d!=X0", api.OK},
		{"b(a)=d | a!=d", "b(X0)=X0", "[]", api.ErrNone},
		{"b(a)=d | d!=a", "", "b(a)=d | d!=a", api.OK},
		{"c(X4,X2)=X2 | c(X1,X1)=a", "c(X0,X1)=X1", "[]", api.ErrNone},
		{"c(X4,X2)=a | X1!=d", "c(X0,X1)=X1", "X0=a | X1!=d", api.OK},
		{"X0=X0 | b(a)=a", "", "[]", api.ErrNone},
		// Variables are numbered by what is above, not as they came.
		{"X3=b(X3) | b(X3)=X3 | a!=a", "", "b(X0)=X0", api.OK},
		{"c(X2,X1)=b(c(X1,X2))", "b(X0)=X0", "c(X0,X1)=c(X1,X0)", api.OK},
		// A unit that says what the clause says has it hold always.
		{"b(X0)=X0", "b(X0)=X0", "[]", api.ErrNone},
		{"b(X0)!=X0", "b(X0)=X0", "[]", api.OK},
		{"d=a", "a=d", "[]", api.ErrNone},
		{"a!=d | d!=a", "a=d", "[]", api.OK},
		{"c(d,a)=c(a,d) | X0=d", "c(X0,X1)=c(X1,X0)", "[]", api.ErrNone},
		{"c(d,a)!=c(a,d) | X0=d", "c(X0,X1)=c(X1,X0)", "X0=d", api.OK},
		{"c(X0,X1)=c(X1,X0)", "c(X0,X1)=c(X1,X0)", "c(X0,X1)=c(X1,X0)", api.OK},
		// As many literals, and variables, as a clause may have.
		{"X0=d | X1=d | X2=d | c(X3,b(X4))!=b(d)", "b(X0)=X0", "X0=d | X1=d | X2=d | c(X3,X4)!=d", api.OK},
	} {
		got, err := simp.Rewrite(parse(t, x.c), parseAll(t, x.units))
		if clause.Text(got) != x.want || err != x.err {
			t.Errorf("Rewrite(%s) by %q is %s, %d, not %s, %d", x.c, x.units, clause.Text(got), err, x.want, x.err)
		}
	}
}

func rewriteByWord(c api.Clause, units []api.Clause) (api.Clause, api.Errno) {
	out := deepCopy(c)
	for i := range out {
		out[i].Left, _ = downByWord(c[i].Left, units)
		out[i].Right, _ = downByWord(c[i].Right, units)
	}
	return clause.Norm(out)
}

func TestG1RewriteWordByWord(t *testing.T) {
	lists := unitLists(7, 4000)
	often := map[api.Errno]int{}
	for i, c := range mixed(8, len(lists), api.MaxLits, 3, api.MaxVars) {
		got, err := simp.Rewrite(c, lists[i])
		want, wantErr := rewriteByWord(c, lists[i])
		if !alike(got, want) || err != wantErr {
			t.Fatalf("Rewrite(%s) by %q is %s, %d, not %s, %d", clause.Text(c), texts(lists[i]), clause.Text(got), err, clause.Text(want), wantErr)
		}
		if err == api.OK && clause.Wrong(abcd, got) != api.OK {
			t.Fatalf("Rewrite(%s) by %q is %s, which is wrong", clause.Text(c), texts(lists[i]), clause.Text(got))
		}
		if again, err := clause.Norm(got); err != api.OK || !alike(again, got) {
			t.Fatalf("Rewrite(%s) by %q is %s, which is not as it is kept", clause.Text(c), texts(lists[i]), clause.Text(got))
		}
		often[err]++
	}
	if often[api.OK] < 1000 || often[api.ErrNone] < 100 {
		t.Errorf("of errors there were %v", often)
	}
}

func TestG1RewriteTellsTheSame(t *testing.T) {
	h := newHeld()
	lists := unitLists(9, 400)
	changed, always := 0, 0
	for i, c := range mixed(10, len(lists), 3, 2, 3) {
		got, err := simp.Rewrite(c, lists[i])
		if err != api.OK {
			h.follows(t, c, lists[i]...)
			always++
			continue
		}
		h.follows(t, got, append(lists[i], c)...)
		h.follows(t, c, append(lists[i], got)...)
		if !alike(c, got) {
			changed++
		}
	}
	if changed < 100 || always < 10 {
		t.Errorf("only %d were changed, and %d hold always", changed, always)
	}
}
