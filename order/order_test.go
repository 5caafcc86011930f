package order_test

import (
	"math"
	"strings"
	"testing"

	"mendproof/api"
	"mendproof/order"
	"mendproof/term"
)

// turned is what Compare answers of the same two the other way round.
func turned(cmp int) int {
	switch cmp {
	case api.CmpLess:
		return api.CmpMore
	case api.CmpMore:
		return api.CmpLess
	}
	return cmp
}

// check asks both ways round.
func check(t *testing.T, a, b api.Term, want int) {
	t.Helper()
	if got := order.Compare(a, b); got != want {
		t.Errorf("Compare(%s, %s) is %d, not %d", term.Text(a), term.Text(b), got, want)
	}
	if got := order.Compare(b, a); got != turned(want) {
		t.Errorf("Compare(%s, %s) is %d, not %d", term.Text(b), term.Text(a), got, turned(want))
	}
}

// C1: each rule, and what it does not reach.
func TestCompare(t *testing.T) {
	for _, c := range []struct {
		why, a, b string
		want      int
	}{
		{"example 3", "b(X0)", "X0", api.CmpMore},
		{"example 3", "X0", "X1", api.CmpNone},
		{"the same", "X0", "X0", api.CmpSame},
		{"the same", "a", "a", api.CmpSame},
		{"the same", "c(X0,b(X1))", "c(X0,b(X1))", api.CmpSame},
		{"a variable is above none", "X0", "a", api.CmpNone},
		{"a variable is above none", "X1", "d", api.CmpNone},
		{"another variable", "b(X0)", "X1", api.CmpNone},
		{"another variable, within", "b(X0)", "b(X1)", api.CmpNone},
		{"not in there at all", "c(a,b(a))", "X0", api.CmpNone},
		{"not in there at all, within", "c(a,b(a))", "b(X0)", api.CmpNone},
		{"in there more often", "c(X0,b(b(a)))", "c(X0,X0)", api.CmpNone},
		{"in there as often", "c(X0,b(X0))", "c(X0,X0)", api.CmpMore},
		{"in there less often", "c(X0,b(X0))", "c(X0,a)", api.CmpMore},
		{"one variable less, one more", "c(X0,b(X0))", "c(X0,X1)", api.CmpNone},
		{"each variable as often, elsewhere", "b(c(X1,X0))", "c(X0,X1)", api.CmpMore},
		{"size ahead of the symbol", "b(a)", "d", api.CmpMore},
		{"size ahead of the symbol", "b(b(b(a)))", "c(d,d)", api.CmpMore},
		{"size ahead of arguments", "c(a,b(a))", "c(d,d)", api.CmpMore},
		{"the symbol", "d", "a", api.CmpMore},
		{"the symbol", "c(a,a)", "b(b(d))", api.CmpMore},
		{"the symbol, a variable less often", "c(X0,X0)", "b(b(X0))", api.CmpMore},
		{"the symbol, but for a variable", "c(X0,X1)", "b(b(X2))", api.CmpNone},
		{"the argument", "b(d)", "b(a)", api.CmpMore},
		{"the argument within", "b(b(d))", "b(b(a))", api.CmpMore},
		{"the first argument", "c(d,a)", "c(a,d)", api.CmpMore},
		{"the second argument", "c(a,d)", "c(a,a)", api.CmpMore},
		{"the second argument", "c(X0,d)", "c(X0,a)", api.CmpMore},
		{"the size of the first argument", "c(b(a),a)", "c(a,b(a))", api.CmpMore},
		{"the first argument alone", "c(X0,d)", "c(X1,a)", api.CmpNone},
		{"the first argument alone, where the next is above", "c(X0,X1)", "c(X1,X0)", api.CmpNone},
		{"the first argument is not above", "c(a,X0)", "c(X0,a)", api.CmpNone},
		{"the first argument is above as a whole", "c(b(X0),X1)", "c(X0,b(X1))", api.CmpMore},
		{"a variable within the argument", "c(b(X0),b(X1))", "c(b(X1),b(X0))", api.CmpNone},
		{"as large as can be", "c(c(c(a,a),c(a,a)),b(b(b(d))))", "c(c(c(a,a),c(a,a)),b(b(b(a))))", api.CmpMore},
	} {
		t.Run(c.why, func(t *testing.T) { check(t, parse(t, c.a), parse(t, c.b), c.want) })
	}
}

// C1: the symbol's number counts, not how many arguments it has.
func TestCompareSymbolsOfFewerArguments(t *testing.T) {
	check(t, f(2, f(2, f(0))), f(1, f(0), f(0)), api.CmpMore)
	check(t, f(5, f(0)), f(4, f(3)), api.CmpMore)
	check(t, f(5), f(4), api.CmpMore)
}

// C1: terms are as in chapter 2: variables' numbers may be greater.
func TestCompareGreaterVariables(t *testing.T) {
	for _, n := range []int{5, 9, 10, 100, 1 << 40, math.MaxInt} {
		check(t, v(n), v(n), api.CmpSame)
		check(t, v(n), v(0), api.CmpNone)
		check(t, v(n), v(n-1), api.CmpNone)
		check(t, v(n), f(0), api.CmpNone)
		check(t, f(1, v(n)), v(n), api.CmpMore)
		check(t, f(1, v(n)), v(n-1), api.CmpNone)
		check(t, f(1, v(n)), f(0), api.CmpMore)
		check(t, f(2, f(1, v(n)), v(0)), f(2, v(n), f(1, v(0))), api.CmpMore)
		check(t, f(2, v(n), f(1, v(0))), f(2, v(n), v(n)), api.CmpNone)
	}
}

// aboveByWords is the promise word by word, and counts in what is written.
func aboveByWords(a, b api.Term) bool {
	if a.Var {
		return false
	}
	x, y := term.Text(a), term.Text(b)
	for _, name := range []string{"X0", "X1", "X2", "X3", "X4"} {
		if strings.Count(y, name) > strings.Count(x, name) {
			return false
		}
	}
	if letters(x) > letters(y) {
		return true
	}
	if letters(x) < letters(y) || b.Var {
		return false
	}
	if a.N != b.N {
		return a.N > b.N
	}
	for i, arg := range a.Args {
		if term.Text(arg) != term.Text(b.Args[i]) {
			return aboveByWords(arg, b.Args[i])
		}
	}
	return false
}

func letters(text string) int {
	n := 0
	for _, r := range text {
		if strings.ContainsRune("Xabcd", r) {
			n++
		}
	}
	return n
}

// C1: all pairs of small terms, as the promise's words tell them.
func TestCompareByWords(t *testing.T) {
	l := upTo(5, 0, 1)
	for _, a := range l {
		for _, b := range l {
			want := api.CmpNone
			switch {
			case term.Text(a) == term.Text(b):
				want = api.CmpSame
			case aboveByWords(a, b):
				want = api.CmpMore
			case aboveByWords(b, a):
				want = api.CmpLess
			}
			if got := order.Compare(a, b); got != want {
				t.Fatalf("Compare(%s, %s) is %d, not %d", term.Text(a), term.Text(b), got, want)
			}
		}
	}
}

// C1: one way alone: no two are above each other, none is above itself, and
// what is above something is above all that is below that.
func TestCompareOneWay(t *testing.T) {
	l := upTo(3, 0, 1)
	for _, a := range l {
		for _, b := range l {
			if got, back := order.Compare(a, b), order.Compare(b, a); back != turned(got) {
				t.Errorf("Compare of %s and %s is %d, and %d back", term.Text(a), term.Text(b), got, back)
			}
			if order.Compare(a, b) != api.CmpMore {
				continue
			}
			for _, c := range l {
				if order.Compare(b, c) == api.CmpMore && order.Compare(a, c) != api.CmpMore {
					t.Errorf("%s, %s, %s: the first is not above the last", term.Text(a), term.Text(b), term.Text(c))
				}
			}
		}
	}
}

// C1: without variables, of two terms that are not the same one is above.
func TestCompareWithoutVariables(t *testing.T) {
	l := upTo(5)
	for i, a := range l {
		for j, b := range l {
			got := order.Compare(a, b)
			if got == api.CmpNone || (got == api.CmpSame) != (i == j) {
				t.Fatalf("Compare(%s, %s) is %d", term.Text(a), term.Text(b), got)
			}
		}
	}
}

// C1: a term is above all that is in it.
func TestCompareParts(t *testing.T) {
	for _, a := range upTo(6, 0, 1) {
		for _, arg := range a.Args {
			if got := order.Compare(a, arg); got != api.CmpMore {
				t.Fatalf("Compare(%s, %s) is %d", term.Text(a), term.Text(arg), got)
			}
		}
	}
}

// C1: bound, and within others, it stays.
func TestCompareStays(t *testing.T) {
	l := upTo(4, 0, 1)
	bound := upTo(2, 0, 1)
	for _, a := range l {
		for _, b := range l {
			if order.Compare(a, b) != api.CmpMore {
				continue
			}
			for _, in := range [][2]api.Term{
				{f(1, a), f(1, b)}, {f(2, a, v(0)), f(2, b, v(0))}, {f(2, f(3), a), f(2, f(3), b)},
			} {
				if got := order.Compare(in[0], in[1]); got != api.CmpMore {
					t.Fatalf("Compare(%s, %s) is %d", term.Text(in[0]), term.Text(in[1]), got)
				}
			}
			for i, x := range bound {
				y := bound[len(bound)-1-i]
				p, q := put(a, []api.Term{x, y}), put(b, []api.Term{x, y})
				if got := order.Compare(p, q); got != api.CmpMore {
					t.Fatalf("Compare(%s, %s) is %d", term.Text(p), term.Text(q), got)
				}
			}
		}
	}
}

// Z1: what is answered hangs on the arguments alone, not on the order in
// which variables are gone through.
func TestCompareAgain(t *testing.T) {
	a, b := parse(t, "c(c(X0,X1),c(X2,c(X3,b(a))))"), parse(t, "c(c(X3,X2),c(X1,c(X0,X4)))")
	c := parse(t, "c(c(X3,X2),c(X1,c(X0,a)))")
	for range 200 {
		check(t, a, b, api.CmpNone)
		check(t, a, c, api.CmpMore)
	}
}

// Z2: what is handed in is only read, and what is behind it is not looked at.
func TestCompareOnlyReads(t *testing.T) {
	l := upTo(4, 0)
	for _, a := range l {
		for _, b := range l {
			x, y := roomy(a), roomy(b)
			if got, want := order.Compare(x, y), order.Compare(a, b); got != want {
				t.Fatalf("Compare(%s, %s) with room behind is %d, not %d", term.Text(a), term.Text(b), got, want)
			}
			if !alike(x, a) || !alike(y, b) || !marked(x) || !marked(y) {
				t.Fatalf("Compare(%s, %s) changes them", term.Text(a), term.Text(b))
			}
		}
	}
}

// Z3: nil and a list without entries are the same.
func TestCompareNilAndEmpty(t *testing.T) {
	for _, variable := range []bool{false, true} {
		none := api.Term{Var: variable, N: 3}
		empty := api.Term{Var: variable, N: 3, Args: []api.Term{}}
		check(t, none, empty, api.CmpSame)
		check(t, f(2, f(1, none), f(3)), f(2, f(1, empty), f(0)), api.CmpMore)
	}
}

// Z1: no panic, and no two above each other, of wrong terms either: unlike
// numbers of arguments, symbols that there are not, numbers below 0.
func TestCompareWrongTerms(t *testing.T) {
	l := []api.Term{
		{}, f(0, f(0)), f(1), f(1, f(0), f(0)), f(1, f(1, f(0))), f(2, v(0)), f(2, f(0), f(0), v(0)),
		f(-1), f(-1, f(3), v(-1)), f(99), f(99, v(0), v(0), v(0)), v(-1), v(math.MinInt), f(2, v(math.MinInt), v(math.MaxInt)),
		{Var: true, N: 0, Args: []api.Term{f(0)}}, {Var: true, N: 0, Args: []api.Term{v(1), v(1)}},
		f(1, api.Term{Var: true, N: 0, Args: []api.Term{v(1)}}),
	}
	for _, a := range l {
		for _, b := range l {
			if got, back := order.Compare(a, b), order.Compare(b, a); back != turned(got) {
				t.Errorf("Compare of %v and %v is %d, and %d back", a, b, got, back)
			}
		}
	}
}
