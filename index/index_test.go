package index_test

import (
	"slices"
	"testing"

	"mendproof/api"
	"mendproof/bind"
	"mendproof/clause"
	"mendproof/index"
	"mendproof/term"
)

func TestH1Key(t *testing.T) {
	for _, x := range []struct {
		text string
		want [3]int
	}{
		{"a", [3]int{1, -2, -2}},
		{"d", [3]int{4, -2, -2}},
		{"X0", [3]int{0, -1, -1}},
		{"X4", [3]int{0, -1, -1}},
		{"b(a)", [3]int{2, 1, -2}},
		{"b(d)", [3]int{2, 4, -2}},
		{"b(X3)", [3]int{2, 0, -2}},
		{"b(b(X3))", [3]int{2, 2, -2}},
		{"b(c(a,X0))", [3]int{2, 3, -2}},
		{"c(X0,a)", [3]int{3, 0, 1}},
		{"c(a,X0)", [3]int{3, 1, 0}},
		{"c(X0,X0)", [3]int{3, 0, 0}},
		{"c(b(X0),d)", [3]int{3, 2, 4}},
		{"c(c(a,a),b(d))", [3]int{3, 3, 2}},
	} {
		if got := index.Key(parseTerm(t, x.text)); got != x.want {
			t.Errorf("Key(%s) is %v, not %v", x.text, got, x.want)
		}
	}
}

func TestH1KeyWithoutWhatMeansNothing(t *testing.T) {
	odd := api.Term{Var: true, N: 2, Args: []api.Term{f(0), f(3)}}
	if got := index.Key(odd); got != [3]int{0, -1, -1} {
		t.Errorf("of a variable, arguments in its field, Key is %v", got)
	}
	if got := index.Key(f(2, odd, f(3))); got != [3]int{3, 0, 4} {
		t.Errorf("of one that such a variable is in Key is %v", got)
	}
}

// heads are what can be at a place of a key; of each two of them the tables
// have whether they unify, and whether the one of the row, as a pattern's,
// matches that of the column.
var heads = []int{-2, -1, 0, 1, 2}

var unifies = [][]int{
	{1, 1, 0, 0, 0},
	{1, 1, 1, 1, 1},
	{0, 1, 1, 1, 1},
	{0, 1, 1, 1, 0},
	{0, 1, 1, 0, 1},
}

var matches = [][]int{
	{1, 0, 0, 0, 0},
	{1, 1, 1, 1, 1},
	{0, 0, 1, 1, 1},
	{0, 0, 0, 1, 0},
	{0, 0, 0, 0, 1},
}

// keys are all lists of three of what heads has, as numbers of its entries.
func keys() [][3]int {
	var out [][3]int
	for i := range heads {
		for j := range heads {
			for k := range heads {
				out = append(out, [3]int{i, j, k})
			}
		}
	}
	return out
}

func TestH1UnifyAndMatch(t *testing.T) {
	for _, i := range keys() {
		a := [3]int{heads[i[0]], heads[i[1]], heads[i[2]]}
		for _, j := range keys() {
			b := [3]int{heads[j[0]], heads[j[1]], heads[j[2]]}
			unify, match := 1, 1
			for n := range 3 {
				unify *= unifies[i[n]][j[n]]
				match *= matches[i[n]][j[n]]
			}
			if got := index.Unify(a, b); got != (unify == 1) {
				t.Fatalf("Unify(%v, %v) is %t", a, b, got)
			}
			if got := index.Match(a, b); got != (match == 1) {
				t.Fatalf("Match(%v, %v) is %t", a, b, got)
			}
		}
	}
}

func TestH1UnifyAndMatchOfTerms(t *testing.T) {
	for _, x := range []struct {
		a, b         string
		unify, match bool
	}{
		{"a", "a", true, true},
		{"a", "d", false, false},
		{"X0", "X1", true, true},
		{"X0", "a", true, true},
		{"a", "X0", true, false},
		{"X0", "c(a,b(X0))", true, true},
		{"b(X0)", "X0", true, false},
		{"b(X0)", "b(c(a,a))", true, true},
		{"b(c(a,a))", "b(X0)", true, false},
		{"b(X0)", "a", false, false},
		{"b(X0)", "c(X0,X0)", false, false},
		{"b(b(a))", "b(b(d))", true, true}, // keys don't reach there
		{"b(a)", "b(d)", false, false},
		{"c(X0,a)", "c(b(d),a)", true, true},
		{"c(X0,a)", "c(b(d),d)", false, false},
		{"c(X0,a)", "c(d,X0)", true, false},
		{"c(X0,X0)", "c(a,d)", true, true}, // nor tell of one variable twice
	} {
		a, b := index.Key(parseTerm(t, x.a)), index.Key(parseTerm(t, x.b))
		if got := index.Unify(a, b); got != x.unify {
			t.Errorf("Unify of %s and %s is %t", x.a, x.b, got)
		}
		if got := index.Match(a, b); got != x.match {
			t.Errorf("Match of %s and %s is %t", x.a, x.b, got)
		}
	}
}

// What is made the same, or found by a pattern, keys have too; and they leave
// out much that is not.
func TestH1NothingIsMissed(t *testing.T) {
	ours, theirs := upTo(5, 0, 1), upTo(5, 2, 3)
	var same, found, leftSame, leftFound int
	for _, x := range ours {
		for _, y := range theirs {
			a, b := index.Key(x), index.Key(y)
			if _, ok := bind.Unify(x, y); ok {
				same++
				if !index.Unify(a, b) || !index.Unify(b, a) {
					t.Fatalf("%s and %s are made the same, but not %v and %v", term.Text(x), term.Text(y), a, b)
				}
			} else if !index.Unify(a, b) {
				leftSame++
			}
			if _, ok := bind.Match(x, y); ok {
				found++
				if !index.Match(a, b) {
					t.Fatalf("%s matches %s, but %v not %v", term.Text(x), term.Text(y), a, b)
				}
			} else if !index.Match(a, b) {
				leftFound++
			}
		}
	}
	all := len(ours) * len(theirs)
	if same < all/20 || found < all/100 || leftSame < all/2 || leftFound < all/2 {
		t.Errorf("of %d only %d and %d are made the same and found, and %d and %d left out", all, same, found, leftSame, leftFound)
	}
}

func TestH1Find(t *testing.T) {
	const list = "a d X0 b(X0) b(a) b(b(a)) c(X0,X1) c(a,X0) c(b(X0),d)"
	for _, x := range []struct {
		list, text string
		want       []int
	}{
		{list, "a", []int{0, 2}},
		{list, "d", []int{1, 2}},
		{list, "X0", []int{0, 1, 2, 3, 4, 5, 6, 7, 8}},
		{list, "X4", []int{0, 1, 2, 3, 4, 5, 6, 7, 8}},
		{list, "b(X0)", []int{2, 3, 4, 5}},
		{list, "b(a)", []int{2, 3, 4}},
		{list, "b(d)", []int{2, 3}},
		{list, "b(b(d))", []int{2, 3, 5}},
		{list, "c(d,X0)", []int{2, 6}},
		{list, "c(b(a),X0)", []int{2, 6, 8}},
		{list, "c(b(a),a)", []int{2, 6}},
		{list, "c(a,a)", []int{2, 6, 7}},
		{"", "X0", nil},
		{"b(a) d", "a", nil},
		{"a a X1 a", "a", []int{0, 1, 2, 3}},
		{"X0 d d X0", "a", []int{0, 3}},
	} {
		if got := index.Find(parseTerms(t, x.list), parseTerm(t, x.text)); !slices.Equal(got, x.want) {
			t.Errorf("of %q Find(%s) is %v, not %v", x.list, x.text, got, x.want)
		}
	}
}

func TestH1FindWordByWord(t *testing.T) {
	next, many := counter(31), 0
	for _, l := range mixedLists(32, 3000) {
		x := mixedTerm(next, 3)
		var want []int
		for i := range l {
			if index.Unify(index.Key(l[i]), index.Key(x)) {
				want = append(want, i)
			}
		}
		many += len(want)
		if got := index.Find(l, x); !slices.Equal(got, want) {
			t.Fatalf("of %s Find(%s) is %v, not %v", texts(l), term.Text(x), got, want)
		}
	}
	if many < 5000 {
		t.Errorf("only %d were found", many)
	}
}

func TestH1All(t *testing.T) {
	for _, x := range []struct{ text, want string }{
		{"[]", ""},
		{"X0=X1", ""},
		{"X0!=X0 | X1=X2", ""},
		{"a=d", "a d"},
		{"d!=a", "d a"},
		{"X0=a", "a"},
		{"a=X0", "a"},
		{"a=a | a!=a", "a a a a"},
		{"b(X0)=X0", "b(X0)"},
		{"b(b(a))=X0", "b(b(a)) b(a) a"},
		{"c(X0,a)=b(X1)", "c(X0,a) a b(X1)"},
		{"b(X0)!=c(a,b(d)) | d=a", "b(X0) c(a,b(d)) a b(d) d d a"},
		{"c(c(a,X0),c(X1,d))=X0 | X1=b(c(X0,X0))", "c(c(a,X0),c(X1,d)) c(a,X0) a c(X1,d) d b(c(X0,X0)) c(X0,X0)"},
	} {
		if got := texts(index.All(parse(t, x.text))); got != x.want {
			t.Errorf("All(%s) is %q, not %q", x.text, got, x.want)
		}
	}
}

// walk is written apart from the program: a term that is no variable is ahead
// of what is in it.
func walk(t api.Term) []api.Term {
	if t.Var {
		return nil
	}
	out := []api.Term{t}
	for _, arg := range t.Args {
		out = append(out, walk(arg)...)
	}
	return out
}

func TestH1AllWordByWord(t *testing.T) {
	many := 0
	for _, c := range mixed(33, 2000) {
		var want []api.Term
		for _, side := range sides(c) {
			want = append(want, walk(side)...)
		}
		many += len(want)
		if got := index.All(c); !alike(got, want) {
			t.Fatalf("All(%s) is %s, not %s", clause.Text(c), texts(got), texts(want))
		}
	}
	if many < 10000 {
		t.Errorf("only %d came", many)
	}
}
