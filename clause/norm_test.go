package clause_test

import (
	"regexp"
	"slices"
	"strconv"
	"strings"
	"testing"

	"mendproof/api"
	"mendproof/clause"
	"mendproof/order"
	"mendproof/term"
)

// D2: each rule of Norm, and what it does not reach.
func TestD2Norm(t *testing.T) {
	for _, x := range []struct{ why, text, want string }{
		{"nothing", "[]", "[]"},
		{"example 4", "X3=b(X3) | b(X3)=X3 | a!=a", "b(X0)=X0"},
		{"gone", "a!=a", "[]"},
		{"gone, a variable", "X2!=X2 | b(X2)!=b(X2)", "[]"},
		{"gone, in the middle", "d=a | b(a)!=b(a) | b(a)=a", "d=a | b(a)=a"},
		{"not gone, as variables are unlike", "X0!=X1", "X0!=X1"},
		{"not gone, as it may be itself", "b(X0)=b(X1)", "b(X0)=b(X1)"},
		{"turned", "a=d", "d=a"},
		{"turned, not", "a!=b(a)", "b(a)!=a"},
		{"as it must be", "b(a)=a", "b(a)=a"},
		{"neither is above", "X0=b(X1)", "X0=b(X1)"},
		{"neither is above", "c(X0,X1)=c(X1,X0)", "c(X0,X1)=c(X1,X0)"},
		{"a variable and a symbol", "X0=a | d=X0", "X0=a | d=X0"},
		{"numbered", "X4=X2 | X3!=X4", "X0=X1 | X2!=X0"},
		{"numbered, all at once", "X1=X2 | X2=X0", "X0=X1 | X1=X2"},
		{"numbered, the other way round", "X1=X0", "X0=X1"},
		{"numbered when turned", "c(X1,X2)=c(X2,b(X1))", "c(X0,b(X1))=c(X1,X0)"},
		{"numbered when others are gone", "X4!=X4 | b(X2)=a", "b(X0)=a"},
		{"the same again", "b(a)=a | b(a)=a", "b(a)=a"},
		{"the same again, turned", "a=b(a) | b(a)=a", "b(a)=a"},
		{"the same again, either way", "X0=X1 | X1=X0", "X0=X1"},
		{"the same again, not", "X0!=X1 | X1!=X0 | X0!=X1", "X0!=X1"},
		{"the first one stays, as it stands", "X1=b(X0) | b(X0)=X1", "X0=b(X1)"},
		{"the first one stays, at its place", "d=a | b(a)=a | a=d | c(a,a)=a", "d=a | b(a)=a | c(a,a)=a"},
		{"the same but for a variable", "b(X0)=a | b(X1)=a", "b(X0)=a | b(X1)=a"},
		{"one term is the same", "b(a)=a | b(a)=d", "b(a)=a | b(a)=d"},
		{"one term is the same, turned", "X0=X1 | X1=X2", "X0=X1 | X1=X2"},
		{"one term twice", "X0=X1 | X0=b(X1) | X1=b(X0)", "X0=X1 | X0=b(X1) | X1=b(X0)"},
		{"as many as can be", "a=d | a=b(a) | a=b(d) | d=b(d)", "d=a | b(a)=a | b(d)=a | b(d)=d"},
		{"as many variables as can be", "c(X4,X3)=c(X2,X1) | X0=a", "c(X0,X1)=c(X2,X3) | X4=a"},
	} {
		got, err := clause.Norm(parse(t, x.text))
		if err != api.OK || clause.Text(got) != x.want {
			t.Errorf("%s: Norm(%s) is %s, %d, not %s", x.why, x.text, clause.Text(got), err, x.want)
		}
	}
}

func TestD2NormHoldsAlways(t *testing.T) {
	for _, text := range []string{
		"a=a", "X3=X3", "c(X0,b(a))=c(X0,b(a))", "d=a | a=a", "a!=a | a=a", "X0=X1 | X2=X2",
		"a=d | d!=a", "d!=a | d=a", "X0=X1 | X1!=X0", "X0!=X1 | X0=X1", "X0=b(X1) | b(X1)!=X0",
		"d=a | a=d | d!=a", "d=a | b(a)=a | b(d)=a | a!=b(a)",
	} {
		if got, err := clause.Norm(parse(t, text)); err != api.ErrNone || len(got) != 0 {
			t.Errorf("Norm(%s) is %s, %d", text, clause.Text(got), err)
		}
	}
}

// litsOfOne are so many literals, none of which is another one, of a variable
// of that number.
func litsOfOne(many, n int) api.Clause {
	var out api.Clause
	for i := range many {
		out = append(out, not(chain(i+1, v(n)), f(0)))
	}
	return out
}

func TestD2NormLimits(t *testing.T) {
	large, larger := chain(11, f(0)), chain(12, f(0))
	five := litsOfOne(5, 7)
	sixVars := api.Clause{is(f(2, v(0), v(11)), f(2, v(2), v(3))), is(v(40), v(5))}
	for _, x := range []struct {
		why  string
		c    api.Clause
		want api.Errno
	}{
		{"as many as can be", litsOfOne(4, 7), api.OK},
		{"one more", five, api.ErrMuch},
		{"one more, but one is gone", append(litsOfOne(4, 7), not(v(7), v(7))), api.OK},
		{"one more, but one is there already", append(litsOfOne(4, 7), not(f(0), chain(2, v(7)))), api.OK},
		{"far more, but they are there already", slices.Concat(litsOfOne(4, 7), litsOfOne(4, 7), litsOfOne(4, 7)), api.OK},
		{"one more, and it holds always", append(litsOfOne(5, 7), is(v(1), v(1))), api.ErrNone},
		{"one more, and two hold always", append(litsOfOne(5, 7), is(chain(5, v(7)), f(0))), api.ErrNone},
		{"six variables, in few literals", sixVars, api.ErrMuch},
		{"as many variables as can be, in few literals", append(api.Clause{is(v(40), v(11))}, sixVars[0]), api.OK},
		{"six variables, but one of them is gone", append(api.Clause{not(v(99), v(99)), is(v(40), v(11))}, sixVars[0]), api.OK},
		{"six variables, and it holds always", append(sixVars[:2:2], is(f(0), f(0))), api.ErrNone},
		{"six variables, and two hold always", append(sixVars[:2:2], not(v(5), v(40))), api.ErrNone},
		{"as large as can be", api.Clause{is(large, v(0)), not(v(1), large)}, api.OK},
		{"larger, on the left", api.Clause{is(larger, v(0))}, api.ErrMuch},
		{"larger, on the right", api.Clause{is(v(0), larger)}, api.ErrMuch},
		{"larger, in the last one", api.Clause{is(f(3), f(0)), not(f(0), larger)}, api.ErrMuch},
		{"larger, and not deep", api.Clause{is(f(2, chain(5, f(0)), chain(5, f(0))), f(0))}, api.ErrMuch},
		{"larger, but gone", api.Clause{not(larger, larger), is(f(3), f(0))}, api.OK},
		{"larger, and it holds always", api.Clause{is(larger, larger)}, api.ErrNone},
		{"larger, and two hold always", api.Clause{is(larger, f(0)), not(f(0), larger)}, api.ErrNone},
		{"much in all, and it holds always", slices.Concat(five, sixVars, api.Clause{is(larger, f(0)), is(f(3), f(3))}), api.ErrNone},
	} {
		got, err := clause.Norm(x.c)
		if err != x.want {
			t.Errorf("%s: %d, not %d", x.why, err, x.want)
		}
		if err != api.OK && len(got) != 0 {
			t.Errorf("%s: %s comes beside an error", x.why, clause.Text(got))
		}
	}
}

var varWords = regexp.MustCompile(`X\d+`)

// normByWords is the promise on what is written: variables are come to first
// where they stand first in it.
func normByWords(c api.Clause) (string, api.Errno) {
	var stay []string
	for _, l := range c {
		left, right, sign := term.Text(l.Left), term.Text(l.Right), "="
		if l.Neg {
			sign = "!="
		}
		if left == right && !l.Neg {
			return "", api.ErrNone
		}
		if order.Compare(l.Right, l.Left) == api.CmpMore {
			left, right = right, left
		}
		if left != right {
			stay = append(stay, left+sign+right)
		}
	}
	numbers := map[string]string{}
	text := varWords.ReplaceAllStringFunc(strings.Join(stay, " | "), func(word string) string {
		if numbers[word] == "" {
			numbers[word] = "X" + strconv.Itoa(len(numbers))
		}
		return numbers[word]
	})
	out, err := distinctByWords(text)
	if err == api.OK && len(numbers) > api.MaxVars {
		err = api.ErrMuch
	}
	if err != api.OK {
		return "", err
	}
	return out, api.OK
}

func distinctByWords(text string) (string, api.Errno) {
	if text == "" {
		return "[]", api.OK
	}
	var stay []string
	said := map[string]bool{}
	much := false
	for _, part := range strings.Split(text, " | ") {
		left, right, _ := strings.Cut(part, "=")
		left, neg := strings.CutSuffix(left, "!")
		much = much || letters(left) > api.MaxSize || letters(right) > api.MaxSize
		if !said[left+right+strconv.FormatBool(neg)] {
			stay = append(stay, part)
		}
		said[left+right+strconv.FormatBool(neg)], said[right+left+strconv.FormatBool(neg)] = true, true
		if said[left+right+strconv.FormatBool(!neg)] {
			return "", api.ErrNone
		}
	}
	if much || len(stay) > api.MaxLits {
		return "", api.ErrMuch
	}
	return strings.Join(stay, " | "), api.OK
}

func letters(text string) int {
	n := 0
	for _, r := range text {
		if strings.ContainsRune("Xabcd", r) {
			n++
		}
	}
	return n
}

func checkByWords(t *testing.T, c api.Clause) {
	t.Helper()
	want, err2 := normByWords(c)
	got, err := clause.Norm(c)
	if err != err2 || err == api.OK && clause.Text(got) != want || err != api.OK && len(got) != 0 {
		t.Fatalf("Norm(%s) is %s, %d, not %s, %d", clause.Text(c), clause.Text(got), err, want, err2)
	}
}

// D2: all small clauses, and mixed ones, as the promise's words tell them.
func TestD2NormByWords(t *testing.T) {
	for _, c := range clausesOf(litsOf(upTo(4, 0, 9)), 1) {
		checkByWords(t, c)
	}
	for _, c := range clausesOf(litsOf(upTo(2, 0, 9)), 2) {
		checkByWords(t, c)
	}
	for _, c := range clausesOf(litsOf([]api.Term{f(0), v(6), v(1), f(1, v(1))}), 3) {
		checkByWords(t, c)
	}
	seen := map[api.Errno]int{}
	for _, c := range mixed(50000) {
		checkByWords(t, c)
		_, err := clause.Norm(c)
		seen[err]++
	}
	if len(seen) != 3 || seen[api.OK] < 1000 || seen[api.ErrNone] < 1000 || seen[api.ErrMuch] < 1000 {
		t.Errorf("the mixed ones are not mixed: %v", seen)
	}
}

// D2: what is kept is right, is kept as it is, and does not hang on how
// variables were numbered.
func TestD2NormAgain(t *testing.T) {
	for _, c := range mixed(20000) {
		got, err := clause.Norm(c)
		if err == api.OK {
			if wrong := clause.Wrong(abcd, got); wrong != api.OK {
				t.Fatalf("Norm(%s) is %s, which has the error %d", clause.Text(c), clause.Text(got), wrong)
			}
			if again, err := clause.Norm(got); err != api.OK || !clause.Same(again, got) {
				t.Fatalf("Norm(%s) is %s, %d", clause.Text(got), clause.Text(again), err)
			}
		}
		for _, other := range []api.Clause{clause.Rename(c, 4), clause.Apply(api.Sub{{Var: 0, Term: v(7)}, {Var: 7, Term: v(2)}, {Var: 2, Term: v(0)}}, c)} {
			if again, err2 := clause.Norm(other); err2 != err || !clause.Same(again, got) {
				t.Fatalf("Norm(%s) is %s, %d, not %s, %d", clause.Text(other), clause.Text(again), err2, clause.Text(got), err)
			}
		}
	}
}

// twoThings has what a, d and b of two things are, and c of them: bit by bit.
type twoThings struct{ a, d, b, c int }

func (m twoThings) value(env []int, t api.Term) int {
	if t.Var {
		return env[t.N]
	}
	at := 0
	for _, arg := range t.Args {
		at = at*2 + m.value(env, arg)
	}
	return []int{m.a, m.b, m.c, m.d}[t.N] >> at & 1
}

// holds: whatever things the variables are.
func (m twoThings) holds(c api.Clause) bool {
	vars := clause.Vars(c)
	env := make([]int, 10)
	for things := range 1 << len(vars) {
		for i, n := range vars {
			env[n] = things >> i & 1
		}
		if !slices.ContainsFunc(c, func(l api.Lit) bool {
			return (m.value(env, l.Left) == m.value(env, l.Right)) != l.Neg
		}) {
			return false
		}
	}
	return true
}

// D2: as it is kept it tells the same; what is not kept for ErrNone holds.
func TestD2NormTellsTheSame(t *testing.T) {
	var models []twoThings
	for n := range 1 << 8 {
		models = append(models, twoThings{n & 1, n >> 1 & 1, n >> 2 & 3, n >> 4})
	}
	all := append(clausesOf(litsOf(upTo(2, 0, 9)), 1), mixed(2000)...)
	all = append(all, clausesOf(litsOf([]api.Term{f(0), v(6), v(1), f(1, v(1))}), 2)...)
	for _, c := range all {
		got, err := clause.Norm(c)
		if err == api.ErrMuch {
			continue
		}
		for _, m := range models {
			if m.holds(c) != (err == api.ErrNone || m.holds(got)) {
				t.Fatalf("Norm(%s) is %s, %d, which does not tell the same of %v", clause.Text(c), clause.Text(got), err, m)
			}
		}
	}
}
