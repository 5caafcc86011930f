package clause_test

import (
	"regexp"
	"strings"
	"testing"

	"mendproof/api"
	"mendproof/clause"
	"mendproof/term"
)

func TestD2Text(t *testing.T) {
	for _, x := range []struct {
		c    api.Clause
		want string
	}{
		{nil, "[]"},
		{api.Clause{}, "[]"},
		{api.Clause{is(f(0), v(1))}, "a=X1"},
		{api.Clause{not(f(0), v(1))}, "a!=X1"},
		{api.Clause{is(v(3), f(1, v(3))), is(f(1, v(3)), v(3)), not(f(0), f(0))}, "X3=b(X3) | b(X3)=X3 | a!=a"},
		{api.Clause{not(f(2, v(12), f(3)), f(5)), {}, {}, {}, {}}, "c(X12,d)!=f | a=a | a=a | a=a | a=a"},
	} {
		if got := clause.Text(x.c); got != x.want {
			t.Errorf("%q comes, not %q", got, x.want)
		}
	}
}

func TestD2Parse(t *testing.T) {
	long := strings.Repeat("a", 4*api.MaxSize+1)
	deep := func(many int) string { return strings.Repeat("b(", many) + "a" + strings.Repeat(")", many) }
	for _, x := range []struct {
		name string
		s    api.Sig
		text string
		want api.Errno
	}{
		{"no literals", abcd, "[]", api.OK},
		{"one", abcd, "a=d", api.OK},
		{"one that is not", abcd, "c(a,X4)!=b(X0)", api.OK},
		{"as it is written, not as it is kept", abcd, "a=b(a) | a=a | a!=a | b(X3)=X1", api.OK},
		{"as large as can be", abcd, deep(11) + "!=" + deep(11), api.OK},
		{"no symbols", nil, "[]", api.ErrMany},
		{"too many symbols", make(api.Sig, 7), "[]", api.ErrMany},
		{"a symbol of three arguments", api.Sig{0, 3}, "a=a", api.ErrRange},
		{"wrong symbols ahead of all", api.Sig{-1}, "a=a | a=a | a=a | a=a | a=a", api.ErrRange},
		{"as many as can be", abcd, "a=a | a=a | a=a | a=a", api.OK},
		{"one more", abcd, "a=a | a=a | a=a | a=a | a=a", api.ErrMany},
		{"one more, ahead of what is wrong", abcd, " | ?=a | X5 | = | ", api.ErrMany},
		{"parts of nothing", abcd, " |  |  | ", api.ErrForm},
		{"parts of nothing, one more", abcd, " |  |  |  | ", api.ErrMany},
		{"nothing", abcd, "", api.ErrForm},
		{"no sign", abcd, "a", api.ErrForm},
		{"no sign, ahead of what the term is", abcd, "X5", api.ErrForm},
		{"only not", abcd, "a!a", api.ErrForm},
		{"no literals, and some", abcd, "[] | a=a", api.ErrForm},
		{"some, and no literals", abcd, "a=a | []", api.ErrForm},
		{"no literals, and more", abcd, "[] ", api.ErrForm},
		{"no literals, said to be something", abcd, "[]=[]", api.ErrName},
		{"nothing behind", abcd, "a=d | ", api.ErrForm},
		{"nothing ahead", abcd, " | a=d", api.ErrForm},
		{"no room between", abcd, "a=d|d=a", api.ErrForm},
		{"no room ahead", abcd, "a=d| d=a", api.ErrForm},
		{"too much room", abcd, "a=d  | d=a", api.ErrForm},
		{"too much room behind", abcd, "a=d |  d=a", api.ErrName},
		{"room around the sign", abcd, "a = d", api.ErrForm},
		{"room behind the sign", abcd, "a= d", api.ErrName},
		{"nothing on the left", abcd, "=a", api.ErrEnd},
		{"nothing on the left but not", abcd, "!=a", api.ErrEnd},
		{"nothing on the right", abcd, "a=", api.ErrEnd},
		{"twice the sign", abcd, "a==a", api.ErrName},
		{"not behind the sign", abcd, "a=!a", api.ErrName},
		{"not ahead of all", abcd, "!a=a", api.ErrName},
		{"twice not", abcd, "a!!=a", api.ErrForm},
		{"room behind not", abcd, "a! =a", api.ErrForm},
		{"the first sign counts", abcd, "a=a=a", api.ErrForm},
		{"the first sign counts, not the one that is not", abcd, "a=a!=a", api.ErrForm},
		{"no such variable", abcd, "X5=a", api.ErrRange},
		{"no such name", abcd, "a!=e", api.ErrName},
		{"left ahead of right", abcd, "X5=e", api.ErrRange},
		{"right ahead of the next part", abcd, "a=X5 | a", api.ErrRange},
		{"the first part ahead of the next one", abcd, "a | X5=a", api.ErrForm},
		{"the last part", abcd, "a=a | a=a | a=a | a=b(e)", api.ErrName},
		{"too large on the left", abcd, deep(12) + "=a", api.ErrMuch},
		{"too large on the right", abcd, "a=" + deep(12), api.ErrMuch},
		{"too long on the left", abcd, long + "=a", api.ErrMuch},
		{"too long on the right", abcd, "a=" + long, api.ErrMuch},
		{"not is no part of what is too long", abcd, long[1:] + "!=a", api.ErrForm},
		{"another line", abcd, "a=a\n", api.ErrForm},
		{"no letters", abcd, "\xff=\x00", api.ErrName},
	} {
		got, err := clause.Parse(x.s, x.text)
		if err != x.want {
			t.Errorf("%s: Parse(%q) has the error %d, not %d", x.name, x.text, err, x.want)
		}
		if err != api.OK && len(got) != 0 {
			t.Errorf("%s: %s comes beside an error", x.name, clause.Text(got))
		}
		if err == api.OK && (clause.Text(got) != x.text || clause.Wrong(x.s, got) != api.OK) {
			t.Errorf("%s: %q is read as %s", x.name, x.text, clause.Text(got))
		}
	}
}

func TestD2ParseOfLongTexts(t *testing.T) {
	if _, err := clause.Parse(abcd, strings.Repeat(" | ", 1<<20)); err != api.ErrMany {
		t.Errorf("of many parts it is %d", err)
	}
	if _, err := clause.Parse(abcd, strings.Repeat("b(", 1<<20)+"="); err != api.ErrMuch {
		t.Errorf("of a long part it is %d", err)
	}
}

var litForm = regexp.MustCompile(`^([^=]*?)(!?)=(.*)$`)

// parseByWords reads by a form that literals have.
func parseByWords(text string) (api.Clause, api.Errno) {
	if text == "[]" {
		return nil, api.OK
	}
	parts := strings.Split(text, " | ")
	if len(parts) > 4 {
		return nil, api.ErrMany
	}
	var out api.Clause
	for _, part := range parts {
		m := litForm.FindStringSubmatch(part)
		if m == nil {
			return nil, api.ErrForm
		}
		var l api.Lit
		var err api.Errno
		if l.Left, err = term.Parse(abcd, m[1]); err != api.OK {
			return nil, err
		}
		if l.Right, err = term.Parse(abcd, m[3]); err != api.OK {
			return nil, err
		}
		l.Neg = m[2] == "!"
		out = append(out, l)
	}
	return out, api.OK
}

func TestD2ParseOfAllShortTexts(t *testing.T) {
	texts := []string{""}
	for range 6 {
		var longer []string
		for _, text := range texts {
			for _, word := range []string{"a", "X1", "X7", "=", "!", " | ", " ", "[]"} {
				longer = append(longer, text+word)
			}
		}
		texts = longer
		for _, text := range texts {
			want, err2 := parseByWords(text)
			got, err := clause.Parse(abcd, text)
			if err != err2 || !alike(got, want) {
				t.Fatalf("Parse(%q) is %s, %d, not %s, %d", text, clause.Text(got), err, clause.Text(want), err2)
			}
		}
	}
}

func TestD2WrittenAndReadAgain(t *testing.T) {
	all := clausesOf(litsOf(upTo(3, 0, 4)), 1)
	all = append(all, clausesOf(litsOf(upTo(2, 3)), 2)...)
	for _, c := range mixed(5000) {
		if kept, err := clause.Norm(c); err == api.OK {
			all = append(all, kept)
		}
	}
	for _, c := range all {
		text := clause.Text(c)
		got, err := clause.Parse(abcd, text)
		if err != api.OK || !alike(got, c) {
			t.Fatalf("Parse(%q) is %s, %d", text, clause.Text(got), err)
		}
	}
}
