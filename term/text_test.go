package term_test

import (
	"strings"
	"testing"

	"mendproof/api"
	"mendproof/term"
)

func TestA2Text(t *testing.T) {
	for _, x := range []struct {
		t    api.Term
		want string
	}{
		{f(0), "a"},
		{f(5), "f"},
		{v(0), "X0"},
		{v(4), "X4"},
		{v(17), "X17"},
		{f(1, f(0)), "b(a)"},
		{f(2, f(0), f(1, v(0))), "c(a,b(X0))"},
		{f(2, f(2, v(1), f(0)), f(2, v(3), v(2))), "c(c(X1,a),c(X3,X2))"},
	} {
		if got := term.Text(x.t); got != x.want {
			t.Errorf("%q comes, not %q", got, x.want)
		}
	}
}

func TestA2Read(t *testing.T) {
	for _, x := range []struct {
		text string
		want api.Term
		rest string
		err  api.Errno
	}{
		{"a", f(0), "", api.OK},
		{"aa", f(0), "a", api.OK},
		{"a(a)", f(0), "(a)", api.OK},
		{"X0", v(0), "", api.OK},
		{"X4 and more", v(4), " and more", api.OK},
		{"X12", v(1), "2", api.OK},
		{"b(a))", f(1, f(0)), ")", api.OK},
		{"c(X1,b(a)),", f(2, v(1), f(1, f(0))), ",", api.OK},
		{"b(a)\x00", f(1, f(0)), "\x00", api.OK},
		{"", api.Term{}, "", api.ErrEnd},
		{"X", api.Term{}, "", api.ErrEnd},
		{"b", api.Term{}, "", api.ErrEnd},
		{"b(", api.Term{}, "", api.ErrEnd},
		{"b(a", api.Term{}, "", api.ErrEnd},
		{"b(X", api.Term{}, "", api.ErrEnd},
		{"c(a,", api.Term{}, "", api.ErrEnd},
		{"d", api.Term{}, "", api.ErrName},
		{"A", api.Term{}, "", api.ErrName},
		{"x0", api.Term{}, "", api.ErrName},
		{" a", api.Term{}, "", api.ErrName},
		{"(a)", api.Term{}, "", api.ErrName},
		{"0", api.Term{}, "", api.ErrName},
		{"\xff", api.Term{}, "", api.ErrName},
		{"`", api.Term{}, "", api.ErrName},
		{"b()", api.Term{}, "", api.ErrName},
		{"c(,a)", api.Term{}, "", api.ErrName},
		{"X5", api.Term{}, "", api.ErrRange},
		{"X9", api.Term{}, "", api.ErrRange},
		{"Xa", api.Term{}, "", api.ErrRange},
		{"X-1", api.Term{}, "", api.ErrRange},
		{"X(", api.Term{}, "", api.ErrRange},
		{"X\xff", api.Term{}, "", api.ErrRange},
		{"b a", api.Term{}, "", api.ErrForm},
		{"b)a(", api.Term{}, "", api.ErrForm},
		{"b(a,a)", api.Term{}, "", api.ErrForm},
		{"c(a)", api.Term{}, "", api.ErrForm},
		{"c(a;a)", api.Term{}, "", api.ErrForm},
		{"c(a,a,a)", api.Term{}, "", api.ErrForm},
		{"c(X5;d", api.Term{}, "", api.ErrRange},
		{"c(d;X5", api.Term{}, "", api.ErrName},
		{"c(a;X5", api.Term{}, "", api.ErrForm},
	} {
		got, rest, err := term.Read(abc, x.text)
		if !alike(got, x.want) || rest != x.rest || err != x.err {
			t.Errorf("Read(%q) is %v, %q, %d", x.text, got, rest, err)
		}
	}
}

// expected tells what Read must answer, by a list of signs that must be: how
// many bytes the term has, and the error.
func expected(s api.Sig, text string) (int, api.Errno) {
	must := "T"
	for i := 0; ; i++ {
		if must == "" {
			return i, api.OK
		}
		if i == len(text) {
			return 0, api.ErrEnd
		}
		sign := text[i : i+1]
		next := must[:1]
		must = must[1:]
		switch {
		case next == "T" && sign == "X":
			must = "D" + must
		case next == "T":
			n := strings.Index("abcdef"[:len(s)], sign)
			if n < 0 {
				return 0, api.ErrName
			}
			must = []string{"", "(T)", "(T,T)"}[s[n]] + must
		case next == "D" && !strings.Contains("01234", sign):
			return 0, api.ErrRange
		case next != "D" && next != sign:
			return 0, api.ErrForm
		}
	}
}

func TestA2ReadOfAllShortTexts(t *testing.T) {
	for _, s := range []api.Sig{abc, {1, 0}, {2, 2, 0, 1, 0, 1}} {
		texts := []string{""}
		for range 6 {
			var longer []string
			for _, text := range texts {
				checkRead(t, s, text)
				for _, sign := range "abcX4(,)" {
					longer = append(longer, text+string(sign))
				}
			}
			texts = longer
		}
		if t.Failed() {
			return
		}
	}
}

func checkRead(t *testing.T, s api.Sig, text string) {
	t.Helper()
	many, want := expected(s, text)
	got, rest, err := term.Read(s, text)
	if err != want {
		t.Errorf("Read(%v, %q) has the error %d, not %d", s, text, err, want)
		return
	}
	if err != api.OK {
		if rest != "" || !alike(got, api.Term{}) {
			t.Errorf("Read(%v, %q) answers %v, %q beside an error", s, text, got, rest)
		}
		return
	}
	if rest != text[many:] || term.Text(got) != text[:many] {
		t.Errorf("Read(%v, %q) is %v, %q", s, text, got, rest)
	}
}

func TestA2WrittenAndReadAgain(t *testing.T) {
	for _, u := range someTerms() {
		text := term.Text(u)
		got, err := term.Parse(abc, text)
		if err != api.OK || !alike(got, u) {
			t.Fatalf("Parse(%q) is %v, %d", text, got, err)
		}
		got, rest, err := term.Read(abc, text+",X")
		if err != api.OK || rest != ",X" || !alike(got, u) {
			t.Fatalf("Read(%q) is %v, %q, %d", text+",X", got, rest, err)
		}
	}
}

func TestA2ReadOfDeepTexts(t *testing.T) {
	const many = 1<<16 - 1
	text := strings.Repeat("b(", many) + "X3" + strings.Repeat(")", many)
	u, rest, err := term.Read(abc, text+"!")
	if err != api.OK || rest != "!" || !term.Same(u, chain(many, v(3))) {
		t.Errorf("%q, %d comes", rest, err)
	}
	if term.Text(u) != text {
		t.Errorf("it is not written as it was read")
	}
	if _, _, err := term.Read(abc, text[:len(text)-1]); err != api.ErrEnd {
		t.Errorf("without its end it has the error %d", err)
	}
}

func TestA2Parse(t *testing.T) {
	long := strings.Repeat("a", 4*api.MaxSize)
	deep := func(many int, end string) string {
		return strings.Repeat("b(", many) + end + strings.Repeat(")", many)
	}
	for _, x := range []struct {
		name string
		s    api.Sig
		text string
		want api.Errno
	}{
		{"a right one", abc, "c(a,b(X0))", api.OK},
		{"the greatest size", abc, deep(11, "a"), api.OK},
		{"one more than that", abc, deep(12, "a"), api.ErrMuch},
		{"a size of 13, not deep", abc, "c(c(c(a,a),c(a,a)),c(c(a,a),a))", api.ErrMuch},
		{"no symbols", nil, "a", api.ErrMany},
		{"too many symbols", make(api.Sig, 7), "a", api.ErrMany},
		{"a symbol of three arguments", api.Sig{0, 3}, "a", api.ErrRange},
		{"a symbol below none", api.Sig{0, -1}, "a", api.ErrRange},
		{"wrong symbols ahead of a long text", nil, long + "a", api.ErrMany},
		{"the longest text", abc, long, api.ErrForm},
		{"a longer one", abc, long + "a", api.ErrMuch},
		{"a longer one, ahead of Read's error", abc, "?" + long, api.ErrMuch},
		{"nothing", abc, "", api.ErrEnd},
		{"no such name", abc, "d", api.ErrName},
		{"no such variable", abc, "b(X5)", api.ErrRange},
		{"not as it is written", abc, "b[a]", api.ErrForm},
		{"something behind", abc, "a ", api.ErrForm},
		{"a line feed behind", abc, "a\n", api.ErrForm},
		{"something behind, ahead of too much", abc, deep(12, "a") + ")", api.ErrForm},
		{"Read's error ahead of something behind", abc, "c(a a))", api.ErrForm},
		{"Read's error ahead of too much", abc, deep(12, "X5"), api.ErrRange},
		{"the sixth symbol", make(api.Sig, 6), "f", api.OK},
		{"the seventh", make(api.Sig, 6), "g", api.ErrName},
	} {
		got, err := term.Parse(x.s, x.text)
		if err != x.want {
			t.Errorf("%s: %d, not %d", x.name, err, x.want)
		}
		if err != api.OK && !alike(got, api.Term{}) {
			t.Errorf("%s: %v comes beside an error", x.name, got)
		}
		if err == api.OK && (term.Text(got) != x.text || term.Wrong(x.s, got) != api.OK) {
			t.Errorf("%s: %v comes", x.name, got)
		}
	}
}

func TestA2ReadTrustsNoSymbols(t *testing.T) {
	for _, s := range []api.Sig{nil, {-1}, {1 << 62}, {3}, make(api.Sig, 300)} {
		for _, text := range []string{"", "a", "a(a", "a(X0,X0,X0", "\xff", "X0", "a)"} {
			term.Read(s, text)
			term.Parse(s, text)
			term.Wrong(s, f(0, v(0)))
			term.Wrong(s, f(255))
		}
	}
}
