package bind_test

import (
	"testing"

	"mendproof/api"
	"mendproof/bind"
	"mendproof/term"
)

func TestB2More(t *testing.T) {
	for _, x := range []struct{ sub, pattern, text, want string }{
		{"", "a", "a", ""},
		{"", "a", "d", no},
		{"", "a", "X0", no},
		{"", "b(a)", "X0", no},
		{"", "b(a)", "c(a,a)", no},
		// Bound already.
		{"X0:b(a)", "X0", "b(a)", "X0:b(a)"},
		{"X0:b(a)", "X0", "a", no},
		{"X0:b(a)", "X0", "X0", no},
		{"X0:X0", "X0", "X0", "X0:X0"},
		{"X0:a X0:d", "X0", "a", "X0:a X0:d"},
		{"X0:a X0:d", "X0", "d", no},
		{"X0:X1 X1:a", "X0", "a", no},
		{"X0:X1 X1:a", "X0", "X1", "X0:X1 X1:a"},
		// Bound now, and last.
		{"X1:d", "X0", "a", "X1:d X0:a"},
		{"X1:d", "X0", "X0", "X1:d X0:X0"},
		{"X1:d", "X0", "b(X0)", "X1:d X0:b(X0)"},
		{"X1:d", "X0", "X1", "X1:d X0:X1"},
		{"X2:d X1:a", "a", "a", "X2:d X1:a"},
		// Argument by argument, by what is so far.
		{"X1:d", "c(X0,X1)", "c(a,d)", "X1:d X0:a"},
		{"X1:d", "c(X0,X1)", "c(a,a)", no},
		{"", "c(X1,c(X0,X1))", "c(a,c(d,a))", "X1:a X0:d"},
		{"", "c(X1,c(X0,X1))", "c(a,c(d,d))", no},
		{"", "c(X0,X0)", "c(X1,X1)", "X0:X1"},
		{"", "c(X0,X0)", "c(X1,X0)", no},
		{"", "c(X0,X1)", "c(X1,X0)", "X0:X1 X1:X0"},
		{"", "c(c(X3,a),X2)", "c(c(b(X2),a),X3)", "X3:b(X2) X2:X3"},
		{"", "c(c(X3,a),X2)", "c(c(b(X2),X1),X3)", no},
	} {
		s, ok := bind.More(sub(t, x.sub), parse(t, x.pattern), parse(t, x.text))
		if ok != (x.want != no) || ok && subText(s) != x.want {
			t.Errorf("More(%s, %s, %s) is %s, %t, not %s", x.sub, x.pattern, x.text, subText(s), ok, x.want)
		}
		if x.sub != "" {
			continue
		}
		s, ok = bind.Match(parse(t, x.pattern), parse(t, x.text))
		if ok != (x.want != no) || ok && subText(s) != x.want {
			t.Errorf("Match(%s, %s) is %s, %t, not %s", x.pattern, x.text, subText(s), ok, x.want)
		}
	}
}

func TestB2NoneBesideFalse(t *testing.T) {
	for _, x := range [][2]string{{"c(X0,a)", "c(d,d)"}, {"c(X0,X0)", "c(a,d)"}, {"c(X0,b(X1))", "c(d,X1)"}, {"a", "X0"}} {
		if s, ok := bind.Match(parse(t, x[0]), parse(t, x[1])); ok || len(s) != 0 {
			t.Errorf("Match(%s, %s) is %s, %t", x[0], x[1], subText(s), ok)
		}
	}
}

// parts are t, and all that is in it.
func parts(t api.Term) []api.Term {
	out := []api.Term{t}
	for _, arg := range t.Args {
		out = append(out, parts(arg)...)
	}
	return out
}

// What is matched becomes the same, with no more bound than must be; and if
// any bindings make it so, it is matched.
func TestB2MatchMissesNothing(t *testing.T) {
	for _, pattern := range upTo(4, 0, 1) {
		for _, x := range upTo(4, 0, 1) {
			s, ok := bind.Match(pattern, x)
			if ok && (!alike(bind.Apply(s, pattern), x) || !bindsOnce(s, pattern)) {
				t.Fatalf("Match(%s, %s) is %s", term.Text(pattern), term.Text(x), subText(s))
			}
			if ok {
				continue
			}
			for _, p := range parts(x) {
				for _, q := range parts(x) {
					if alike(put(pattern, []api.Term{p, q}), x) {
						t.Fatalf("Match(%s, %s) is false, and %s, %s make them the same", term.Text(pattern), term.Text(x), term.Text(p), term.Text(q))
					}
				}
			}
		}
	}
}

// bindsOnce: the pattern's variables, as they are come to first, and no other.
func bindsOnce(s api.Sub, pattern api.Term) bool {
	vars := term.Vars(nil, pattern)
	if len(vars) != len(s) {
		return false
	}
	for i, p := range s {
		if p.Var != vars[i] {
			return false
		}
	}
	return true
}
