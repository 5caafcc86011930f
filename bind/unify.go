package bind

import (
	"slices"

	"mendproof/api"
	"mendproof/term"
)

// couple is two terms that are to become the same.
type couple struct{ a, b api.Term }

// Unify answers what makes a and b the same, or false, if nothing does.
func Unify(a, b api.Term) (api.Sub, bool) {
	var s api.Sub
	todo := []couple{{a, b}} // the last one is next
	for len(todo) > 0 {
		next := todo[len(todo)-1]
		todo = todo[:len(todo)-1]
		// Within symbols' arguments, what is bound is looked up when they come.
		x, y := outermost(s, next.a), outermost(s, next.b)
		ok := true
		switch {
		case x.Var && y.Var && x.N == y.N:
		case x.Var:
			s, ok = add(s, x.N, Apply(s, y))
		case y.Var:
			s, ok = add(s, y.N, Apply(s, x))
		case x.N == y.N && len(x.Args) == len(y.Args):
			todo = addArgs(todo, x, y)
		default:
			ok = false
		}
		if !ok {
			return nil, false
		}
	}
	return s, true
}

// outermost looks up once, as what s binds to has none of its variables.
func outermost(s api.Sub, t api.Term) api.Term {
	if !t.Var {
		return t
	}
	if i := find(s, t.N); i >= 0 {
		return s[i].Term
	}
	return t
}

// add changes s, which is Unify's own, and keeps t in it.
func add(s api.Sub, n int, t api.Term) (api.Sub, bool) {
	if slices.Contains(term.Vars(nil, t), n) {
		return nil, false
	}
	last := api.Pair{Var: n, Term: t}
	for i := range s {
		s[i].Term = Apply(api.Sub{last}, s[i].Term)
	}
	return append(s, last), true
}

// addArgs lays the first arguments last, where they come next.
func addArgs(todo []couple, x, y api.Term) []couple {
	for i := len(x.Args) - 1; i >= 0; i-- {
		todo = append(todo, couple{x.Args[i], y.Args[i]})
	}
	return todo
}
