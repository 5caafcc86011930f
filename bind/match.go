package bind

import (
	"mendproof/api"
	"mendproof/term"
)

// More answers s and what else must be bound for the pattern to be t, or
// false, if it can't be.
func More(s api.Sub, pattern, t api.Term) (api.Sub, bool) {
	out := make(api.Sub, len(s))
	for i, p := range s {
		out[i] = api.Pair{Var: p.Var, Term: own(p.Term)}
	}
	return extend(out, pattern, t)
}

// Match answers what must be bound for the pattern to be t, or false.
func Match(pattern, t api.Term) (api.Sub, bool) {
	return More(nil, pattern, t)
}

// extend adds to s, which is the caller's own, and answers none beside false.
func extend(s api.Sub, pattern, t api.Term) (api.Sub, bool) {
	if pattern.Var {
		i := find(s, pattern.N)
		if i < 0 {
			return append(s, api.Pair{Var: pattern.N, Term: own(t)}), true
		}
		if !term.Same(s[i].Term, t) {
			return nil, false
		}
		return s, true
	}
	if t.Var || t.N != pattern.N || len(t.Args) != len(pattern.Args) {
		return nil, false
	}
	for i, arg := range pattern.Args {
		var ok bool
		if s, ok = extend(s, arg, t.Args[i]); !ok {
			return nil, false
		}
	}
	return s, true
}
