package clause

import (
	"slices"

	"mendproof/api"
	"mendproof/order"
	"mendproof/term"
)

// Norm answers c as it is kept. What can be seen to hold always is not kept
// (ErrNone), nor what is too much (ErrMuch).
func Norm(c api.Clause) (api.Clause, api.Errno) {
	out, err := turn(c)
	if err != api.OK {
		return nil, err
	}
	vars := Vars(out)
	out, err = distinct(number(out, vars))
	if err != api.OK {
		return nil, err
	}
	if len(out) > api.MaxLits || len(vars) > api.MaxVars || slices.ContainsFunc(out, large) {
		return nil, api.ErrMuch
	}
	return out, api.OK
}

// turn leaves out what can't hold, and has the term that is above stand on
// the left. Its answer shares c's terms.
func turn(c api.Clause) (api.Clause, api.Errno) {
	var out api.Clause
	for _, l := range c {
		switch order.Compare(l.Left, l.Right) {
		case api.CmpSame:
			if !l.Neg {
				return nil, api.ErrNone
			}
			continue
		case api.CmpLess:
			l.Left, l.Right = l.Right, l.Left
		}
		out = append(out, l)
	}
	return out, api.OK
}

// number binds all variables at once, as a new number may be another
// variable's old one.
func number(c api.Clause, vars []int) api.Clause {
	s := make(api.Sub, len(vars))
	for i, n := range vars {
		s[i] = api.Pair{Var: n, Term: api.Term{Var: true, N: i}}
	}
	return Apply(s, c)
}

// distinct keeps the first one of the literals that tell the same. It holds
// each against those that stay alone: what is gone told the same as one of
// them.
func distinct(c api.Clause) (api.Clause, api.Errno) {
	var out api.Clause
	for _, l := range c {
		i := slices.IndexFunc(out, func(first api.Lit) bool { return ofSameTerms(first, l) })
		if i < 0 {
			out = append(out, l)
			continue
		}
		if out[i].Neg != l.Neg {
			return nil, api.ErrNone
		}
	}
	return out, api.OK
}

// ofSameTerms asks either way, as terms of which neither is above the other
// stand as they came.
func ofSameTerms(a, b api.Lit) bool {
	return term.Same(a.Left, b.Left) && term.Same(a.Right, b.Right) ||
		term.Same(a.Left, b.Right) && term.Same(a.Right, b.Left)
}

// large looks at both terms, as neither need be above the other.
func large(l api.Lit) bool {
	return term.Size(l.Left) > api.MaxSize || term.Size(l.Right) > api.MaxSize
}
