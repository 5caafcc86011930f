// Package term has terms: see doc/01-term.md.
package term

import (
	"slices"

	"mendproof/api"
)

// Same holds terms against each other field by field, right or not: a
// variable that wrongly has arguments is not the one without them.
func Same(a, b api.Term) bool {
	return a.Var == b.Var && a.N == b.N && slices.EqualFunc(a.Args, b.Args, Same)
}

// Size counts variables and symbols, each time they stand there.
func Size(t api.Term) int {
	n := 1
	for _, arg := range arguments(t) {
		n += Size(arg)
	}
	return n
}

// Vars answers l, and behind it the variables of t that are not there yet.
func Vars(l []int, t api.Term) []int {
	// A copy: appending to l itself would write into the caller's spare room.
	return addVars(slices.Clone(l), t)
}

func addVars(l []int, t api.Term) []int {
	if t.Var {
		if slices.Contains(l, t.N) {
			return l
		}
		return append(l, t.N)
	}
	for _, arg := range t.Args {
		l = addVars(l, arg)
	}
	return l
}

// WrongSig tells what is wrong with symbols, or OK.
func WrongSig(s api.Sig) api.Errno {
	if len(s) < 1 || len(s) > api.MaxSyms {
		return api.ErrMany
	}
	for _, many := range s {
		if many < 0 || many > api.MaxArgs {
			return api.ErrRange
		}
	}
	return api.OK
}

// Wrong tells what is wrong with a term of right symbols, or OK.
func Wrong(s api.Sig, t api.Term) api.Errno {
	if err := wrongWithin(s, t, 0); err != api.OK {
		return err
	}
	if Size(t) > api.MaxSize {
		return api.ErrMuch
	}
	return api.OK
}

// wrongWithin looks at how deep a term is ahead of all else, so that it ends
// even where a term is a part of itself.
func wrongWithin(s api.Sig, t api.Term, around int) api.Errno {
	if around > api.MaxSize-1 {
		return api.ErrMuch
	}
	if err := wrongAlone(s, t); err != api.OK {
		return err
	}
	for _, arg := range t.Args {
		if err := wrongWithin(s, arg, around+1); err != api.OK {
			return err
		}
	}
	return api.OK
}

// wrongAlone does not look into arguments, only at how many there are.
func wrongAlone(s api.Sig, t api.Term) api.Errno {
	many := 0
	if t.Var {
		if t.N < 0 || t.N >= api.MaxVars {
			return api.ErrRange
		}
	} else {
		if t.N < 0 || t.N >= len(s) {
			return api.ErrName
		}
		many = s[t.N]
	}
	if len(t.Args) != many {
		return api.ErrMany
	}
	return api.OK
}

// arguments of a variable there are none, whatever stands in that field.
func arguments(t api.Term) []api.Term {
	if t.Var {
		return nil
	}
	return t.Args
}

// own copies a term with all its parts, so that an answer shares no memory
// with what was handed in.
func own(t api.Term) api.Term {
	if len(t.Args) == 0 {
		t.Args = nil
		return t
	}
	args := make([]api.Term, len(t.Args))
	for i, arg := range t.Args {
		args[i] = own(arg)
	}
	t.Args = args
	return t
}
