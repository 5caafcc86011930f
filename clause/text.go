package clause

import (
	"strings"

	"mendproof/api"
	"mendproof/term"
)

const (
	noLits  = "[]"
	between = " | "
	isSame  = "="
	not     = "!"
)

// Text writes a clause.
func Text(c api.Clause) string {
	if len(c) == 0 {
		return noLits
	}
	parts := make([]string, len(c))
	for i, l := range c {
		parts[i] = litText(l)
	}
	return strings.Join(parts, between)
}

func litText(l api.Lit) string {
	sign := isSame
	if l.Neg {
		sign = not + isSame
	}
	return term.Text(l.Left) + sign + term.Text(l.Right)
}

// Parse reads a text that is one right clause, and nothing else.
func Parse(s api.Sig, text string) (api.Clause, api.Errno) {
	if err := term.WrongSig(s); err != api.OK {
		return nil, err
	}
	if text == noLits {
		return nil, api.OK
	}
	// One part more than there may be is enough to tell, however long the text is.
	parts := strings.SplitN(text, between, api.MaxLits+1)
	if len(parts) > api.MaxLits {
		return nil, api.ErrMany
	}
	out := make(api.Clause, len(parts))
	for i, part := range parts {
		l, err := parseLit(s, part)
		if err != api.OK {
			return nil, err
		}
		out[i] = l
	}
	return out, api.OK
}

func parseLit(s api.Sig, part string) (api.Lit, api.Errno) {
	ahead, behind, ok := strings.Cut(part, isSame)
	if !ok {
		return api.Lit{}, api.ErrForm
	}
	ahead, neg := strings.CutSuffix(ahead, not)
	left, err := term.Parse(s, ahead)
	if err != api.OK {
		return api.Lit{}, err
	}
	right, err := term.Parse(s, behind)
	if err != api.OK {
		return api.Lit{}, err
	}
	return api.Lit{Neg: neg, Left: left, Right: right}, api.OK
}
