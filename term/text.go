package term

import (
	"strconv"

	"mendproof/api"
)

const (
	varLetter   = 'X'
	firstSymbol = 'a'
)

// maxText is how many bytes Parse takes: no right term is written with more.
const maxText = 4 * api.MaxSize

// Text writes a term.
func Text(t api.Term) string {
	return string(addText(nil, t))
}

// addText appends to one list of bytes, where joining texts would copy each
// part once for every term around it.
func addText(out []byte, t api.Term) []byte {
	if t.Var {
		return strconv.AppendInt(append(out, varLetter), int64(t.N), 10)
	}
	out = append(out, byte(firstSymbol+t.N))
	for i, arg := range t.Args {
		out = addText(append(out, signAhead(i)), arg)
	}
	if len(t.Args) > 0 {
		out = append(out, ')')
	}
	return out
}

// signAhead is the sign that argument i has ahead of it.
func signAhead(i int) byte {
	if i == 0 {
		return '('
	}
	return ','
}

// Read reads the term that text begins with, and answers what is behind it.
func Read(s api.Sig, text string) (api.Term, string, api.Errno) {
	if text == "" {
		return api.Term{}, "", api.ErrEnd
	}
	if text[0] == varLetter {
		return readVar(text[1:])
	}
	n := int(text[0]) - firstSymbol
	if n < 0 || n >= len(s) {
		return api.Term{}, "", api.ErrName
	}
	args, rest, err := readArgs(s, s[n], text[1:])
	if err != api.OK {
		return api.Term{}, "", err
	}
	return api.Term{N: n, Args: args}, rest, api.OK
}

// readVar reads a variable's number, which is one digit.
func readVar(text string) (api.Term, string, api.Errno) {
	if text == "" {
		return api.Term{}, "", api.ErrEnd
	}
	n := int(text[0]) - '0'
	if n < 0 || n >= api.MaxVars {
		return api.Term{}, "", api.ErrRange
	}
	return api.Term{Var: true, N: n}, text[1:], api.OK
}

func readArgs(s api.Sig, many int, text string) ([]api.Term, string, api.Errno) {
	if many <= 0 {
		return nil, text, api.OK
	}
	// Grown as they are read: room for many of them ahead would trust s.
	var args []api.Term
	for i := range many {
		rest, err := readSign(signAhead(i), text)
		if err != api.OK {
			return nil, "", err
		}
		arg, rest, err := Read(s, rest)
		if err != api.OK {
			return nil, "", err
		}
		args = append(args, arg)
		text = rest
	}
	rest, err := readSign(')', text)
	if err != api.OK {
		return nil, "", err
	}
	return args, rest, api.OK
}

func readSign(sign byte, text string) (string, api.Errno) {
	if text == "" {
		return "", api.ErrEnd
	}
	if text[0] != sign {
		return "", api.ErrForm
	}
	return text[1:], api.OK
}

// Parse reads a text that is one right term, and nothing else.
func Parse(s api.Sig, text string) (api.Term, api.Errno) {
	if err := WrongSig(s); err != api.OK {
		return api.Term{}, err
	}
	if len(text) > maxText {
		return api.Term{}, api.ErrMuch
	}
	t, rest, err := Read(s, text)
	if err != api.OK {
		return api.Term{}, err
	}
	if rest != "" {
		return api.Term{}, api.ErrForm
	}
	if err := Wrong(s, t); err != api.OK {
		return api.Term{}, err
	}
	return t, api.OK
}
