package lex

import (
	"strconv"

	"handloom/api"
)

// Show is a token as a text that is read as it; "" of the end, and of what is no token.
func Show(t api.Token) string {
	switch t.Kind {
	case api.TkLow, api.TkUp, api.TkWord, api.TkSign:
		return t.Text
	case api.TkNum:
		return strconv.FormatInt(max(t.Num, 0), 10)
	case api.TkText:
		return quoted(t.Bytes)
	}
	return ""
}

// quoted is bytes as a text of runes from 32 to 126 alone, so that it can stand in any other.
func quoted(l []byte) string {
	out := []byte{'"'}
	for _, b := range l {
		switch {
		case b == '"' || b == '\\':
			out = append(out, '\\', b)
		case ' ' <= b && b <= '~':
			out = append(out, b)
		default:
			out = append(out, '\\', 'x', digit(b>>4), digit(b&15))
		}
	}
	return string(append(out, '"'))
}

// digit is a number below 16 as a digit.
func digit(n byte) byte {
	if n < 10 {
		return '0' + n
	}
	return 'a' + n - 10
}
