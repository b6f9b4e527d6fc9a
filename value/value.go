// Package value has what a property has.
package value

import (
	"cmp"
	"strconv"
	"strings"

	"kinshape/api"
)

const (
	greatest  = 1_000_000 // of an Int; the least one is as far below 0
	maxDigits = 9
	falseWord = "false"
	trueWord  = "true"
	quote     = '\''
)

// Check tells what is wrong with a value.
func Check(v api.Value) error {
	switch {
	case v.Type != api.Int && v.Type != api.Bool && v.Type != api.Text:
		return api.ErrType
	case !inRange(v.Type, v.N):
		return api.ErrRange
	case v.Type == api.Text:
		return checkText(v.S)
	case v.S != "":
		return api.ErrSyntax
	}
	return nil
}

// checkText is for a Text alone: of others, an S of any length is wrong for being there, not for being too long.
func checkText(s string) error {
	switch {
	case len(s) > api.MaxText:
		return api.ErrFull
	case !isPrintable(s):
		return api.ErrSyntax
	}
	return nil
}

// Compare values.
func Compare(a, b api.Value) (int, error) {
	if err := Check(a); err != nil {
		return 0, err
	}
	if err := Check(b); err != nil {
		return 0, err
	}
	if a.Type != b.Type {
		return 0, api.ErrType
	}
	if a.Type == api.Text {
		return strings.Compare(a.S, b.S), nil
	}
	return cmp.Compare(a.N, b.N), nil
}

// Print a value.
func Print(v api.Value) (string, error) {
	if err := Check(v); err != nil {
		return "", err
	}
	switch v.Type {
	case api.Int:
		return strconv.Itoa(v.N), nil
	case api.Bool:
		return boolWord(v.N), nil
	}
	return quoted(v.S), nil
}

// Parse a value.
func Parse(s string) (api.Value, error) {
	switch {
	case s == falseWord:
		return api.Value{Type: api.Bool}, nil
	case s == trueWord:
		return api.Value{Type: api.Bool, N: 1}, nil
	case s != "" && s[0] == quote:
		return parseText(s)
	}
	return parseInt(s)
}

// Name tells what is wrong with one.
func Name(s string) error {
	noLetter := func(c byte) bool { return c < 'a' || c > 'z' }
	if s == "" || len(s) > api.MaxName || anyByte(s, noLetter) {
		return api.ErrSyntax
	}
	return nil
}

// inRange tells whether a value of a type may have the number.
func inRange(valueType, n int) bool {
	switch valueType {
	case api.Int:
		return -greatest <= n && n <= greatest
	case api.Bool:
		return n == 0 || n == 1
	}
	return n == 0
}

// isPrintable tells whether a Text may have all bytes of s.
func isPrintable(s string) bool {
	return !anyByte(s, func(c byte) bool { return c < 32 || c > 126 })
}

// anyByte tells whether is holds for a byte of s.
func anyByte(s string, is func(c byte) bool) bool {
	for i := range len(s) {
		if is(s[i]) {
			return true
		}
	}
	return false
}

func boolWord(n int) string {
	if n == 0 {
		return falseWord
	}
	return trueWord
}

// quoted puts s between quotes, and each quote in it twice.
func quoted(s string) string {
	var b strings.Builder
	b.WriteByte(quote)
	for i := range len(s) {
		if s[i] == quote {
			b.WriteByte(quote)
		}
		b.WriteByte(s[i])
	}
	b.WriteByte(quote)
	return b.String()
}

// unquoted is the text of which quoted makes s; false: there is none.
func unquoted(s string) (string, bool) {
	if len(s) < 2 || s[0] != quote || s[len(s)-1] != quote {
		return "", false
	}
	inner := s[1 : len(s)-1]
	var b strings.Builder
	for i := 0; i < len(inner); i++ {
		if inner[i] == quote {
			i++ // its twin, which alone is kept
			if i == len(inner) || inner[i] != quote {
				return "", false
			}
		}
		b.WriteByte(inner[i])
	}
	return b.String(), true
}

// parseText looks at the bytes ahead of the length: a text that is too long is told as such only if nothing else is wrong with it.
func parseText(s string) (api.Value, error) {
	text, ok := unquoted(s)
	if !ok || !isPrintable(text) {
		return api.Value{}, api.ErrSyntax
	}
	return checked(api.Value{Type: api.Text, S: text})
}

func parseInt(s string) (api.Value, error) {
	digits, below := strings.CutPrefix(s, "-")
	if !isNumber(digits) || below && digits == "0" {
		return api.Value{}, api.ErrSyntax
	}
	n, err := strconv.Atoi(digits)
	if err != nil {
		return api.Value{}, api.ErrSyntax
	}
	if below {
		n = -n
	}
	return checked(api.Value{Type: api.Int, N: n})
}

// isNumber tells whether s is digits, not too many, without a needless 0 ahead.
func isNumber(s string) bool {
	if s == "" || len(s) > maxDigits || s[0] == '0' && len(s) > 1 {
		return false
	}
	return !anyByte(s, func(c byte) bool { return c < '0' || c > '9' })
}

// checked is v, or what is wrong with it alone.
func checked(v api.Value) (api.Value, error) {
	if err := Check(v); err != nil {
		return api.Value{}, err
	}
	return v, nil
}
