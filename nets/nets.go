// Package nets is layer 1: netstrings, strings with a length prefix, so that
// strings with any content can be concatenated and separated again.
package nets

import (
	"strconv"
	"strings"

	"bulletin/api"
)

// maxDigits bounds a length: nine digits and one more than their number fit
// even in an int of 32 bits.
const maxDigits = 9

// Put returns the net of s.
func Put(s string) string {
	return strconv.Itoa(len(s)) + ":" + s + ","
}

// Take decodes the net at the beginning of s into its string and the rest.
func Take(s string) (text, rest string, c api.Code) {
	digits := countDigits(s)
	if c = checkLength(s, digits); c != api.OK {
		return "", "", c
	}
	size := number(s[:digits])
	tail := s[digits+1:]
	if len(tail) < size+1 {
		return "", "", api.ErrShort
	}
	if tail[size] != ',' {
		return "", "", api.ErrForm
	}
	return tail[:size], tail[size+1:], api.OK
}

// Row returns the concatenation of the nets of l.
func Row(l ...string) string {
	var b strings.Builder
	for _, s := range l {
		b.WriteString(Put(s))
	}
	return b.String()
}

// Texts returns the strings whose row is s.
func Texts(s string) ([]string, api.Code) {
	var l []string
	for s != "" {
		text, rest, c := Take(s)
		if c != api.OK {
			return nil, c
		}
		l = append(l, text)
		s = rest
	}
	return l, api.OK
}

// Pick returns the strings whose row is s if there are n of them.
func Pick(s string, n int) ([]string, api.Code) {
	l, c := Texts(s)
	if c != api.OK {
		return nil, c
	}
	if len(l) != n {
		return nil, api.ErrForm
	}
	return l, api.OK
}

// countDigits counts the digits at the beginning of s. It stops at the first
// one too many, since no caller needs to know how many more there are.
func countDigits(s string) int {
	n := 0
	for n < len(s) && n <= maxDigits && '0' <= s[n] && s[n] <= '9' {
		n++
	}
	return n
}

// checkLength checks the length at the beginning of s, of that many digits,
// and its colon. The order of the cases is the order of the errors.
func checkLength(s string, digits int) api.Code {
	switch {
	case s == "":
		return api.ErrShort
	case digits == 0:
		return api.ErrForm
	case digits > maxDigits:
		return api.ErrLong
	case digits == len(s):
		return api.ErrShort
	case s[digits] != ':':
		return api.ErrForm
	case digits > 1 && s[0] == '0':
		return api.ErrForm
	}
	return api.OK
}

// number returns the value of at most maxDigits digits.
func number(digits string) int {
	n := 0
	for i := range len(digits) {
		n = 10*n + int(digits[i]-'0')
	}
	return n
}
