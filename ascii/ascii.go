// Package ascii is bytes, digits, words: see DOC.md, chapter 1.
package ascii

import (
	"strconv"
	"strings"
)

const (
	blanks     = "\t "
	tokenMarks = "!#$%&'*+-.^_`|~"
	mostNum    = 15 // decimal digits
	mostHex    = 12 // hexadecimal digits
	noDigit    = 16 // no digit of any base here
)

// Lower is a text in small letters.
func Lower(s string) string {
	b := []byte(s)
	for i, c := range b {
		b[i] = lowerByte(c)
	}
	return string(b)
}

// Same tells whether two texts are one, but for letters' size.
func Same(a, b string) bool {
	if len(a) != len(b) {
		return false
	}
	for i := range len(a) {
		if lowerByte(a[i]) != lowerByte(b[i]) {
			return false
		}
	}
	return true
}

// IsToken tells whether a text is a token.
func IsToken(s string) bool {
	for i := range len(s) {
		if !isTokenByte(s[i]) {
			return false
		}
	}
	return s != ""
}

// IsValue tells whether a text may be a field's value.
func IsValue(s string) bool {
	for i := range len(s) {
		if !isValueByte(s[i]) {
			return false
		}
	}
	return true
}

// Trim is a text without blanks about it.
func Trim(s string) string {
	// A piece of s would share its memory with s (W6).
	return strings.Clone(strings.Trim(s, blanks))
}

// Num is a decimal number.
func Num(s string) (int, bool) { return number(s, 10, mostNum) }

// Hex is a hexadecimal number.
func Hex(s string) (int, bool) { return number(s, 16, mostHex) }

// Dec is a number in decimal digits.
func Dec(n int) string { return strconv.Itoa(max(n, 0)) }

// HexText is a number in hexadecimal digits.
func HexText(n int) string { return strconv.FormatInt(int64(max(n, 0)), 16) }

// Join is texts, one behind the other.
func Join(s ...string) string {
	// strings.Join answers a single text as it is, and so shares its memory (W6).
	var b strings.Builder
	for _, t := range s {
		b.WriteString(t)
	}
	return b.String()
}

func lowerByte(c byte) byte {
	if c >= 'A' && c <= 'Z' {
		return c + ('a' - 'A')
	}
	return c
}

func isTokenByte(c byte) bool {
	l := lowerByte(c)
	return l >= 'a' && l <= 'z' || c >= '0' && c <= '9' || strings.IndexByte(tokenMarks, c) >= 0
}

func isValueByte(c byte) bool {
	return c == '\t' || c >= 0x20 && c != 0x7f
}

// number takes no more digits than an int has room for, so that nothing wraps:
// the library's own parsers also take signs.
func number(s string, base, most int) (int, bool) {
	if s == "" || len(s) > most {
		return 0, false
	}
	n := 0
	for i := range len(s) {
		d := digit(s[i])
		if d >= base {
			return 0, false
		}
		n = n*base + d
	}
	return n, true
}

func digit(c byte) int {
	l := lowerByte(c)
	switch {
	case c >= '0' && c <= '9':
		return int(c - '0')
	case l >= 'a' && l <= 'f':
		return int(l-'a') + 10
	}
	return noDigit
}
