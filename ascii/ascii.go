// Package ascii is layer 1: see shared/doc/01-ascii.md.
package ascii

import "strings"

// most is the greatest number that Number answers.
const most = 1 << 30

// Token: is it one or more signs that may stand in a name: letters, digits, and some marks?
func Token(s string) bool {
	for _, r := range s {
		if !nameSign(r) {
			return false
		}
	}
	return s != ""
}

// nameSign: may it stand in a token?
func nameSign(r rune) bool {
	switch r {
	case '!', '#', '$', '%', '&', '\'', '*', '+', '-', '.', '^', '_', '|', '~', '`':
		return true
	}
	return capital(r) || 'a' <= r && r <= 'z' || '0' <= r && r <= '9'
}

func capital(r rune) bool { return 'A' <= r && r <= 'Z' }

// Lower: capitals small; other bytes as they are.
func Lower(s string) string {
	// A copy of the bytes, not runes put together anew: bytes that are no rune must stay as they are.
	b := make([]byte, len(s))
	copy(b, s)
	for i, r := range s {
		if capital(r) {
			b[i] += 'a' - 'A'
		}
	}
	return string(b)
}

// Trim: without blanks and tabs at both ends.
func Trim(s string) string { return strings.Trim(s, " \t") }

// Value: has it no other bytes below 32 than tabs, nor 127?
func Value(s string) bool {
	// Runes do as well as bytes here: those of more than one byte have none below 128.
	for _, r := range s {
		if r < 32 && r != '\t' || r == 127 {
			return false
		}
	}
	return true
}

// Number: of one or more digits of a base (10, 16); false: there are others, or it is above 2^30.
func Number(s string, base int) (int, bool) {
	if s == "" || base != 10 && base != 16 {
		return 0, false
	}
	n := 0
	for _, r := range s {
		d := digit(r)
		// Held against the bound ahead of reckoning, so that no length of s wraps n round.
		if d < 0 || d >= base || n > (most-d)/base {
			return 0, false
		}
		n = n*base + d
	}
	return n, true
}

// digit: what a sign counts as a digit of base 16; -1: it is none.
func digit(r rune) int {
	switch {
	case '0' <= r && r <= '9':
		return int(r - '0')
	case 'a' <= r && r <= 'f':
		return int(r-'a') + 10
	case 'A' <= r && r <= 'F':
		return int(r-'A') + 10
	}
	return -1
}

// Words: what is parted by a byte, at least one.
func Words(s string, by byte) []string {
	var words []string
	// By bytes, not runes: by may be a byte in the midst of a rune.
	from := 0
	for i := 0; i < len(s); i++ {
		if s[i] == by {
			words = append(words, s[from:i])
			from = i + 1
		}
	}
	return append(words, s[from:])
}
