// Package chars is layer 2: which strings are tags, names and texts, and how strings are compared and split.
package chars

import (
	"strconv"
	"strings"

	"tendril/api"
)

// maxDecimal is the length of the longest integer, -9223372036854775808.
const maxDecimal = 20

// Tag reports whether s is a valid tag.
func Tag(s string) bool {
	return wellFormed(s, inTag)
}

// Name reports whether s is a valid name of an attribute.
func Name(s string) bool {
	return wellFormed(s, inName)
}

// Fits reports whether s is short enough for a text.
func Fits(s string) bool {
	return len(s) <= api.MaxText
}

// Compare returns -1, 0 or 1 as a is less than, equal to or greater than b, bytewise.
func Compare(a, b string) int {
	return strings.Compare(a, b)
}

// Common returns the length of the longest common prefix, and of the longest common suffix of what remains behind it.
func Common(a, b string) (int, int) {
	prefix := commonPrefix(a, b)
	return prefix, commonSuffix(a[prefix:], b[prefix:])
}

// Words splits s at its spaces; false if a word would be empty.
func Words(s string) ([]string, bool) {
	var words []string
	rest := s
nextWord:
	for rest != "" {
		for i := range len(rest) {
			if rest[i] != ' ' {
				continue
			}
			if i == 0 || i == len(rest)-1 {
				return nil, false
			}
			words = append(words, rest[:i])
			rest = rest[i+1:]
			continue nextWord
		}
		return append(words, rest), true
	}
	return nil, true
}

// Decimal returns n in decimal.
func Decimal(n int) string {
	return strconv.Itoa(n)
}

// Whole returns the number that Decimal writes as s.
func Whole(s string) (int, bool) {
	// A longer string is never a number, and is not read at all.
	if len(s) > maxDecimal {
		return 0, false
	}
	n, err := strconv.Atoi(s)
	// Atoi also takes a plus sign and leading zeros.
	if err != nil || Decimal(n) != s {
		return 0, false
	}
	return n, true
}

func wellFormed(s string, follows func(c byte) bool) bool {
	if len(s) < 1 || len(s) > api.MaxTag || !isLower(s[0]) {
		return false
	}
	for i := 1; i < len(s); i++ {
		if !follows(s[i]) {
			return false
		}
	}
	return true
}

func isLower(c byte) bool {
	return 'a' <= c && c <= 'z'
}

func inTag(c byte) bool {
	return isLower(c) || '0' <= c && c <= '9' || c == '-'
}

func inName(c byte) bool {
	return inTag(c) || c == ':' || c == '.'
}

func commonPrefix(a, b string) int {
	n := min(len(a), len(b))
	for i := range n {
		if a[i] != b[i] {
			return i
		}
	}
	return n
}

func commonSuffix(a, b string) int {
	n := min(len(a), len(b))
	for i := range n {
		if a[len(a)-1-i] != b[len(b)-1-i] {
			return i
		}
	}
	return n
}
