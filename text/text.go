// Package text contains functions on strings of bytes (layer 1).
package text

import (
	"iter"
	"slices"
	"strconv"
	"strings"
)

// maxDigits is the greatest number of digits that Number reads: all of its numbers fit into an int.
const maxDigits = 15

// white are the bytes that separate words.
const white = "\t\n\r "

// Lower returns a string in lower case.
func Lower(s string) string { return mapBytes(s, lower) }

// Upper returns a string in upper case.
func Upper(s string) string { return mapBytes(s, upper) }

// Same reports whether two strings are equal but for the case of letters.
func Same(a, b string) bool {
	if len(a) != len(b) {
		return false
	}
	for i := range len(a) {
		if lower(a[i]) != lower(b[i]) {
			return false
		}
	}
	return true
}

// Trim returns a string without white bytes at both ends.
func Trim(s string) string { return strings.Trim(s, white) }

// Fields returns the words of a string.
func Fields(s string) []string { return slices.Collect(words(s)) }

// Squeeze returns the words of a string with single spaces between them.
func Squeeze(s string) string {
	var b strings.Builder
	for w := range words(s) {
		if b.Len() > 0 {
			b.WriteByte(' ')
		}
		b.WriteString(w)
	}
	return b.String()
}

// Lines returns the lines of a string.
func Lines(s string) []string {
	var out []string
	for s != "" {
		line, rest, ended := strings.Cut(s, "\n")
		if ended {
			line = strings.TrimSuffix(line, "\r")
		}
		out = append(out, line)
		s = rest
	}
	return out
}

// Unlines returns lines, each followed by a line feed.
func Unlines(l []string) string {
	var b strings.Builder
	for _, line := range l {
		b.WriteString(line)
		b.WriteByte('\n')
	}
	return b.String()
}

// Number returns the number that a string denotes.
func Number(s string) (int, bool) {
	if s == "" || len(s) > maxDigits {
		return 0, false
	}
	n := 0
	for i := range len(s) {
		if s[i] < '0' || s[i] > '9' {
			return 0, false
		}
		n = 10*n + int(s[i]-'0')
	}
	return n, true
}

// Decimal returns a number in decimal.
func Decimal(n int) string { return strconv.Itoa(n) }

// Glob reports whether a pattern stands for a string.
func Glob(pattern, s string) bool {
	p, i := 0, 0
	// Only the last * is tried again: where any choice for an earlier one would do, the shortest one does, too. So the steps grow only with the product of the lengths.
	star, end := -1, 0 // the last *, and where in s what it stands for ends
	for i < len(s) {
		switch {
		case p < len(pattern) && pattern[p] == '*':
			star, end = p, i
			p++
		case p < len(pattern) && (pattern[p] == '?' || lower(pattern[p]) == lower(s[i])):
			p++
			i++
		case star >= 0:
			end++
			p, i = star+1, end
		default:
			return false
		}
	}
	return strings.Trim(pattern[p:], "*") == ""
}

// words enumerates the words of a string.
func words(s string) iter.Seq[string] {
	return func(yield func(string) bool) {
		for s := strings.TrimLeft(s, white); s != ""; s = strings.TrimLeft(s, white) {
			end := strings.IndexAny(s, white)
			if end < 0 {
				end = len(s)
			}
			if !yield(s[:end]) {
				return
			}
			s = s[end:]
		}
	}
}

// mapBytes works on bytes, because strings.Map would change those that are no UTF-8.
func mapBytes(s string, f func(byte) byte) string {
	b := []byte(s)
	for i, c := range b {
		b[i] = f(c)
	}
	return string(b)
}

func lower(c byte) byte {
	if 'A' <= c && c <= 'Z' {
		return c + ('a' - 'A')
	}
	return c
}

func upper(c byte) byte {
	if 'a' <= c && c <= 'z' {
		return c - ('a' - 'A')
	}
	return c
}
