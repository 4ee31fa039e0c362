package text_test

import (
	"math"
	"slices"
	"strconv"
	"strings"
	"testing"
	"time"

	"missive/text"
)

const (
	lowerCase = "abcdefghijklmnopqrstuvwxyz"
	upperCase = "ABCDEFGHIJKLMNOPQRSTUVWXYZ"
)

// allBytes is each byte once.
func allBytes() string {
	b := make([]byte, 256)
	for i := range b {
		b[i] = byte(i)
	}
	return string(b)
}

// upTo returns all strings of at most n of the bytes of alphabet.
func upTo(n int, alphabet string) []string {
	out := []string{""}
	last := out
	for range n {
		var next []string
		for _, s := range last {
			for i := range len(alphabet) {
				next = append(next, s+alphabet[i:i+1])
			}
		}
		out = append(out, next...)
		last = next
	}
	return out
}

func TestCase(t *testing.T) { // P1.1
	if got := text.Lower(lowerCase + upperCase); got != lowerCase+lowerCase {
		t.Errorf("Lower of the letters: %q", got)
	}
	if got := text.Upper(lowerCase + upperCase); got != upperCase+upperCase {
		t.Errorf("Upper of the letters: %q", got)
	}
	for i := range 256 {
		s := string([]byte{byte(i)})
		low, up := s, s
		if at := strings.Index(upperCase, s); at >= 0 {
			low = lowerCase[at : at+1]
		}
		if at := strings.Index(lowerCase, s); at >= 0 {
			up = upperCase[at : at+1]
		}
		if got := text.Lower(s); got != low {
			t.Errorf("Lower(%q) = %q, want %q", s, got, low)
		}
		if got := text.Upper(s); got != up {
			t.Errorf("Upper(%q) = %q, want %q", s, got, up)
		}
	}
	for _, s := range []string{"", "\xff\xc3", "é\x80É", "\u212a\u017f"} { // not even letters whose other case is an ASCII one
		if text.Lower(s) != s || text.Upper(s) != s {
			t.Errorf("%q has no case: %q %q", s, text.Lower(s), text.Upper(s))
		}
	}
}

func TestSame(t *testing.T) { // P1.1
	for i := range 256 {
		for j := range 256 {
			a, b := string([]byte{byte(i)}), string([]byte{byte(j)})
			if got, want := text.Same(a, b), text.Lower(a) == text.Lower(b); got != want {
				t.Errorf("Same(%q, %q) = %v", a, b, got)
			}
		}
	}
	for _, a := range upTo(3, "aAb") {
		for _, b := range upTo(3, "aAb") {
			if got, want := text.Same(a, b), text.Lower(a) == text.Lower(b); got != want {
				t.Errorf("Same(%q, %q) = %v", a, b, got)
			}
		}
	}
	if text.Same("k", "\u212a") || text.Same("é", "É") || text.Same("\xe4", "\xc4") {
		t.Error("Same: only ASCII letters have a case")
	}
}

// splitWords is the definition of words: the longest parts without white bytes.
func splitWords(s string) []string {
	return strings.FieldsFunc(s, func(r rune) bool { return r == 9 || r == 10 || r == 13 || r == 32 })
}

func TestWords(t *testing.T) { // P1.2
	for i := range 256 {
		s := string([]byte{byte(i)})
		white := i == 9 || i == 10 || i == 13 || i == 32
		if got := text.Trim(s); white != (got == "") || !white && got != s {
			t.Errorf("Trim(%q) = %q", s, got)
		}
		want := []string{"a" + s + "b"}
		if white {
			want = []string{"a", "b"}
		}
		if got := text.Fields("a" + s + "b"); !slices.Equal(got, want) {
			t.Errorf("Fields with %q: %q", s, got)
		}
	}
	for _, s := range upTo(6, " \r\nab") {
		words := splitWords(s)
		if got := text.Fields(s); !slices.Equal(got, words) {
			t.Errorf("Fields(%q) = %q", s, got)
		}
		if got, want := text.Squeeze(s), strings.Join(words, " "); got != want {
			t.Errorf("Squeeze(%q) = %q, want %q", s, got, want)
		}
	}
	for s, want := range map[string]string{
		"":                      "",
		" \t\r\n":               "",
		"a":                     "a",
		" a \t b\r\n":           "a \t b",
		"\n\n\xff a  \xc3\r\r":  "\xff a  \xc3",
		"\v\fa\u00a0":           "\v\fa\u00a0",
		"\u2003a\u0085 ":        "\u2003a\u0085",
		"\x00 a\x00":            "\x00 a\x00",
		"\tthe first\nthe last": "the first\nthe last",
	} {
		if got := text.Trim(s); got != want {
			t.Errorf("Trim(%q) = %q, want %q", s, got, want)
		}
	}
	if got := text.Squeeze(" a \t b\r\n"); got != "a b" {
		t.Errorf("Squeeze: %q", got)
	}
	if got := text.Fields("\xff\xfe \xc3\r\n\x80"); !slices.Equal(got, []string{"\xff\xfe", "\xc3", "\x80"}) {
		t.Errorf("Fields of invalid UTF-8: %q", got)
	}
	if got := text.Fields(" the  quick\tbrown \xff fox\xc3\r\n"); !slices.Equal(got, []string{"the", "quick", "brown", "\xff", "fox\xc3"}) {
		t.Errorf("Fields: %q", got)
	}
}

func TestLines(t *testing.T) { // P1.3
	for s, want := range map[string][]string{
		"":           nil,
		"\n":         {""},
		"\n\n":       {"", ""},
		"a":          {"a"},
		"a\n":        {"a"},
		"a\nb":       {"a", "b"},
		"a\r\n\nb":   {"a", "", "b"},
		"\r":         {"\r"},
		"\r\n":       {""},
		"\r\r\n":     {"\r"},
		"a\r":        {"a\r"},
		"a\nb\r":     {"a", "b\r"},
		"a\rb\n":     {"a\rb"},
		"\n\r":       {"", "\r"},
		" \t\n\xff ": {" \t", "\xff "},
	} {
		if got := text.Lines(s); !slices.Equal(got, want) {
			t.Errorf("Lines(%q) = %q, want %q", s, got, want)
		}
	}
	for _, s := range upTo(7, "a\r\n") {
		parts := strings.Split(s, "\n")
		last := len(parts) - 1
		for i, part := range parts[:last] {
			parts[i] = strings.TrimSuffix(part, "\r")
		}
		if parts[last] == "" {
			parts = parts[:last]
		}
		if got := text.Lines(s); !slices.Equal(got, parts) {
			t.Errorf("Lines(%q) = %q, want %q", s, got, parts)
		}
	}
}

func TestUnlines(t *testing.T) { // P1.3
	for _, x := range []struct {
		lines []string
		want  string
	}{
		{nil, ""},
		{[]string{}, ""},
		{[]string{""}, "\n"},
		{[]string{"a", "", "b"}, "a\n\nb\n"},
		{[]string{"a\n", "b\r", "\xff"}, "a\n\nb\r\n\xff\n"},
	} {
		if got := text.Unlines(x.lines); got != x.want {
			t.Errorf("Unlines(%q) = %q", x.lines, got)
		}
	}
}

func TestNumber(t *testing.T) { // P1.4
	for s, want := range map[string]int{
		"0":               0,
		"7":               7,
		"007":             7,
		"10":              10,
		"123456789012345": 123456789012345,
		"999999999999999": 999999999999999,
		"000000000000000": 0,
		"000000000000001": 1,
	} {
		if got, ok := text.Number(s); got != want || !ok {
			t.Errorf("Number(%q) = %d, %v", s, got, ok)
		}
	}
	for _, s := range []string{
		"", "-1", "-0", "+1", " 1", "1 ", "1\n", "1_0", "1.0", "1e3", "0x1", "a", "1a", "a1", "\x001", "\xb2", "²", "٣",
		"1000000000000000", "0000000000000000", "0000000000000001", "99999999999999999999999999",
	} {
		if got, ok := text.Number(s); got != 0 || ok {
			t.Errorf("Number(%q) = %d, %v", s, got, ok)
		}
	}
	for i := range 256 {
		digit := '0' <= i && i <= '9'
		for _, s := range []string{string([]byte{byte(i)}), string([]byte{'1', byte(i), '2'})} {
			if got, ok := text.Number(s); ok != digit || !ok && got != 0 {
				t.Errorf("Number(%q) = %d, %v", s, got, ok)
			}
		}
	}
}

func TestDecimal(t *testing.T) { // P1.4
	for n, want := range map[int]string{
		0:             "0",
		7:             "7",
		-7:            "-7",
		10:            "10",
		1200:          "1200",
		-1200:         "-1200",
		math.MaxInt:   "9223372036854775807",
		math.MinInt:   "-9223372036854775808",
		-(1 << 32):    "-4294967296",
		1_000_000_000: "1000000000",
	} {
		if got := text.Decimal(n); got != want {
			t.Errorf("Decimal(%d) = %q", n, got)
		}
	}
}

// standsFor is the definition of patterns, byte by byte.
func standsFor(pattern, s string) bool {
	if pattern == "" {
		return s == ""
	}
	switch c := pattern[:1]; {
	case c == "*":
		return standsFor(pattern[1:], s) || s != "" && standsFor(pattern, s[1:])
	case s == "":
		return false
	default:
		return (c == "?" || text.Lower(c) == text.Lower(s[:1])) && standsFor(pattern[1:], s[1:])
	}
}

func TestGlob(t *testing.T) { // P1.5
	for _, x := range []struct {
		pattern, s string
		want       bool
	}{
		{"", "", true},
		{"", "a", false},
		{"a", "", false},
		{"*", "", true},
		{"*", "\x00\n\xff", true},
		{"?", "", false},
		{"?", "\n", true},
		{"?", "\xff", true},
		{"?", "é", false}, // two bytes
		{"??", "é", true},
		{"*@*.Example", "x@lists.example", true},
		{"*@example", "x@lists.example", false},
		{"a*b*c", "aXbXbXc", true},
		{"a*b*c", "aXbXbX", false},
		{"*aab", "aaab", true},
		{"*ab*cd", "abcabcd", true},
		{"[a-z]", "b", false},
		{"[a-z]", "[A-Z]", true},
		{"\\*", "*", false},
		{"\\*", "\\anything", true},
		{"a", "*", false},
		{"a", "?", false},
		{"*", "**?", true},
		{"\xe4", "\xc4", false},
		{"\xe4", "\xe4", true},
	} {
		if got := text.Glob(x.pattern, x.s); got != x.want {
			t.Errorf("Glob(%q, %q) = %v", x.pattern, x.s, got)
		}
	}
	texts := upTo(5, "aB*?")
	for _, pattern := range upTo(5, "Ab*?") {
		for _, s := range texts {
			if got, want := text.Glob(pattern, s), standsFor(pattern, s); got != want {
				t.Fatalf("Glob(%q, %q) = %v", pattern, s, got)
			}
		}
	}
}

func TestGlobSteps(t *testing.T) { // P1.5 with P1: it terminates, also where trying every choice for every * would not
	done := make(chan bool, 1)
	go func() {
		s := strings.Repeat("a", 20000)
		p := strings.Repeat("*a?", 100)
		done <- !text.Glob(p+"b", s) && text.Glob(p+"*", s) && !text.Glob(strings.Repeat("?", 20001), s)
	}()
	select {
	case ok := <-done:
		if !ok {
			t.Error("a wrong result")
		}
	case <-time.After(time.Minute):
		t.Fatal("Glob does not come to an end")
	}
}

func TestMemory(t *testing.T) { // P1.6
	backing := []string{"a", "b", "beyond"}
	lines := backing[:2]
	if got := text.Unlines(lines); got != "a\nb\n" || !slices.Equal(backing, []string{"a", "b", "beyond"}) {
		t.Errorf("Unlines: %q, its argument became %q", got, backing)
	}
	for name, f := range map[string]func(string) []string{"Fields": text.Fields, "Lines": text.Lines} {
		const s = "a\nb\n"
		first, second := f(s), f(s)
		first[0] = "changed"
		_ = append(first[:1], "changed")
		if third := f(s); !slices.Equal(second, []string{"a", "b"}) || !slices.Equal(third, []string{"a", "b"}) {
			t.Errorf("%s: results share memory: %q %q", name, second, third)
		}
	}
	changing := []byte(" Ab \n")
	s := string(changing)
	results := []string{text.Lower(s), text.Upper(s), text.Trim(s), text.Squeeze(s), text.Fields(s)[0], text.Lines(s)[0]}
	clear(changing)
	if s != " Ab \n" || !slices.Equal(results, []string{" ab \n", " AB \n", "Ab", "Ab", "Ab", " Ab "}) {
		t.Errorf("%q %q", s, results)
	}
}

func TestIdempotent(t *testing.T) { // P1.7
	samples := append(upTo(5, " \tAb\n"), allBytes(), "\xff \xc3\r\n \x80", "É é \u212a")
	for _, s := range samples {
		for name, f := range map[string]func(string) string{"Trim": text.Trim, "Squeeze": text.Squeeze, "Lower": text.Lower, "Upper": text.Upper} {
			if once := f(s); f(once) != once {
				t.Errorf("%s of %q, and again: %q, %q", name, s, once, f(once))
			}
		}
		if a, b := text.Fields(s), text.Fields(text.Squeeze(s)); !slices.Equal(a, b) {
			t.Errorf("Fields of %q, and squeezed: %q, %q", s, a, b)
		}
	}
}

func TestInverses(t *testing.T) { // P1.8
	line := []string{"", "a", "\ra", " ", "a\rb", "\xff\x00"}
	for _, a := range line {
		for _, b := range line {
			for _, l := range [][]string{{}, {a}, {a, b}, {b, a, a}} {
				if got := text.Lines(text.Unlines(l)); !slices.Equal(got, l) {
					t.Errorf("Lines of Unlines of %q: %q", l, got)
				}
			}
		}
	}
	check := func(n int) {
		if got, ok := text.Number(text.Decimal(n)); got != n || !ok {
			t.Errorf("Number of Decimal of %d: %d, %v", n, got, ok)
		}
	}
	for n := range 2000 {
		check(n)
		check(999999999999999 - n)
	}
	for n := 1; n < 1000000000000000; n *= 10 {
		for digit := range 10 {
			if m := digit*n + digit; m < 1000000000000000 {
				check(m)
			}
		}
		check(n - 1)
	}
	if s := text.Decimal(1000000000000000); s != strconv.Itoa(1000000000000000) {
		t.Errorf("Decimal: %q", s)
	} else if _, ok := text.Number(s); ok {
		t.Error("Number of a number of 16 digits")
	}
}

func TestGlobWithoutWildcards(t *testing.T) { // P1.9
	texts := append(upTo(4, "aAb"), "*", "?", "a*", "?b", "A.", "[A]", upperCase+lowerCase, allBytes())
	for _, a := range append(upTo(4, "aAb"), "a.", "[a]", "\\", lowerCase+upperCase) {
		for _, b := range texts {
			if got, want := text.Glob(a, b), text.Same(a, b); got != want {
				t.Errorf("Glob(%q, %q) = %v, Same %v", a, b, got, want)
			}
		}
	}
	for i := range 256 {
		for j := range 256 {
			a, b := string([]byte{byte(i)}), string([]byte{byte(j)})
			if a == "*" || a == "?" {
				continue
			}
			if text.Glob(a, b) != text.Same(a, b) {
				t.Errorf("Glob(%q, %q) is not Same", a, b)
			}
		}
	}
}
