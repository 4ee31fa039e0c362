package charset_test

import (
	"encoding/base64"
	"encoding/hex"
	"math/rand"
	"mime"
	"regexp"
	"slices"
	"strings"
	"sync"
	"testing"
	"time"

	"missive/charset"
	"missive/codec"
)

const (
	white   = "\t\n\r "
	instead = "\xef\xbf\xbd" // the replacement
)

// upTo calls visit with all strings of at most n of the pieces.
func upTo(n int, pieces []string, visit func(string)) {
	visit("")
	if n == 0 {
		return
	}
	for _, piece := range pieces {
		upTo(n-1, pieces, func(s string) {
			visit(piece + s)
		})
	}
}

// eachByte returns each byte as a string.
func eachByte() []string {
	out := make([]string, 256)
	for i := range out {
		out[i] = string([]byte{byte(i)})
	}
	return out
}

// randomOf returns n random pieces.
func randomOf(random *rand.Rand, n int, pieces []string) string {
	out := ""
	for range n {
		out += pieces[random.Intn(len(pieces))]
	}
	return out
}

// someTexts are strings of many lengths and kinds, the same ones in each run.
func someTexts() []string {
	random := rand.New(rand.NewSource(8))
	var out []string
	for _, pieces := range [][]string{
		eachByte(),
		{"a"},
		{"\u00fc"},
		{"\u20ac"},
		{"\U0001f600"},
		{"\xff"},
		{"a", "\u00fc", "\u20ac", "\U0001f600"},
		{"a", "\u00fc", "\xc3", "\xe2\x82", "\xf0\x9f\x98", "\x80"},
		{"=", "?", "utf-8", "?Q?", "a", " "},
		{"=?utf-8?Q?a=20?=", "=?utf-8?B?w7w=?=", " ", "\n", "a", "\xfc"},
		{"=?iso-8859-1?q?=FC?=", "=?koi8?q?a?=", " \t"},
	} {
		for n := range 60 {
			out = append(out, randomOf(random, n, pieces))
		}
		out = append(out, randomOf(random, 500, pieces))
	}
	return append(out, strings.Join(eachByte(), ""), "Gr\u00fc\u00dfe, 10 \u20ac\r\n", "caf\xe9", "=?", "?=", "= ?")
}

// encoded returns the bytes that UTF-8 has for a code point.
func encoded(point int) string {
	last := func(shift int) byte { return byte(0x80 | point>>shift&0x3f) }
	switch {
	case point < 0x80:
		return string([]byte{byte(point)})
	case point < 0x800:
		return string([]byte{byte(0xc0 | point>>6), last(0)})
	case point < 0x10000:
		return string([]byte{byte(0xe0 | point>>12), last(6), last(0)})
	}
	return string([]byte{byte(0xf0 | point>>18), last(12), last(6), last(0)})
}

// isPoint reports whether a character stands for a number.
func isPoint(n int) bool { return n <= 0x10ffff && (n < 0xd800 || n > 0xdfff) }

// width returns the number of bytes of the character with which a string begins, or 0.
func width(s string) int {
	for n := 1; n <= 4 && n <= len(s); n++ {
		point := int(s[0])
		if n > 1 {
			point &= 0xff >> (n + 1)
		}
		for i := 1; i < n; i++ {
			point = point<<6 | int(s[i]&0x3f)
		}
		if isPoint(point) && encoded(point) == s[:n] {
			return n
		}
	}
	return 0
}

// characters returns the characters of a string, and what stands for its invalid bytes.
func characters(s string) (out []string, valid bool) {
	valid = true
	for s != "" {
		n := width(s)
		if n == 0 {
			out = append(out, instead)
			valid, n = false, 1
		} else {
			out = append(out, s[:n])
		}
		s = s[n:]
	}
	return out, valid
}

// repaired is the definition of Repair.
func repaired(s string) string {
	out, _ := characters(s)
	return strings.Join(out, "")
}

// expectCharacters checks what Valid, Repair and Count return.
func expectCharacters(t *testing.T, s, want string, count int, valid bool) {
	t.Helper()
	if got := charset.Valid(s); got != valid {
		t.Errorf("Valid(%.100q) = %v", s, got)
	}
	if got := charset.Repair(s); got != want {
		t.Errorf("Repair(%.100q) = %.100q, want %.100q", s, got, want)
	}
	if got := charset.Count(s); got != count {
		t.Errorf("Count(%.100q) = %d, want %d", s, got, count)
	}
}

// checkCharacters compares Valid, Repair and Count with the definition.
func checkCharacters(t *testing.T, s string) {
	t.Helper()
	out, valid := characters(s)
	expectCharacters(t, s, strings.Join(out, ""), len(out), valid)
}

func TestCharacters(t *testing.T) { // P8.1
	for s, count := range map[string]int{
		"":                           0,
		"a":                          1,
		"\x00\x7f":                   2,
		"\r\n":                       2,
		"\u0080\u07ff":               2,
		"\u0800\ud7ff\ue000\uffff":   4,
		"\U00010000\U0010ffff":       2,
		"\ufffd":                     1, // the replacement itself is valid
		"\ufeffa":                    2, // so is a byte order mark
		"u\u0308":                    2, // not what the eye sees
		"Gr\u00fc\u00dfe, 10 \u20ac": 11,
		"\u00fc\U0001f600\ufffe":     3,
	} {
		expectCharacters(t, s, s, count, true)
	}
	for _, x := range []struct {
		s, want string
		count   int
	}{
		{"a\xff\u00fc\xc3", "a" + instead + "\u00fc" + instead, 4},
		{"\x80", instead, 1},
		{"\xff\xfe", instead + instead, 2}, // each of several in a row
		{"\xc3", instead, 1},
		{"\xc3a", instead + "a", 2},
		{"\xc3\xc3\xbc", instead + "\u00fc", 2},
		{"\xe2\x82", instead + instead, 2}, // the beginning of a character has as many invalid bytes as bytes
		{"\xe2\x82a", instead + instead + "a", 3},
		{"\xf0\x9f\x98", instead + instead + instead, 3},
		{"\xf0\x9f\x98\u20ac", instead + instead + instead + "\u20ac", 4},
		{"\u00fc\xbc", "\u00fc" + instead, 2},
		{"\xc0\x80", instead + instead, 2}, // not the shortest forms
		{"\xc1\xbf", instead + instead, 2},
		{"\xe0\x9f\xbf", instead + instead + instead, 3},
		{"\xf0\x8f\xbf\xbf", instead + instead + instead + instead, 4},
		{"\xed\xa0\x80", instead + instead + instead, 3}, // D800
		{"\xed\xbf\xbf", instead + instead + instead, 3}, // DFFF
		{"\xed\xa0\xbd\xed\xb8\x80", strings.Repeat(instead, 6), 6},
		{"\xf4\x90\x80\x80", strings.Repeat(instead, 4), 4}, // 110000
		{"\xf5\x80\x80\x80", strings.Repeat(instead, 4), 4},
		{"\xf8\x88\x80\x80\x80", strings.Repeat(instead, 5), 5},
		{"\xfc\x84\x80\x80\x80\x80", strings.Repeat(instead, 6), 6},
		{"\ufffd\xff", instead + instead, 2},
		{"a\x00\xe9b", "a\x00" + instead + "b", 4},
	} {
		expectCharacters(t, x.s, x.want, x.count, false)
	}
}

func TestAllCharacters(t *testing.T) { // P8.1
	for point := range 0x200000 {
		s := encoded(point)
		if isPoint(point) {
			expectCharacters(t, s, s, 1, true)
			if n := len(s) - 1; n > 0 && point%61 == 0 { // without the last byte, and without the first one
				expectCharacters(t, s[:n], strings.Repeat(instead, n), n, false)
				expectCharacters(t, s[1:], strings.Repeat(instead, n), n, false)
			}
		} else {
			expectCharacters(t, s, strings.Repeat(instead, len(s)), len(s), false)
		}
	}
}

// edges are bytes at whose sides UTF-8 has different rules.
func edges() []string {
	return strings.Split("\x00 a \x7f \x80 \x8f \x90 \x9f \xa0 \xbf \xc0 \xc1 \xc2 \xdf \xe0 \xe1 \xec \xed \xee \xef \xf0 \xf1 \xf3 \xf4 \xf5 \xf8 \xff", " ")
}

func TestBytesOfCharacters(t *testing.T) { // P8.1
	check := func(s string) { checkCharacters(t, s) }
	upTo(2, eachByte(), check)
	upTo(4, edges(), check)
	for _, a := range eachByte() {
		upTo(2, edges(), func(s string) {
			check(a + s)
			check(s + a)
			check("\xf0\x9f\x98" + s + a)
		})
	}
	for _, s := range someTexts() {
		check(s)
	}
}

// The characters of the bytes from 80 to 9F in windows-1252.
const middle1252 = "\u20ac\ufffd\u201a\u0192\u201e\u2026\u2020\u2021\u02c6\u2030\u0160\u2039\u0152\ufffd\u017d\ufffd" +
	"\ufffd\u2018\u2019\u201c\u201d\u2022\u2013\u2014\u02dc\u2122\u0161\u203a\u0153\ufffd\u017e\u0178"

// setNames are the names of the character sets.
func setNames() []string { return []string{"us-ascii", "utf-8", "iso-8859-1", "windows-1252"} }

// inSet is the definition of the text in a character set.
func inSet(name, s string) string {
	if name == "utf-8" {
		return repaired(s)
	}
	middle, _ := characters(middle1252)
	out := ""
	for i := range len(s) {
		c := int(s[i])
		switch {
		case c >= 0x80 && name == "us-ascii":
			out += instead
		case c >= 0x80 && c < 0xa0 && name == "windows-1252":
			out += middle[c-0x80]
		default:
			out += encoded(c)
		}
	}
	return out
}

// expectUtf8 checks what Utf8 returns.
func expectUtf8(t *testing.T, name, s, want string, known bool) {
	t.Helper()
	if got, ok := charset.Utf8(name, s); got != want || ok != known {
		t.Errorf("Utf8(%q, %.100q) = %.100q, %v; want %.100q, %v", name, s, got, ok, want, known)
	}
}

func TestUtf8(t *testing.T) { // P8.2
	for _, x := range []struct{ name, s, want string }{
		{"ISO-8859-1", "\xfc", "\u00fc"},
		{"iso-8859-1", "\x80\x9f\xa0\xff", "\u0080\u009f\u00a0\u00ff"},
		{"windows-1252", "\x7f\x80\x9f\xa0\xff", "\x7f\u20ac\u0178\u00a0\u00ff"},
		{"windows-1252", "\x81\x8d\x8f\x90\x9d", strings.Repeat(instead, 5)},
		{"windows-1252", "\x93quoted\x94 \x97 5 \x80", "\u201cquoted\u201d \u2014 5 \u20ac"},
		{"us-ascii", "a\x7f\x80\xff", "a\x7f" + instead + instead},
		{"us-ascii", "\u00fc", instead + instead},
		{"iso-8859-1", "\u00fc", "\u00c3\u00bc"},
		{"utf-8", "\u00fc\xfc", "\u00fc" + instead},
		{"utf-8", "\xe2\x82\xac\xe2\x82", "\u20ac" + instead + instead},
		{"Utf-8", "a", "a"},
		{"utf-8", "", ""},
		{"us-ascii", "", ""},
		{"iso-8859-1", "\x00\r\n", "\x00\r\n"},
	} {
		expectUtf8(t, x.name, x.s, x.want, true)
	}
	high := ""
	for c := 0x80; c < 0xa0; c++ {
		high += string([]byte{byte(c)})
	}
	expectUtf8(t, "windows-1252", high, middle1252, true)
	for _, name := range setNames() {
		for _, other := range []string{name, strings.ToUpper(name), strings.ToUpper(name[:1]) + name[1:], name[:3] + strings.ToUpper(name[3:])} {
			for _, c := range eachByte() {
				expectUtf8(t, other, c, inSet(name, c), true)
				expectUtf8(t, other, "a"+c+"\u00fc", inSet(name, "a"+c+"\u00fc"), true)
			}
		}
		for _, s := range someTexts() {
			expectUtf8(t, name, s, inSet(name, s), true)
		}
	}
}

func TestOtherSets(t *testing.T) { // P8.2
	expectUtf8(t, "koi8", "a", "a", false)
	expectUtf8(t, "koi8", "a\xff\u00fc\xc3", "a"+instead+"\u00fc"+instead, false)
	names := []string{"", " ", "ascii", "us_ascii", "utf8", "utf-16", "utf-80", "utf-", "iso-8859-15", "iso-8859-", "iso8859-1", "latin1", "windows-1251", "windows-12522", "cp1252", "windows1252",
		"u\u017f-a\u017fcii", "w\u0131ndows-1252", "\u0130so-8859-1", "us\u2010ascii"} // these letters have no case
	for _, name := range setNames() {
		names = append(names, " "+name, name+" ", name+"\n", name+"\x00", name+"*en", name[1:], name[:len(name)-1], name+name, `"`+name+`"`)
		for i := range len(name) {
			for _, c := range eachByte() {
				if strings.ToLower(c) != name[i:i+1] {
					names = append(names, name[:i]+c+name[i+1:])
				}
			}
		}
	}
	for _, name := range names {
		for _, s := range []string{"", "a", "\x80\xfc", "\u00fc\xfc"} {
			expectUtf8(t, name, s, repaired(s), false)
		}
	}
}

var (
	wordForm = regexp.MustCompile(`^=\?([-_0-9A-Za-z]+)\?([BbQq])\?([!->@-~]*)\?=`)
	qForm    = regexp.MustCompile(`^(?:[^=]|=[0-9A-Fa-f]{2})*$`)
	qCode    = regexp.MustCompile(`=..`)
)

// word is what the sound encoded-word means with which a string begins, and its size, or 0.
func word(s string) (string, int) {
	m := wordForm.FindStringSubmatch(s)
	if m == nil || !slices.Contains(setNames(), strings.ToLower(m[1])) {
		return "", 0
	}
	name, content := strings.ToLower(m[1]), m[3]
	if m[2] == "B" || m[2] == "b" {
		decoded, ok := codec.Unbase64(content)
		if !ok {
			return "", 0
		}
		return inSet(name, decoded), len(m[0])
	}
	if !qForm.MatchString(content) {
		return "", 0
	}
	decoded := qCode.ReplaceAllStringFunc(strings.ReplaceAll(content, "_", " "), func(code string) string {
		c, _ := hex.DecodeString(code[1:])
		return string(c)
	})
	return inSet(name, decoded), len(m[0])
}

// words is the definition of Words.
func words(s string) string {
	out := ""
	for s != "" {
		meaning, n := word(s)
		if n == 0 {
			out += s[:1]
			s = s[1:]
			continue
		}
		out += meaning
		s = s[n:]
		rest := strings.TrimLeft(s, white)
		if _, n := word(rest); n > 0 {
			s = rest
		}
	}
	return out
}

// expectWords checks what Words returns.
func expectWords(t *testing.T, s, want string) {
	t.Helper()
	if got := charset.Words(s); got != want {
		t.Errorf("Words(%.200q) = %.200q, want %.200q", s, got, want)
	}
}

func TestWords(t *testing.T) { // P8.3
	for s, want := range map[string]string{
		"":  "",
		"a": "a",
		"Re: =?iso-8859-1?q?a=FC_b?= =?utf-8?B?w7w=?= c": "Re: a\u00fc b\u00fc c",
		"=?utf-8?B?w7w=?=":                                   "\u00fc",
		"=?UTF-8?b?w7w=?=":                                   "\u00fc",
		"=?Utf-8?Q?=c3=BC?=":                                 "\u00fc",
		"=?utf-8?Q??=":                                       "", // an empty content
		"=?utf-8?B??=":                                       "",
		"a=?utf-8?Q?b?=c":                                    "abc", // no white bytes are needed beside it
		"(=?utf-8?Q?b?=)":                                    "(b)",
		"\"=?utf-8?Q?b?=\"":                                  "\"b\"",
		"=?utf-8?Q?a?==?utf-8?Q?b?=":                         "ab",
		"=?utf-8?Q?a?= =?utf-8?Q?b?=":                        "ab",
		"=?utf-8?Q?a?= \t\r\n =?utf-8?Q?b?=":                 "ab",
		"=?utf-8?Q?a?= =?utf-8?Q??= =?q?Q?x?=":               "a =?q?Q?x?=",
		"=?utf-8?Q?a?=\v=?utf-8?Q?b?=":                       "a\vb", // not white
		"=?utf-8?Q?a?=\u00a0=?utf-8?Q?b?=":                   "a\u00a0b",
		"=?utf-8?Q?a?= , =?utf-8?Q?b?=":                      "a , b",
		" =?utf-8?Q?a?= ":                                    " a ",
		" \n=?utf-8?Q?a?=\n b  \n=?utf-8?Q?c?=":              " \na\n b  \nc",
		"=?utf-8?Q?a?= b":                                    "a b",
		"a =?utf-8?Q?b?=":                                    "a b",
		"=?utf-8?Q?a_?= =?utf-8?Q?=20b?=":                    "a  b", // white bytes that are meant stay
		"=?utf-8?Q?_?= =?utf-8?Q?=20?=":                      "  ",
		"=?utf-8?Q?a?= =?koi8?Q?b?=":                         "a =?koi8?Q?b?=", // nothing vanishes in front of one that is not sound
		"=?koi8?Q?a?= =?utf-8?Q?b?=":                         "=?koi8?Q?a?= b",
		"=?utf-8?Q?a?= =?utf-8?Q?b=?=":                       "a =?utf-8?Q?b=?=",
		"=?utf-8?Q?=3D=3F?=":                                 "=?", // what it means is not read again
		"=?utf-8?Q?=3D=3Futf-8=3FQ=3Fa=3F=3D?=":              "=?utf-8?Q?a?=",
		"=?utf-8?Q?=?utf-8?Q?a?=":                            "=?utf-8?Q?a", // the first one to begin has no end: the other one begins with its =
		"=?koi8?Q?a?=?utf-8?Q?b?=":                           "=?koi8?Q?a?b",
		"=?utf-8?Q?a?=?utf-8?Q?b?=":                          "a?utf-8?Q?b?=", // the = belongs to the first one
		"==?utf-8?Q?a?=":                                     "=a",
		"=?=?utf-8?Q?a?=":                                    "=?a",
		"=?utf-8=?utf-8?Q?a?=":                               "=?utf-8a",
		"=?utf-8?=?utf-8?Q?a?=":                              "=?utf-8?a",
		"=?utf-8?Q=?utf-8?Q?a?=":                             "=?utf-8?Qa",
		"=?iso-8859-1?Q?=80=FF?=":                            "\u0080\u00ff",
		"=?windows-1252?Q?=80=81=FF?=":                       "\u20ac" + instead + "\u00ff",
		"=?us-ascii?Q?a=FF?=":                                "a" + instead,
		"=?utf-8?Q?=FFa=C3?=":                                instead + "a" + instead,
		"=?utf-8?B?w7x=?= =?utf-8?B?/w==?=":                  "\u00fc" + instead, // superfluous bits
		"=?utf-8?Q?=C3?= =?utf-8?Q?=BC?=":                    instead + instead,  // a word means a text of its own
		"=?utf-8?Q?=5F_=3d=3D=?=":                            "=?utf-8?Q?=5F_=3d=3D=?=",
		"=?utf-8?Q?=5F_=3d=3D?=":                             "_ ==",
		"=?utf-8?Q?=_?=":                                     "=?utf-8?Q?=_?=",
		"=?utf-8?Q?=00=0A=0d?=":                              "\x00\n\r",
		"=?utf-8?Q?!\"#$%&'()*+,-./:;<>@~?=":                 "!\"#$%&'()*+,-./:;<>@~", // other bytes mean themselves
		"=?utf-8?Q?a%20b+c=2Bd?=":                            "a%20b+c+d",
		"=?utf-8?B?" + strings.Repeat("YWFh", 1000) + "?=":   strings.Repeat("aaa", 1000), // longer than Encode makes them
		"=?utf-8?Q?" + strings.Repeat("=C3=BC", 1000) + "?=": strings.Repeat("\u00fc", 1000),
		"\xff=?utf-8?Q?a?=\xff":                              "\xffa\xff", // other bytes stay, also invalid ones
		" a \t\r\n b ":                                       " a \t\r\n b ",
	} {
		expectWords(t, s, want)
		if got := words(s); got != want {
			t.Errorf("the model has %q for %q", got, s)
		}
	}
}

func TestNoWords(t *testing.T) { // P8.3
	for _, s := range []string{
		"=?utf-8?Q?a=?=", "=?utf-8?Q?a=4?=", "=?utf-8?Q?a=4g?=", "=?utf-8?Q?=g4?=", "=?utf-8?Q?==41?=", "=?utf-8?Q?=4=41?=", "=?utf-8?Q?=+4?=", "=?utf-8?Q?=-4?=", "=?utf-8?Q?=0x?=", "=?utf-8?Q?=4_?=", "=?utf-8?Q?=%41?=",
		"=?utf-8?B?w7w?=", "=?utf-8?B?w7w==?=", "=?utf-8?B?w?=", "=?utf-8?B?=?=", "=?utf-8?B?w7w=!?=", "=?utf-8?B?w7w=w7w=?=", "=?utf-8?B?w7_=?=", "=?utf-8?B?-_-_?=",
		"=?utf-8?B?w7 w=?=", "=?utf-8?Q?a b?=", "=?utf-8?Q?a\tb?=", "=?utf-8?Q?a\nb?=", "=?utf-8?Q?\x7f?=", "=?utf-8?Q?\u00fc?=", "=?utf-8?Q?\x00?=", "=?utf-8?Q? ?=", "=?utf-8?B?w7w=\n?=",
		"=?utf-8?Q?a?b?=", "=?utf-8?Q?a??=", "=?utf-8?Q???=",
		"=??Q?a?=", "=?utf8?Q?a?=", "=?utf-8*en?Q?a?=", "=? utf-8?Q?a?=", "=?utf-8 ?Q?a?=", "=?utf.8?Q?a?=", "=?koi8?Q?a?=", "=?utf-8??a?=", "=?utf-8?QQ?a?=", "=?utf-8?X?a?=", "=?utf-8? Q?a?=", "=?utf-8?b64?w7w=?=", "=?u\u017f-ascii?Q?a?=",
		"=?utf-8?Q?a?", "=?utf-8?Q?a", "=?utf-8?Q?a? =", "=?utf-8?Q?", "=?utf-8?Q", "=?utf-8?", "=?utf-8", "=?", "=", "?=", "utf-8?Q?a?=", "?utf-8?Q?a?=", "= ?utf-8?Q?a?=", "=?utf-8Q?a?=", "=?utf-8?Qa?=", "=utf-8?Q?a?=", "=??=", "=???=", "=????=", "=?=",
	} {
		for _, whole := range []string{s, "a " + s + " \n b", s + " " + s, s + "\n"} {
			expectWords(t, whole, whole)
			if got := words(whole); got != whole {
				t.Errorf("the model has %q for %q", got, whole)
			}
		}
		expectWords(t, "=?utf-8?Q?x?= "+s, "x "+s)
		expectWords(t, s+" =?utf-8?Q?x?=", s+" x")
	}
}

func TestWordsByDefinition(t *testing.T) { // P8.3
	check := func(s string) { expectWords(t, s, words(s)) }
	upTo(5, []string{"=?utf-8?Q?a?=", "=?iso-8859-1?b?/A==?=", "=?koi8?Q?b?=", "=?utf-8?Q?_=?=", " ", "\n", "c"}, check)
	upTo(7, []string{"=?", "?=", "?", "utf-8", "Q", "a"}, check)
	upTo(7, []string{"=", "4", "F", "_", "?"}, func(s string) {
		check("=?windows-1252?q?" + s + "?=")
		check("=?us-ascii?b?" + s + "?=")
	})
	for _, s := range []string{"=?utf-8?Q?a=C3=bc_?=", "=?utf-8?B?w7w=?=", "a =?us-ascii?q?b?= =?Windows-1252?b?gA==?= c", "=?iso-8859-1?Q?=FC?=\n=?utf-8?Q??="} {
		for i := range len(s) {
			check(s[:i])
			check(s[i:])
			check(s[:i] + s[i+1:])
			for _, c := range eachByte() {
				check(s[:i] + c + s[i:])
				check(s[:i] + c + s[i+1:])
			}
		}
	}
	for _, s := range someTexts() {
		check(s)
		check(s + " " + s)
		check("=?utf-8?Q?" + s + "?=")
	}
}

func TestWordsLikeOthers(t *testing.T) { // P8.3: Go's own reader understands the same
	reader := &mime.WordDecoder{}
	for _, s := range []string{
		"=?UTF-8?Q?Gr=C3=BC=C3=9Fe?= =?utf-8?B?YW4gYWxsZQ==?=", "Re: =?iso-8859-1?Q?caf=E9_au_lait?= (2)", "=?utf-8?q?=E2=82=AC?=", "=?us-ascii?Q?Keith_Moore?= <moore>", "(=?ISO-8859-1?Q?a?= =?ISO-8859-1?Q?b?=)", "(=?ISO-8859-1?Q?a?=\r\n =?ISO-8859-1?Q?_b?=)",
	} {
		want, err := reader.DecodeHeader(s)
		if err != nil {
			t.Fatal(err)
		}
		expectWords(t, s, want)
	}
}

// isPlain is the definition of what Encode returns as it is.
func isPlain(s string) bool {
	return strings.IndexFunc(s, func(r rune) bool { return r < 32 || r > 126 }) < 0 && !strings.Contains(s, "=?")
}

// encodedWords is the definition of Encode.
func encodedWords(s string) string {
	if isPlain(s) {
		return s
	}
	var out []string
	rest, _ := characters(s)
	for len(rest) > 0 {
		n := 0
		for n < len(rest) && len(strings.Join(rest[:n+1], "")) <= 45 {
			n++
		}
		out = append(out, "=?utf-8?B?"+base64.StdEncoding.EncodeToString([]byte(strings.Join(rest[:n], "")))+"?=")
		rest = rest[n:]
	}
	return strings.Join(out, " ")
}

// expectEncode checks what Encode returns.
func expectEncode(t *testing.T, s, want string) {
	t.Helper()
	if got := charset.Encode(s); got != want {
		t.Errorf("Encode(%.100q) = %.200q, want %.200q", s, got, want)
	}
}

func TestEncode(t *testing.T) { // P8.4
	for _, s := range []string{"", " ", "a", "Re: [list] a b", " a  b ", "!\"#$%&'()*+,-./:;<>?@[\\]^_`{|}~", "= ?", "?=", "a=b?c=", "=", "?", "==", strings.Repeat("long ", 1000)} {
		expectEncode(t, s, s)
	}
	for s, want := range map[string]string{
		"\u00fc":                              "=?utf-8?B?w7w=?=",
		"a\u00fcb":                            "=?utf-8?B?YcO8Yg==?=", // all of it is encoded
		"\xfc":                                "=?utf-8?B?77+9?=",     // the replacement
		"a\n":                                 "=?utf-8?B?YQo=?=",
		"\t":                                  "=?utf-8?B?CQ==?=",
		"\x00":                                "=?utf-8?B?AA==?=",
		"\x1f":                                "=?utf-8?B?Hw==?=",
		"\x7f":                                "=?utf-8?B?fw==?=",
		"=?":                                  "=?utf-8?B?PT8=?=",
		"a=?b":                                "=?utf-8?B?YT0/Yg==?=",
		"==?":                                 "=?utf-8?B?PT0/?=",
		"=?=":                                 "=?utf-8?B?PT89?=",
		"=?utf-8?Q?a?=":                       "=?utf-8?B?PT91dGYtOD9RP2E/PQ==?=",
		strings.Repeat("a", 44) + "\n":        "=?utf-8?B?" + strings.Repeat("YWFh", 14) + "YWEK?=",
		strings.Repeat("a", 45) + "\n":        "=?utf-8?B?" + strings.Repeat("YWFh", 15) + "?= =?utf-8?B?Cg==?=",
		strings.Repeat("a", 43) + "\u00fc":    "=?utf-8?B?" + strings.Repeat("YWFh", 14) + "YcO8?=",
		strings.Repeat("a", 44) + "\u00fc":    "=?utf-8?B?" + strings.Repeat("YWFh", 14) + "YWE=?= =?utf-8?B?w7w=?=", // whole characters
		strings.Repeat("\u20ac", 16) + "aa":   "=?utf-8?B?" + strings.Repeat("4oKs", 15) + "?= =?utf-8?B?4oKsYWE=?=",
		strings.Repeat("\xff", 16):            "=?utf-8?B?" + strings.Repeat("77+9", 15) + "?= =?utf-8?B?77+9?=", // the bytes of the replacement count
		"\n" + strings.Repeat(" ", 44) + " a": "=?utf-8?B?CiAg" + strings.Repeat("ICAg", 14) + "?= =?utf-8?B?IGE=?=",
		strings.Repeat("=?", 23):              "=?utf-8?B?PT89Pz0/" + strings.Repeat("PT89Pz0/", 6) + "PT89?= =?utf-8?B?Pw==?=",
	} {
		expectEncode(t, s, want)
	}
	check := func(s string) { expectEncode(t, s, encodedWords(s)) }
	for _, c := range eachByte() {
		for _, s := range []string{c, c + "a", "a" + c, "=" + c, c + "?", "=" + c + "?", strings.Repeat("a", 44) + c, strings.Repeat("\u00fc", 23) + c} {
			check(s)
		}
	}
	upTo(6, []string{"=", "?", "a", "\u00fc", "\xc3"}, check)
	for n := 30; n <= 50; n++ {
		upTo(4, []string{"a", "\u00fc", "\u20ac", "\U0001f600", "\xf0\x9f"}, func(s string) {
			check(strings.Repeat("a", n) + s)
			check(s + strings.Repeat("\u00fc", n) + s + "\u20ac")
		})
	}
	for n := range 120 {
		for _, piece := range []string{"a", "\u00fc", "\u20ac", "\U0001f600", "\xff", "=?"} {
			check(strings.Repeat(piece, n))
			check("\n" + strings.Repeat(piece, n))
		}
	}
	for _, s := range someTexts() {
		check(s)
	}
}

// answers are the results of all functions for a string.
func answers(s string) [13]any {
	out := [13]any{charset.Valid(s), charset.Repair(s), charset.Count(s), charset.Words(s), charset.Encode(s)}
	for i, name := range setNames() {
		out[5+2*i], out[6+2*i] = charset.Utf8(name, s)
	}
	return out
}

func TestPure(t *testing.T) { // P8.5
	texts := someTexts()
	first := make([][13]any, len(texts))
	for i, s := range texts {
		first[i] = answers(s)
	}
	var group sync.WaitGroup
	for worker := range 4 { // other calls before and beside a call change nothing
		group.Go(func() {
			random := rand.New(rand.NewSource(int64(worker)))
			for _, i := range random.Perm(len(texts)) {
				if answers(texts[i]) != first[i] {
					t.Errorf("other results for %.80q", texts[i])
				}
			}
		})
	}
	group.Wait()
}

// checkBack checks the properties of Encode.
func checkBack(t *testing.T, s string) {
	t.Helper()
	coded := charset.Encode(s)
	expectWords(t, coded, charset.Repair(s))
	for i := range len(coded) {
		if coded[i] < 32 || coded[i] > 126 {
			t.Errorf("Encode(%.100q) has the byte %d", s, coded[i])
		}
	}
	if coded != s {
		for _, part := range strings.Split(coded, " ") {
			if _, n := word(part); n != len(part) || n > 75 {
				t.Errorf("Encode(%.100q) has the word %q", s, part)
			}
		}
	}
	if !strings.Contains(coded, "=?") {
		expectEncode(t, coded, coded)
	}
}

func TestBack(t *testing.T) { // P8.6
	check := func(s string) { checkBack(t, s) }
	for _, s := range someTexts() {
		check(s)
		check(charset.Encode(s))
		check(charset.Words(s))
	}
	upTo(2, eachByte(), check)
	upTo(6, []string{"=", "?", " ", "a", "\u00fc", "\xff"}, check)
	for n := 38; n <= 48; n++ {
		upTo(3, []string{" ", "a", "\u00fc", "\u20ac", "\U0001f600", "\xff"}, func(s string) { check(strings.Repeat("x", n) + s + "\u00fc" + strings.Repeat("x", n) + s) })
	}
	reader := &mime.WordDecoder{}
	for _, s := range someTexts() {
		if got, err := reader.DecodeHeader(charset.Encode(s)); err != nil || got != charset.Repair(s) {
			t.Errorf("%.80q: Go reads %.80q, %v", s, got, err)
		}
	}
}

func TestCounts(t *testing.T) { // P8.7
	check := func(s string) {
		good := charset.Repair(s)
		expectCharacters(t, good, good, charset.Count(s), true)
		for _, name := range []string{"us-ascii", "iso-8859-1", "windows-1252"} {
			out, _ := charset.Utf8(name, s)
			expectCharacters(t, out, out, len(s), true)
		}
	}
	for _, s := range someTexts() {
		check(s)
	}
	upTo(2, eachByte(), check)
	upTo(3, edges(), check)
}

func TestLong(t *testing.T) { // P8.1 to P8.4: the time grows with the length only
	start := time.Now()
	for _, piece := range []string{"a", "\xff", "\u20ac", "=", "?", "=?", "?=", "=?a", "=?utf-8?", "=?utf-8?Q?", "=?utf-8?Q?a", "=?utf-8?Q?a?=", "=?utf-8?Q?a?= ", "=?koi8?Q?a?= ", "=?utf-8?Q?=?=", "=?utf-8?B?=?", " "} {
		s := strings.Repeat(piece, 1<<18/len(piece))
		for _, whole := range []string{s, "=?utf-8?Q?" + s, "=?utf-8?B?" + s + "?=", "=?utf-8?Q?a?=" + s} {
			answers(whole)
		}
	}
	if spent := time.Since(start); spent > 30*time.Second {
		t.Errorf("%v for strings of a quarter of a megabyte", spent)
	}
}
