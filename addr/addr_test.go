package addr_test

import (
	"fmt"
	"math/rand"
	"net/mail"
	"regexp"
	"slices"
	"strings"
	"sync"
	"testing"
	"time"
	"unicode/utf8"

	"missive/addr"
	"missive/api"
	"missive/charset"
)

const (
	lowerCase = "abcdefghijklmnopqrstuvwxyz"
	upperCase = "ABCDEFGHIJKLMNOPQRSTUVWXYZ"
	atomBytes = lowerCase + upperCase + "0123456789!#$%&'*+-/=?^_`{|}~"
	bad       = "\ufffd"
)

// upTo calls visit with all strings of at most n of the pieces.
func upTo(n int, pieces []string, visit func(string)) {
	visit("")
	if n == 0 {
		return
	}
	for _, piece := range pieces {
		upTo(n-1, pieces, func(s string) {
			visit(piece + s)
		})
	}
}

// eachByte returns each byte as a string.
func eachByte() []string {
	out := make([]string, 256)
	for i := range out {
		out[i] = string([]byte{byte(i)})
	}
	return out
}

// randomOf returns n random pieces.
func randomOf(random *rand.Rand, n int, pieces []string) string {
	out := ""
	for range n {
		out += pieces[random.Intn(len(pieces))]
	}
	return out
}

// someTexts are strings of many lengths and kinds, the same ones in each run.
func someTexts() []string {
	random := rand.New(rand.NewSource(10))
	var out []string
	for _, pieces := range [][]string{
		eachByte(),
		{"a"},
		{"a", " "},
		{"a", ".", "@"},
		{"(", ")", "\\", "a"},
		{`"`, "\\", "a", " "},
		{"a@b", ", ", ";", ":", "<", ">"},
		{"Jo", " ", `"Q, Jo"`, " <jo@a.example>", ", ", "(home)", "team: ", ";"},
		{"=?utf-8?q?J=C3=B6?=", "=?utf-8?b?w7w=?=", " ", "x", `"y"`, "<a@b>,"},
		{"\u00fc", "\U0001f600", "\xc3", "\xff", "a", " "},
		{"<", ">", "@", `"a"`, "b", ","},
	} {
		for n := range 30 {
			out = append(out, randomOf(random, n, pieces))
		}
		out = append(out, randomOf(random, 500, pieces))
	}
	return append(out, strings.Join(eachByte(), ""), strings.Repeat("\u00fc", 700))
}

// list returns addresses of names, Locals and Domains in turns.
func list(all ...string) []api.Address {
	var out []api.Address
	for i := 0; i < len(all); i += 3 {
		out = append(out, api.Address{Name: all[i], Local: all[i+1], Domain: all[i+2]})
	}
	return out
}

var (
	localForm  = regexp.MustCompile(`^[!-~]+$`)
	atomForm   = "[a-zA-Z0-9!#$%&'*+\\-/=?^_`{|}~]+"
	domainForm = regexp.MustCompile("^" + atomForm + `(\.` + atomForm + ")*$")
)

// isValid is the definition of valid addresses.
func isValid(a api.Address) bool {
	return len(a.Local) <= 64 && localForm.MatchString(a.Local) && len(a.Domain) <= 255 && domainForm.MatchString(a.Domain)
}

// tokensOf is the definition of tokens: a letter for each of them (w a word, q a quoted string, a sign itself), their texts, and whether everything is ended.
func tokensOf(s string) (string, []string, bool) {
	kinds := ""
	var texts []string
	depth, inString, inWord, escaped := 0, false, false, false
	for i := range len(s) {
		c := s[i : i+1]
		begin := ""
		word := false
		switch {
		case escaped && depth > 0:
			escaped = false
		case escaped:
			texts[len(texts)-1] += c
			escaped = false
		case (depth > 0 || inString) && c == `\`:
			escaped = true
		case depth > 0 && c == "(", !inString && c == "(":
			depth++
		case depth > 0 && c == ")":
			depth--
		case depth > 0:
		case inString && c == `"`:
			inString = false
		case inString:
			texts[len(texts)-1] += c
		case c == `"`:
			begin = "q"
			inString = true
		case strings.Contains(")<>,;:@", c):
			begin = c
		case strings.Contains("\t\n\r ", c):
		default:
			word = true
			if !inWord {
				begin = "w"
			}
		}
		if begin != "" {
			kinds += begin
			texts = append(texts, "")
		}
		if word {
			texts[len(texts)-1] += c
		}
		inWord = word
	}
	return kinds, texts, depth == 0 && !inString
}

var (
	elementForm = regexp.MustCompile(`^(?:([wq]*)<)?[wq]@w(>?)$`)
	groupForm   = regexp.MustCompile(`^[wq]+$`)
	partForm    = regexp.MustCompile(`w+|q`)
)

// phrase is the definition of phrases.
func phrase(kinds string, texts []string) string {
	var parts []string
	for _, at := range partForm.FindAllStringIndex(kinds, -1) {
		part := strings.Join(texts[at[0]:at[1]], " ")
		if kinds[at[0]] == 'w' {
			part = charset.Words(part)
		}
		parts = append(parts, part)
	}
	return charset.Repair(strings.Join(parts, " "))
}

// parsed is the definition of Parse.
func parsed(s string) ([]api.Address, bool) {
	kinds, texts, ok := tokensOf(s)
	var out []api.Address
	for {
		end := strings.IndexAny(kinds+",", ",;:")
		element := kinds[:end]
		m := elementForm.FindStringSubmatch(element)
		switch {
		case end < len(kinds) && kinds[end] == ':':
			ok = ok && groupForm.MatchString(element)
		case element == "":
		case m == nil || strings.Contains(element, "<") != (m[2] != ""):
			ok = false
		default:
			last := strings.LastIndex(element, "w")
			a := api.Address{Name: phrase(m[1], texts), Local: texts[last-2], Domain: texts[last]}
			if isValid(a) {
				out = append(out, a)
			} else {
				ok = false
			}
		}
		if end == len(kinds) {
			return out, ok
		}
		kinds, texts = kinds[end+1:], texts[end+1:]
	}
}

// expectParse checks what Parse returns.
func expectParse(t *testing.T, s string, want []api.Address, ok bool) {
	t.Helper()
	if got, sound := addr.Parse(s); !slices.Equal(got, want) || sound != ok {
		t.Errorf("Parse(%.300q) = %.500q, %v; want %.500q, %v", s, got, sound, want, ok)
	}
}

func TestParse(t *testing.T) { // P10.1
	l64 := strings.Repeat("l", 64)
	d255 := strings.Repeat("d", 255)
	for _, x := range []struct {
		s    string
		ok   bool
		want []api.Address
	}{
		{"Jo Q <jo@a.example>, x@b", true, list("Jo Q", "jo", "a.example", "", "x", "b")}, // the examples
		{`"Q, Jo" (home) <"a b"@c>`, false, nil},
		{"team: a@b, c@d;", true, list("", "a", "b", "", "c", "d")},
		{"=?utf-8?q?J=C3=B6?= <j@b>", true, list("J\u00f6", "j", "b")},
		{"nobody, a@b", false, list("", "a", "b")},
		// elements
		{"", true, nil},
		{" \t\r\n", true, nil},
		{"()", true, nil},
		{",", true, nil},
		{" , ,;;,(,)", true, nil},
		{"a@b", true, list("", "a", "b")},
		{"a@b,", true, list("", "a", "b")},
		{",,a@b;;c@d,", true, list("", "a", "b", "", "c", "d")},
		{"a@b;c@d", true, list("", "a", "b", "", "c", "d")},
		{"a@b a@b", false, nil},
		{"a@b, a@b", true, list("", "a", "b", "", "a", "b")}, // equal ones
		{"A.B@C.D", true, list("", "A.B", "C.D")},            // in their own case
		{"a\t@\r\n b", true, list("", "a", "b")},
		{`"a"@b`, true, list("", "a", "b")},
		{`"a"b@c`, false, nil},
		{`a@"b"`, false, nil}, // no quoted Domain
		{`x <a@"b">`, false, nil},
		{"a", false, nil},
		{`"a"`, false, nil},
		{`""`, false, nil},
		{"@", false, nil},
		{"a@", false, nil},
		{"@b", false, nil},
		{"a@@b", false, nil},
		{"a@b@c", false, nil},
		{"a@b c", false, nil},
		{"a b@c", false, nil},
		{"a)@b", false, nil},
		{")", false, nil},
		{"a@b)", false, nil},
		{"<a@b>", true, list("", "a", "b")},
		{"x <a@b>", true, list("x", "a", "b")},
		{"x<a@b>", true, list("x", "a", "b")},
		{`x<"a"@b>`, true, list("x", "a", "b")},
		{" < a @ b > ", true, list("", "a", "b")},
		{"x <a@b> y", false, nil},
		{"x <a@b>>", false, nil},
		{"x <a@b", false, nil},
		{"x a@b>", false, nil},
		{"a@b>", false, nil},
		{"x <<a@b>>", false, nil},
		{"x <<a@b>", false, nil},
		{"<x> <a@b>", false, nil},
		{"x@y <a@b>", false, nil},
		{"x) <a@b>", false, nil},
		{"x <a>", false, nil},
		{"x <>", false, nil},
		{"<>", false, nil},
		{"<", false, nil},
		{">", false, nil},
		{"><", false, nil},
		{">a@b<", false, nil},
		{"x <@b>", false, nil},
		{"x <a@>", false, nil},
		{"x <a b@c>", false, nil},
		{"x <a@b c>", false, nil},
		{"x <a@b,c@d>", false, nil},
		{"x <@y,@z:a@b>", false, nil}, // no route
		{"x <@y:a@b>", false, nil},    // it names a group
		{"x <a@b>, y <c@d>; z", false, list("x", "a", "b", "y", "c", "d")},
		// groups
		{":", false, nil},
		{"x:", true, nil},
		{"x:;", true, nil},
		{`"x":;`, true, nil},
		{`"":;`, true, nil},
		{"x y \"z\" (c):a@b", true, list("", "a", "b")},
		{"x:a@b", true, list("", "a", "b")},
		{"x:y:a@b;z:", true, list("", "a", "b")},
		{"a@b:c@d", false, list("", "c", "d")},
		{"<a@b>:c@d", false, list("", "c", "d")},
		{"x):c@d", false, list("", "c", "d")},
		{"x>:c@d", false, list("", "c", "d")},
		{":a@b", false, list("", "a", "b")},
		{"a@b,:c@d", false, list("", "a", "b", "", "c", "d")},
		{"a@b;():c@d", false, list("", "a", "b", "", "c", "d")},
		{"x::a@b", false, list("", "a", "b")},
		{"\xff:a@b", true, list("", "a", "b")},
		// comments
		{"(x)a(y)@(z)b(x)", true, list("", "a", "b")},
		{"a(x)b@c", false, nil}, // two words
		{"(a@b)", true, nil},
		{"a@b (x, y: <z@z>; \"q)", true, list("", "a", "b")},
		{"a@b (x(y)(z(()))), c@d", true, list("", "a", "b", "", "c", "d")},
		{`a@b (\)), c@d`, true, list("", "a", "b", "", "c", "d")},
		{`a@b (\(), c@d`, true, list("", "a", "b", "", "c", "d")},
		{`a@b (\\), c@d`, true, list("", "a", "b", "", "c", "d")},
		{`a@b (\\)), c@d`, false, list("", "c", "d")},
		{`a@b ("), c@d`, true, list("", "a", "b", "", "c", "d")},
		{"a@b, (", false, list("", "a", "b")},
		{"a@b (x, c@d", false, list("", "a", "b")}, // what is not ended is an offence of its own
		{"a@b (x(y), c@d", false, list("", "a", "b")},
		{`a@b (x\), c@d`, false, list("", "a", "b")},
		{`a@b (x\`, false, list("", "a", "b")},
		{"(", false, nil},
		{"x <a@b> (", false, list("x", "a", "b")},
		{"x: (", false, nil},
		{`a\(b)@c`, true, list("", `a\`, "c")}, // no escape outside of strings and comments
		{`a\(b@c)@d`, true, list("", `a\`, "d")},
		// quoted strings
		{`"a@b,c:d;<e>()"@f`, true, list("", "a@b,c:d;<e>()", "f")},
		{`"\"\\\a"@b`, true, list("", `"\a`, "b")},
		{`"a\\"@b`, true, list("", `a\`, "b")},
		{`"a\"@b`, false, nil},
		{`"a\`, false, nil},
		{`"a@b`, false, nil},
		{`"`, false, nil},
		{`a@b, "c, d@e`, false, list("", "a", "b")},
		{`"" <a@b>`, true, list("", "a", "b")},
		{`"\ü" <a@b>`, true, list("\u00fc", "a", "b")},
		// valid addresses
		{`""@b`, false, nil},
		{`"a b"@c`, false, nil},
		{"\"a\tb\"@c", false, nil},
		{"a\x00@c", false, nil},
		{"a\x7f@c", false, nil},
		{"\u00fc@c", false, nil},
		{`"` + "\u00fc" + `"@c`, false, nil},
		{`a\"b"@c`, false, nil},
		{`.a..b.[]\@c`, true, list("", `.a..b.[]\`, "c")}, // a word may be any Local
		{l64 + "@c", true, list("", l64, "c")},
		{l64 + "l@c", false, nil},
		{"a@" + d255, true, list("", "a", d255)},
		{"a@" + d255 + "d", false, nil},
		{"a@b.", false, nil},
		{"a@.b", false, nil},
		{"a@b..c", false, nil},
		{"a@[b]", false, nil},
		{`a@b\`, false, nil},
		{"a@b\x00", false, nil},
		{"a@\u00fc", false, nil},
		{"x <a@b.>, y <c@d>", false, list("y", "c", "d")},
	} {
		expectParse(t, x.s, x.want, x.ok)
		if got, ok := parsed(x.s); !slices.Equal(got, x.want) || ok != x.ok {
			t.Errorf("the model has %.500q, %v for %.300q", got, ok, x.s)
		}
	}
}

func TestPhrase(t *testing.T) { // P10.1
	for s, want := range map[string]string{
		"":                               "",
		"a":                              "a",
		" a \t b\r\n c ":                 "a b c",
		"a(x)b":                          "a b",
		"J. [Q] \\Z 'x'":                 "J. [Q] \\Z 'x'",
		`"a"`:                            "a",
		`"a  b"`:                         "a  b",
		`" a "`:                          " a ",
		`a"b"c`:                          "a b c",
		`"a""b"`:                         "a b",
		`""`:                             "",
		`"" ""`:                          " ",
		`"" a`:                           " a",
		`a "" b`:                         "a  b",
		`"\"\\\a"`:                       `"\a`,
		"\"a\r\n b\x00\"":                "a\r\n b\x00",
		"\u00fc":                         "\u00fc",
		"\xc3":                           bad,
		"\"\xc3\" \"\xbc\"":              bad + " " + bad,
		"\xc3(x)\xbc":                    bad + " " + bad,
		"\"a\xff\\\xfe\xfd\"":            "a" + bad + bad + bad,
		"\"\\\xc3\\\xbc\"":               "\u00fc", // repaired at last
		"=?utf-8?q?a_=C3=BC?=":           "a \u00fc",
		"x=?utf-8?q?a?=y":                "xay",
		"=?utf-8?q?a?= =?utf-8?b?w7w=?=": "a\u00fc",
		"=?utf-8?q?a?=\r\n\t(x) =?utf-8?b?w7w=?=": "a\u00fc", // a comment is not there
		"=?utf-8?q?a?= b =?utf-8?b?w7w=?=":        "a b \u00fc",
		`=?utf-8?q?a?= "" =?utf-8?b?w7w=?=`:       "a  \u00fc", // two runs of words
		`=?utf-8?q?a?= "b" =?utf-8?b?w7w=?= c`:    "a b \u00fc c",
		`"=?utf-8?q?a?="`:                         "=?utf-8?q?a?=", // no encoded-word in a quoted string
		`"=?utf-8?q?a" ?=`:                        "=?utf-8?q?a ?=",
		"=?utf-8?q?a(x)b?=":                       "=?utf-8?q?a b?=",
		"=?koi8?q?a?= b":                          "=?koi8?q?a?= b",
		"=?utf-8?q??=":                            "",
		`=?utf-8?q??= "a"`:                        " a",
		"=?utf-8?q?=C3?= =?utf-8?q?=BC?=":         bad + bad,
		"\xc3=?utf-8?q??=\xbc":                    "\u00fc", // repaired behind Words
		"=?utf-8?q?=22=2C_=3C?=":                  `", <`,
		"=?iso-8859-1?q?=FC?=":                    "\u00fc",
		"=?utf-8?q?_a_?= b":                       " a  b",
	} {
		expectParse(t, s+" <a@b>", list(want, "a", "b"), true)
		expectParse(t, "c@d, x: "+s+"<a@b>; e@f", list("", "c", "d", want, "a", "b", "", "e", "f"), true)
		kinds, texts, _ := tokensOf(s)
		if got := phrase(kinds, texts); got != want {
			t.Errorf("the model has %q for %q", got, s)
		}
	}
}

func TestParseByDefinition(t *testing.T) { // P10.1
	check := func(s string) {
		want, ok := parsed(s)
		expectParse(t, s, want, ok)
	}
	upTo(5, []string{"(", ")", "<", ">", ",", ";", ":", "@", `"`, `\`, " ", "a", "."}, check)
	upTo(8, []string{"(", ")", `"`, `\`}, func(s string) {
		check(s)
		check("a@b" + s + ",c@d")
	})
	upTo(6, []string{"a", "<", ">", "@", `"q"`, "(c)"}, check)
	upTo(6, []string{"a@b", "x", ",", ":", "<a@b>", ";"}, check)
	upTo(5, []string{"=?utf-8?q?=C3=BC?=", "\xc3", "\xbc", `"`, " ", "=?utf-8?q?="}, func(s string) {
		check(s + " <a@b>")
	})
	for _, c := range eachByte() {
		for _, d := range eachByte() {
			check("a" + c + d + "@b")
			check("x" + c + d + "y<a@b>")
		}
		for _, s := range []string{"ab@cd", `"ab"@cd`, "x y<ab@cd>", `"x" <"ab"@cd>,e@f`, "x:ab@cd;", "(x(y))ab@cd", "=?utf-8?q?=C3=BC?= =?utf-8?q?x?= <ab@cd>"} {
			for i := range len(s) + 1 {
				check(s[:i] + c + s[i:])
				check(s[:i] + c + s[min(i+1, len(s)):])
			}
		}
	}
	for _, s := range []string{`Jo Q <jo@a.example>, x@b`, `team: "a\"b"@c (x\)y), "Q, \\Jo"<d@e>; f@g`} {
		for i := range len(s) + 1 {
			for j := i; j <= len(s); j++ {
				check(s[i:j])
				check(s[:i] + s[j:])
			}
		}
	}
	for n := range 70 {
		check(strings.Repeat("l", n) + "@b")
		check(`x <"` + strings.Repeat("l", n) + `"@b>`)
		check(`"` + strings.Repeat(`\l`, n) + `"@b`)
		check("a@" + strings.Repeat("d", n+200))
		check("a@" + strings.Repeat("d.", n+90) + "d")
	}
	for _, s := range someTexts() {
		check(s)
		check("x <a@b>," + s + ", y@z")
		check(s + "<a@b>")
		check(`"` + s + `" <a@b>`)
		check("a@b (" + s + "), c@d")
	}
}

// plain returns an address as Go's own package has it.
func plain(a *mail.Address) api.Address {
	at := strings.LastIndex(a.Address, "@")
	return api.Address{Name: a.Name, Local: a.Address[:at], Domain: a.Address[at+1:]}
}

func TestParseLikeOthers(t *testing.T) { // P10.1, P10.2: Go's own reader and writer mean the same
	for _, s := range []string{
		"Jo Q <jo@a.example>, x@b.example",
		`"Q, Jo" <jo.q+list@a.example>, "x\"y" <x@b>`,
		"team: a@b, Jo <c@d>;, e@f",
		"=?utf-8?q?J=C3=B6?= =?iso-8859-1?b?/A==?= <j@b>, =?utf-8?q?=2C?= y <k@b>",
		"a@b (a (nested) comment), <c@d>",
		`"a b c" <"john.q"@example.com>, a!#$%&'*+-/=?^_{|}~@b`,
	} {
		all, err := mail.ParseAddressList(s)
		if err != nil {
			t.Fatal(err)
		}
		var want []api.Address
		other := ""
		for _, a := range all {
			want = append(want, plain(a))
			other += a.String() + ", "
		}
		if strings.Contains(s, "comment") {
			want[0].Name = "" // Go takes a comment as the name
			other = strings.Replace(other, `"a (nested) comment" `, "", 1)
		}
		expectParse(t, s, want, true)
		expectParse(t, other, want, true)
		again, err := mail.ParseAddressList(addr.Write(want))
		if err != nil || len(again) != len(want) {
			t.Fatalf("Go reads %q as %v, %v", addr.Write(want), again, err)
		}
		for i, a := range again {
			if plain(a) != want[i] {
				t.Errorf("Go reads %q as %q", addr.Write(want), plain(a))
			}
		}
	}
}

var (
	plainForm = regexp.MustCompile("^" + atomForm + "( " + atomForm + ")*$")
	printForm = regexp.MustCompile(`^[ -~]*$`)
)

// quoted is the definition of what Write returns as a quoted string.
func quoted(s string) string {
	out := `"`
	for i := range len(s) {
		if s[i] == '"' || s[i] == '\\' {
			out += `\`
		}
		out += s[i : i+1]
	}
	return out + `"`
}

// written is the definition of Write.
func written(l []api.Address) string {
	var out []string
	for _, a := range l {
		s := a.Local
		if !domainForm.MatchString(s) {
			s = quoted(s)
		}
		s += "@" + a.Domain
		switch {
		case a.Name == "":
		case plainForm.MatchString(a.Name) && !strings.Contains(a.Name, "=?"):
			s = a.Name + " <" + s + ">"
		case printForm.MatchString(a.Name):
			s = quoted(a.Name) + " <" + s + ">"
		default:
			s = charset.Encode(a.Name) + " <" + s + ">"
		}
		out = append(out, s)
	}
	return strings.Join(out, ", ")
}

// expectWrite checks what Write returns.
func expectWrite(t *testing.T, l []api.Address, want string) {
	t.Helper()
	if got := addr.Write(l); got != want {
		t.Errorf("Write(%.300q) = %.500q, want %.500q", l, got, want)
	}
}

func TestWrite(t *testing.T) { // P10.2
	for _, x := range []struct {
		l    []api.Address
		want string
	}{
		{nil, ""},
		{[]api.Address{}, ""},
		{list("", "a", "b"), "a@b"},
		{list("Jo Q", "jo", "a.example", "", "x", "b"), "Jo Q <jo@a.example>, x@b"},
		{list("", "a", "b", "", "a", "b", "x", "c", "d"), "a@b, a@b, x <c@d>"},
		{list("", "A.b-c.9", "D"), "A.b-c.9@D"},
		{list("", atomBytes, "b"), atomBytes + "@b"},
		{list("", "a..b", "c"), `"a..b"@c`},
		{list("", ".a", "c"), `".a"@c`},
		{list("", "a.", "c"), `"a."@c`},
		{list("", ".", "c"), `"."@c`},
		{list("", "a@b", "c"), `"a@b"@c`},
		{list("", `a"b\c`, "d"), `"a\"b\\c"@d`},
		{list("", `\"`, "d"), `"\\\""@d`},
		{list("", "(),:;<>[]", "d"), `"(),:;<>[]"@d`},
		// names
		{list("Jo", "a", "b"), "Jo <a@b>"},
		{list("? "+strings.Replace(atomBytes, "=?", "=", 1)+" x", "a", "b"), "? " + strings.Replace(atomBytes, "=?", "=", 1) + " x <a@b>"},
		{list(atomBytes, "a", "b"), `"` + atomBytes + `" <a@b>`}, // there is a =? in it
		{list("a  b", "a", "b"), `"a  b" <a@b>`},
		{list(" a", "a", "b"), `" a" <a@b>`},
		{list("a ", "a", "b"), `"a " <a@b>`},
		{list(" ", "a", "b"), `" " <a@b>`},
		{list("J. Q", "a", "b"), `"J. Q" <a@b>`},
		{list("Q, Jo", "a", "b"), `"Q, Jo" <a@b>`},
		{list(`"J\" Q`, "a", "b"), `"\"J\\\" Q" <a@b>`},
		{list("=?", "a", "b"), `"=?" <a@b>`},
		{list("a=?b", "a", "b"), `"a=?b" <a@b>`},
		{list("=?utf-8?q?a?=", "a", "b"), `"=?utf-8?q?a?=" <a@b>`},
		{list("= ?", "a", "b"), "= ? <a@b>"},
		{list("?= =", "a", "b"), "?= = <a@b>"},
		{list("\u00fc", "a", "b"), "=?utf-8?B?w7w=?= <a@b>"},
		{list("a\tb", "a", "b"), "=?utf-8?B?YQli?= <a@b>"},
		{list("a\n", "a", "b"), "=?utf-8?B?YQo=?= <a@b>"},
		{list("\x7f", "a", "b"), "=?utf-8?B?fw==?= <a@b>"},
		{list("\xff", "a", "b"), "=?utf-8?B?77+9?= <a@b>"},
		{list("a, \"\u00fc\" =?", "a", "b"), "=?utf-8?B?YSwgIsO8IiA9Pw==?= <a@b>"},
		{list(strings.Repeat("\u00fc", 30), "a", "b"), "=?utf-8?B?" + strings.Repeat("w7zDvMO8", 7) + "w7w=?= =?utf-8?B?" + strings.Repeat("w7zDvMO8", 2) + "w7zDvA==?= <a@b>"},
		// addresses that are not valid
		{list("", "", ""), `""@`},
		{list("x", "", "b"), `x <""@b>`},
		{list("", "a b", "c"), `"a b"@c`},
		{list("", "\u00fc\x00\xff", "c"), "\"\u00fc\x00\xff\"@c"},
		{list("", "a", ".b, \"c"), `a@.b, "c`}, // a Domain as it is
		{list("", strings.Repeat("l", 100), "b"), strings.Repeat("l", 100) + "@b"},
	} {
		expectWrite(t, x.l, x.want)
		if got := written(x.l); got != x.want {
			t.Errorf("the model has %.500q for %.300q", got, x.l)
		}
	}
}

func TestWriteByDefinition(t *testing.T) { // P10.2
	check := func(all ...string) {
		t.Helper()
		expectWrite(t, list(all...), written(list(all...)))
	}
	for _, c := range eachByte() {
		for _, s := range []string{c, c + "a", "a" + c, "a" + c + "b", c + `\"`, c + " a", "a.b" + c + "c", "a b" + c + "c d"} {
			check(s, "a", "b")
			check("", s, "b")
			check("x", "a", s, s, s, s)
		}
	}
	upTo(6, []string{"a", " ", ".", `"`, `\`, "=", "?"}, func(s string) {
		check(s, s, "b")
	})
	for _, s := range someTexts() {
		check(s, "a", "b", s, s, s)
	}
}

// withValid returns whether an address is valid; the results of the other functions must fit.
func withValid(t *testing.T, local, domain string) bool {
	t.Helper()
	a := api.Address{Local: local, Domain: domain}
	valid := addr.Valid(a)
	key := ""
	if valid {
		key = lowered(local + "@" + domain)
	}
	for _, name := range []string{"", "x", "\xff", ", <"} {
		a.Name = name
		if got := addr.Key(a); got != key || addr.Valid(a) != valid {
			t.Errorf("Key(%.300q) = %.300q, want %.300q", a, got, key)
		}
	}
	whole := local + "@" + domain
	if strings.Contains(domain, "@") {
		return valid
	}
	if l, d := addr.Split(whole); l != local || d != domain {
		t.Errorf("Split(%.300q) = %.300q, %.300q", whole, l, d)
	}
	a.Name = ""
	good := valid && lowered(whole) == whole
	if !good {
		a = api.Address{}
	}
	if got, ok := addr.Of(whole); got != a || ok != good {
		t.Errorf("Of(%.300q) = %.300q, %v", whole, got, ok)
	}
	return valid
}

// lowered is the definition of lower case.
func lowered(s string) string {
	b := []byte(s)
	for i, c := range b {
		if at := strings.IndexByte(upperCase, c); at >= 0 {
			b[i] = lowerCase[at]
		}
	}
	return string(b)
}

func TestValid(t *testing.T) { // P10.3
	for _, x := range []struct {
		local, domain string
		valid         bool
	}{
		{"a", "b", true},
		{"", "b", false},
		{"a", "", false},
		{"", "", false},
		{"a@b", "c", true},
		{"a", "b@c", false},
		{"..", "b", true},
		{`"(),:;<>@[\]`, "b", true},
		{"a b", "c", false},
		{"a\x7f", "c", false},
		{"\u00fc", "c", false},
		{"a", "b.c", true},
		{"a", ".", false},
		{"a", ".b", false},
		{"a", "b.", false},
		{"a", "b..c", false},
		{"a", "b c", false},
		{"a", "[1.2]", false},
		{"a", atomBytes + "." + atomBytes, true},
		{strings.Repeat("a", 64), "b", true},
		{strings.Repeat("a", 65), "b", false},
		{strings.Repeat("\u00fc", 32), "b", false},
		{"a", strings.Repeat("b", 255), true},
		{"a", strings.Repeat("b", 256), false},
		{"a", strings.Repeat("b.", 127) + "b", true},
		{"a", strings.Repeat("b.", 127) + "bc", false},
		{strings.Repeat("a", 64), strings.Repeat("b", 255), true},
	} {
		if got := withValid(t, x.local, x.domain); got != x.valid || isValid(api.Address{Local: x.local, Domain: x.domain}) != x.valid {
			t.Errorf("Valid of %.300q at %.300q: %v", x.local, x.domain, got)
		}
	}
	for i, c := range eachByte() {
		inLocal := i >= 33 && i <= 126
		inDomain := strings.Contains(atomBytes, c)
		for _, s := range []string{c, c + "a", "a" + c, "a" + c + "b"} {
			if withValid(t, s, "b") != inLocal {
				t.Errorf("Valid with the Local %q: %v", s, !inLocal)
			}
			if got := withValid(t, "a", s); got != (inDomain || s == "a.b") {
				t.Errorf("Valid with the Domain %q: %v", s, got)
			}
		}
	}
	check := func(local, domain string) {
		if got := withValid(t, local, domain); got != isValid(api.Address{Local: local, Domain: domain}) {
			t.Errorf("Valid of %.300q at %.300q: %v", local, domain, got)
		}
	}
	upTo(5, []string{".", "a", "@", " ", "B"}, func(s string) {
		check(s, "b")
		check("a", s)
		check(s, s)
	})
	for _, s := range someTexts() {
		check(s, "b")
		check("a", s)
		check(s, s)
	}
	for n := range 300 {
		check(strings.Repeat("a", n), "b")
		check("a", strings.Repeat("b", n))
		check("a", "b"+strings.Repeat(".b", n))
	}
}

func TestKey(t *testing.T) { // P10.3
	for _, x := range []struct {
		a    api.Address
		want string
	}{
		{api.Address{Name: "Jo", Local: "Jo.Q", Domain: "A.Example"}, "jo.q@a.example"},
		{api.Address{Local: upperCase, Domain: upperCase}, lowerCase + "@" + lowerCase},
		{api.Address{Local: "A@B", Domain: "C"}, "a@b@c"},
		{api.Address{Local: `"A \`, Domain: "C"}, ""},
		{api.Address{Local: `"A\`, Domain: "C"}, `"a\@c`}, // no quoted string
		{api.Address{Local: "a", Domain: "\u212a"}, ""},
		{api.Address{}, ""},
	} {
		if got := addr.Key(x.a); got != x.want {
			t.Errorf("Key(%q) = %q", x.a, got)
		}
	}
}

func TestSplit(t *testing.T) { // P10.3
	for key, want := range map[string][2]string{
		"":           {"", ""},
		"a":          {"a", ""},
		"a@b":        {"a", "b"},
		"a@b@c":      {"a@b", "c"},
		"@":          {"", ""},
		"@@":         {"@", ""},
		"@b":         {"", "b"},
		"a@":         {"a", ""},
		" A \xff@ B": {" A \xff", " B"},
		"a b.c":      {"a b.c", ""},
		`"a@b"@c`:    {`"a@b"`, "c"},
		"a\uff20b":   {"a\uff20b", ""},
	} {
		if local, domain := addr.Split(key); local != want[0] || domain != want[1] {
			t.Errorf("Split(%q) = %q, %q", key, local, domain)
		}
	}
	for _, c := range eachByte() {
		local, domain := "x"+c+"y", ""
		if c == "@" {
			local, domain = "x", "y"
		}
		if l, d := addr.Split("x" + c + "y"); l != local || d != domain {
			t.Errorf("Split with %q: %q, %q", c, l, d)
		}
	}
}

func TestOf(t *testing.T) { // P10.3
	for key, want := range map[string]api.Address{
		"a@b":                           {Local: "a", Domain: "b"},
		"a@b@c":                         {Local: "a@b", Domain: "c"},
		"jo.q+x@a.example":              {Local: "jo.q+x", Domain: "a.example"},
		`"\()@c`:                        {Local: `"\()`, Domain: "c"},
		strings.Repeat("l", 64) + "@b":  {Local: strings.Repeat("l", 64), Domain: "b"},
		"a@" + strings.Repeat("b", 255): {Local: "a", Domain: strings.Repeat("b", 255)},
	} {
		if got, ok := addr.Of(key); got != want || !ok {
			t.Errorf("Of(%q) = %q, %v", key, got, ok)
		}
		if got := addr.Key(want); got != key {
			t.Errorf("Key(%q) = %q", want, got)
		}
	}
	for _, key := range []string{
		"", "a", "@", "@b", "a@", "A@b", "a@B", "a b@c", "a@b c", "a@b.", " a@b", "a@b\n", "Jo <jo@b>", "<a@b>", "a@b, c@d", "\u00fc@b", "a@\u00fc",
		strings.Repeat("l", 65) + "@b", "a@" + strings.Repeat("b", 256),
	} {
		if got, ok := addr.Of(key); got != (api.Address{}) || ok {
			t.Errorf("Of(%q) = %q, %v", key, got, ok)
		}
	}
	upTo(6, []string{"a", "B", "@", ".", " "}, func(key string) {
		local, domain := addr.Split(key)
		a := api.Address{Local: local, Domain: domain}
		good := isValid(a) && lowered(key) == key
		if !good {
			a = api.Address{}
		}
		if got, ok := addr.Of(key); got != a || ok != good {
			t.Errorf("Of(%q) = %q, %v", key, got, ok)
		}
	})
}

// answers are the results of all functions for a string.
func answers(s string) string {
	l, ok := addr.Parse(s)
	a := api.Address{Name: s, Local: s, Domain: s}
	local, domain := addr.Split(s)
	of, good := addr.Of(s)
	return fmt.Sprintf("%q", []any{l, ok, addr.Write(append(l, a)), addr.Key(a), addr.Valid(a), local, domain, of, good})
}

func TestMemory(t *testing.T) { // P10.4
	texts := append(someTexts(), "a@b", "Jo Q <jo@a.example>, x@b")
	first := make([]string, len(texts))
	for i, s := range texts {
		first[i] = answers(s)
	}
	whole := list("x", "a", "b", "\u00fc", "c d", "e", "", "", "", "behind", "f", "g")
	kept := slices.Clone(whole)
	short := whole[:3]
	var group sync.WaitGroup
	for worker := range 4 { // other calls before and beside a call change nothing
		group.Go(func() {
			random := rand.New(rand.NewSource(int64(worker)))
			for _, i := range random.Perm(len(texts)) {
				if answers(texts[i]) != first[i] {
					t.Errorf("other results for %.80q", texts[i])
				}
				if got := addr.Write(short); got != `x <a@b>, =?utf-8?B?w7w=?= <"c d"@e>, ""@` {
					t.Errorf("Write of the same list: %q", got)
				}
			}
		})
	}
	group.Wait()
	if !slices.Equal(whole, kept) {
		t.Errorf("arguments became %q", whole)
	}
	one, _ := addr.Parse("a@b, c@d")
	two, _ := addr.Parse("a@b, c@d")
	clear(one[:cap(one)])
	if !slices.Equal(two, list("", "a", "b", "", "c", "d")) {
		t.Errorf("two results share memory: %q", two)
	}
	expectParse(t, "a@b, c@d", two, true)
}

// checkBack checks that addresses are read as they were written.
func checkBack(t *testing.T, l []api.Address) {
	t.Helper()
	s := addr.Write(l)
	got, ok := addr.Parse(s)
	if !slices.Equal(got, l) || !ok {
		t.Errorf("Parse(%.500q) = %.300q, %v, want %.300q", s, got, ok, l)
	}
}

func TestBack(t *testing.T) { // P10.5
	checkBack(t, nil)
	var all []api.Address
	add := func(name, local, domain string) {
		t.Helper()
		a := api.Address{Name: name, Local: local, Domain: domain}
		if !addr.Valid(a) || !utf8.ValidString(name) {
			return
		}
		all = append(all, a)
		checkBack(t, []api.Address{a})
	}
	for _, c := range eachByte() {
		for _, s := range []string{c, c + "a", "a" + c, "a" + c + "b", " " + c + " ", c + c, c + `"`, `\` + c} {
			add(s, "a", "b")
			add("", s, "b")
			add("a", s, "b")
			add("", "a", s)
		}
	}
	upTo(5, []string{`"`, `\`, " ", ",", "<", "a", "=?", "("}, func(s string) {
		add(s, "a", "b")
		add(s, s, "b")
		add(s+"\u00fc", s, "b")
	})
	upTo(4, []string{"=?utf-8?q?a?=", " ", "=?utf-8?b?w7w=?=", "x", "\u00fc", "\t"}, func(s string) {
		add(s, "a", "b")
		add(s+strings.Repeat("\U0001f600", 20), "a", "b")
	})
	for n := range 100 {
		add(strings.Repeat("\u20ac", n)+"a", strings.Repeat(`"`, n), "b")
		add(strings.Repeat("a ", n)+"\u00fc", strings.Repeat(".", n), "b")
		add(strings.Repeat("a ", n), "a", strings.Repeat("b.", n)+"c")
	}
	checkBack(t, all)
}

func TestBackOfAny(t *testing.T) { // P10.5: what Parse returned is read again
	check := func(s string) {
		l, _ := addr.Parse(s)
		for _, a := range l {
			if !addr.Valid(a) || !utf8.ValidString(a.Name) {
				t.Errorf("Parse(%.300q) has %.300q", s, a)
			}
		}
		checkBack(t, l)
	}
	upTo(5, []string{`"`, `\`, " ", "=?utf-8?q?=00=22?=", "\xff", "a", "(", ")"}, func(s string) {
		check(s + " <a@b>")
		check("x:" + s + "@b;")
	})
	for _, s := range someTexts() {
		check(s)
		check(s + "<a@b>")
		check(`"` + s + `" <a@b>`)
	}
}

// between are strings that may stand between tokens.
func between() []string {
	return []string{" ", "\t", "\r\n ", "\n", "()", "(x)", "(a@b, <c>; d:)", ` (\)\() `, "((x)(y(z)))", `(")`, "(\u00fc\xff)\r"}
}

func TestBetween(t *testing.T) { // P10.6
	random := rand.New(rand.NewSource(106))
	pieces := []string{"a", "b.c", "=?utf-8?q?=C3=BC?=", `"q"`, `"a, \"b"`, `""`, "<", ">", "@", ",", ";", ":", "@b", "a@b", "Jo <a@b>", "x: a@b;", ")", "\xff"}
	for range 20000 {
		tight, loose := "", ""
		for i := range random.Intn(9) {
			piece := pieces[random.Intn(len(pieces))]
			gap := randomOf(random, 1+random.Intn(3), between())
			tight += " " + piece
			loose += gap + piece
			if i%3 == 0 {
				loose += gap
			}
		}
		loose += " "
		want, ok := addr.Parse(tight)
		expectParse(t, loose, want, ok)
	}
	for _, gap := range between() { // also where nothing need stand between them
		g := func(parts ...string) string { return gap + strings.Join(parts, gap) + gap }
		expectParse(t, g("Jo", `"Q"`, "<", "jo", "@", "a.example", ">", ",", "x", "@", "b", ";", "y", ":", `"z"`, "@", "c"), list("Jo Q", "jo", "a.example", "", "x", "b", "", "z", "c"), true)
		expectParse(t, g("Jo", "<", "jo", "@", "a.example", ">", ">"), nil, false)
	}
}

func TestOffences(t *testing.T) { // P10.6
	offences := []string{"nobody", "a@", "@b", "x <a@b", "a@b>", ")", "<>", `""@b`, "\u00fc@b", "a@b.", "a b@c", `"only"`, "a@b:", ":", "x <a@b> y", "<a@b>:", "a@b c@d", `"\""`, "a)()", "x y"}
	for i, offence := range offences {
		another := offences[(i+1)%len(offences)]
		for _, sign := range []string{",", ";", " ; , "} {
			s := "Jo <jo@b>" + sign + offence + sign + "x: c@d" + sign + another + sign + `"e"@f`
			expectParse(t, s, list("Jo", "jo", "b", "", "c", "d", "", "e", "f"), false)
			expectParse(t, offence+sign+"a@b", list("", "a", "b"), false)
			expectParse(t, "a@b"+sign+offence, list("", "a", "b"), false)
		}
	}
	for _, open := range []string{`"`, `"x\"`, "(", "(x(y)", `(\)`} { // but what is not ended takes the rest
		expectParse(t, "a@b, "+open+", c@d", list("", "a", "b"), false)
	}
}

func TestLong(t *testing.T) { // P10.1 to P10.3: the time grows with the length only, also with deep comments
	const size = 1 << 19
	start := time.Now()
	for _, piece := range []string{"a", " ", "(", ")", "()", `"`, `""`, `\`, "<", ">", ",", ":", ";", "@", ".", "a@b,", "a ", `a "b" `, "=?", "=?utf-8?q?a?= ", "=?utf-8?q?a?=", "\u00fc", "\xff", "x:", "a.b@c.d "} {
		s := strings.Repeat(piece, size/len(piece))
		for _, whole := range []string{s, s + "<a@b>", `"` + s, "(" + s, "<" + s, "a@b, " + s, s + "@b", "a@" + s} {
			addr.Parse(whole)
			addr.Split(whole)
			addr.Of(whole)
		}
		addr.Write(list(s, s, s))
		addr.Key(api.Address{Local: s, Domain: s})
	}
	const deep = 1 << 20
	comment := strings.Repeat("(", deep) + strings.Repeat(")", deep)
	expectParse(t, comment+"a"+comment+"@b, c@d", list("", "a", "b", "", "c", "d"), true)
	expectParse(t, "a@b"+comment+"(, c@d", list("", "a", "b"), false)
	many := slices.Repeat(list("Jo Q", "jo", "a.example", "\u00fc", "a..b", "c"), size/64)
	checkBack(t, many)
	if spent := time.Since(start); spent > 20*time.Second {
		t.Errorf("%v for strings of half a megabyte", spent)
	}
}
