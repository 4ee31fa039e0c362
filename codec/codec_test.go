package codec_test

import (
	"encoding/base64"
	"fmt"
	"io"
	"math/rand"
	"mime/quotedprintable"
	"net/url"
	"regexp"
	"slices"
	"strings"
	"sync"
	"testing"
	"time"

	"missive/codec"
)

const (
	digits64 = "ABCDEFGHIJKLMNOPQRSTUVWXYZabcdefghijklmnopqrstuvwxyz0123456789+/"
	white    = "\t\n\r "
)

// upTo calls visit with all strings of at most n of the bytes of alphabet.
func upTo(n int, alphabet string, visit func(string)) {
	buf := make([]byte, 0, n)
	var extend func()
	extend = func() {
		visit(string(buf))
		if len(buf) == n {
			return
		}
		for i := range len(alphabet) {
			buf = append(buf, alphabet[i])
			extend()
			buf = buf[:len(buf)-1]
		}
	}
	extend()
}

// eachByte returns each byte as a string.
func eachByte() []string {
	out := make([]string, 256)
	for i := range out {
		out[i] = string([]byte{byte(i)})
	}
	return out
}

// allBytes is each byte once.
func allBytes() string { return strings.Join(eachByte(), "") }

// randomOf returns n random bytes of alphabet.
func randomOf(random *rand.Rand, n int, alphabet string) string {
	b := make([]byte, n)
	for i := range b {
		b[i] = alphabet[random.Intn(len(alphabet))]
	}
	return string(b)
}

// someTexts are strings of many lengths and kinds, the same ones in each run.
func someTexts() []string {
	random := rand.New(rand.NewSource(7))
	var out []string
	for _, alphabet := range []string{allBytes(), "a", "a ", "ab=\n", " \t\r\n", "a \t\r\n=", "aaaaaaaaaaaaaaaaaaaaaaaaaaaaaaaa\xc3\xa9\n ", "=4aF\n", "%4aF+", "\x00", "\xff"} {
		for n := range 160 {
			out = append(out, randomOf(random, n, alphabet))
		}
		out = append(out, randomOf(random, 1000, alphabet))
	}
	return append(out, allBytes(), "Man\n", "caf\u00e9, 10 \u20ac\r\n", "=?utf-8?B?w6k=?=", "From here\n.\n", strings.Repeat("word ", 100)+"\n")
}

// someWrong are strings that look like encodings, most of them damaged.
func someWrong() []string {
	random := rand.New(rand.NewSource(8))
	var out []string
	for _, alphabet := range []string{digits64, digits64 + "=", digits64 + white, "Ab+/=\n !", "=4aF \t\r\nx\x7f", "%4aF+x", "=%+ \n", allBytes()} {
		for n := range 120 {
			out = append(out, randomOf(random, n, alphabet))
		}
	}
	for _, s := range someTexts() {
		for _, coded := range []string{codec.Base64(s), codec.Quoted(s), codec.Percent(s)} {
			if coded != "" {
				at := random.Intn(len(coded))
				out = append(out, coded[:at], coded[at:], coded[:at]+randomOf(random, 1, allBytes())+coded[at+1:])
			}
		}
	}
	return out
}

// wrapped is Go's base64 in lines of 76 digits.
func wrapped(s string) string {
	coded, out := base64.StdEncoding.EncodeToString([]byte(s)), ""
	for len(coded) > 76 {
		out += coded[:76] + "\n"
		coded = coded[76:]
	}
	if coded != "" {
		out += coded + "\n"
	}
	return out
}

func TestBase64(t *testing.T) { // P7.1
	for s, want := range map[string]string{
		"":             "",
		"Man\n":        "TWFuCg==\n",
		"M":            "TQ==\n",
		"Ma":           "TWE=\n",
		"Man":          "TWFu\n",
		"\x00":         "AA==\n",
		"\x00\x00":     "AAA=\n",
		"\x00\x00\x00": "AAAA\n",
		"\xff":         "/w==\n",
		"\xff\xff":     "//8=\n",
		"\xff\xff\xff": "////\n",
		"\xfb\xef\xbe": "++++\n",
		"\x80\x00\x01": "gAAB\n",
		"\u00e9":       "w6k=\n",
		"\x00\x10\x83\x10Q\x87 \x92\x8b0\xd3\x8fA\x14\x93QU\x97a\x96\x9bq\xd7\x9f\x82\x18\xa3\x92Y\xa7\xa2\x9a\xab\xb2\xdb\xaf\xc3\x1c\xb3\xd3]\xb7\xe3\x9e\xbb\xf3\xdf\xbf": digits64 + "\n",
		strings.Repeat("x", 56): strings.Repeat("eHh4", 18) + "eHg=\n",
		strings.Repeat("x", 57): strings.Repeat("eHh4", 19) + "\n", // a whole line
		strings.Repeat("x", 58): strings.Repeat("eHh4", 19) + "\neA==\n",
		strings.Repeat("x", 59): strings.Repeat("eHh4", 19) + "\neHg=\n",
		strings.Repeat("x", 60): strings.Repeat("eHh4", 19) + "\neHh4\n",
	} {
		if got := codec.Base64(s); got != want {
			t.Errorf("Base64(%q) = %q, want %q", s, got, want)
		}
	}
	texts := someTexts()
	for _, a := range eachByte() {
		for _, b := range eachByte() {
			texts = append(texts, a+b, "\x00"+a+b, a+b+"\xff", a+"\x55"+b)
		}
		texts = append(texts, a)
	}
	for n := range 600 {
		texts = append(texts, strings.Repeat("\xa5", n))
	}
	for _, s := range texts {
		if got, want := codec.Base64(s), wrapped(s); got != want {
			t.Errorf("Base64(%.80q) = %.200q, want %.200q", s, got, want)
		}
	}
}

// unbase64 is the definition, with numbers as strings of bits.
func unbase64(s string) (string, bool) {
	for i := range len(white) {
		s = strings.ReplaceAll(s, white[i:i+1], "")
	}
	n := len(s)
	if at := strings.IndexFunc(s, func(r rune) bool { return !strings.ContainsRune(digits64, r) }); at >= 0 {
		n = at
	}
	out := ""
	for group := range slices.Chunk([]byte(s[:n]), 4) {
		bits := ""
		for _, c := range group {
			bits += fmt.Sprintf("%06b", strings.IndexByte(digits64, c))
		}
		for ; len(bits) >= 8; bits = bits[8:] {
			var x byte
			fmt.Sscanf(bits[:8], "%b", &x)
			out += string([]byte{x})
		}
	}
	return out, s[n:] == []string{"", "not with a last digit", "==", "="}[n%4]
}

// expectUnbase64 checks what Unbase64 returns.
func expectUnbase64(t *testing.T, s, want string, sound bool) {
	t.Helper()
	if got, ok := codec.Unbase64(s); got != want || ok != sound {
		t.Errorf("Unbase64(%.100q) = %.100q, %v; want %.100q, %v", s, got, ok, want, sound)
	}
}

func TestUnbase64(t *testing.T) { // P7.2
	for s, want := range map[string]string{
		"":                           "",
		" \t\r\n":                    "",
		"TWFuCg==":                   "Man\n",
		"TWFuCg==\n":                 "Man\n",
		"TWFu\r\nCg==\r\n":           "Man\n",
		" T W\tF\nu\rC g = = ":       "Man\n",
		"TWE=":                       "Ma",
		"TWE\n=":                     "Ma",
		"TWF=":                       "Ma", // superfluous bits
		"TQ=\n=\n":                   "M",
		"TX==":                       "M",
		"T///":                       "O\xff\xff",
		"////":                       "\xff\xff\xff",
		"+/+/":                       "\xfb\xff\xbf",
		"TWFu" + digits64[:4]:        "Man\x00\x10\x83",
		strings.Repeat("TWFu", 1000): strings.Repeat("Man", 1000), // no line ends at all
	} {
		expectUnbase64(t, s, want, true)
	}
	for s, want := range map[string]string{
		"TWFu Cg":     "Man\n", // the padding is missing
		"TWFu!":       "Man",
		"TWFuCg=":     "Man\n",
		"TWFuCg===":   "Man\n",
		"TWFuCg====":  "Man\n",
		"TWFu=":       "Man",
		"TWFu==":      "Man",
		"TWFu====":    "Man",
		"TWE":         "Ma",
		"TWE==":       "Ma",
		"TWE=TWFu":    "Ma", // nothing counts behind the padding
		"TWE=!":       "Ma",
		"TWE=\n!":     "Ma",
		"TQ==TQ==":    "M",
		"TQ==T":       "M",
		"TQ=T=":       "M",
		"TQ=!=":       "M",
		"T":           "",
		"T=":          "",
		"T==":         "",
		"T===":        "",
		"TWFuT":       "Man",
		"TWFuT=":      "Man",
		"TWFuT===":    "Man",
		"=":           "",
		"==":          "",
		"===":         "",
		"====":        "",
		"!":           "",
		"=TWFu":       "",
		"!TWFu":       "",
		"TW!Fu":       "M", // the digits in front of the first other byte only
		"TWF!u":       "Ma",
		"TWFu!TWFu":   "Man",
		"TWFu-TWFu":   "Man",
		"TWFu_":       "Man",
		"TWFu\x00":    "Man",
		"TWFu\v":      "Man", // not white
		"TWFu\u00a0":  "Man",
		"\u0130TWFu":  "",
		"TWFu.":       "Man",
		"\xffTWFu":    "",
		"TWE=\x00":    "Ma",
		"TWE=\u2003":  "Ma",
		"TWFu\nTWE==": "ManMa",
	} {
		expectUnbase64(t, s, want, false)
	}
	for _, c := range eachByte() {
		for _, s := range []string{c, "TWF" + c, "TW" + c + "u", "T" + c + "F=", c + c + c + c, "TQ=" + c, "TQ=" + c + "=", "TQ==" + c, "TWFu" + c} {
			want, sound := unbase64(s)
			expectUnbase64(t, s, want, sound)
		}
	}
	upTo(6, "A9+/= !", func(s string) {
		want, sound := unbase64(s)
		expectUnbase64(t, s, want, sound)
	})
	for _, s := range someWrong() {
		want, sound := unbase64(s)
		expectUnbase64(t, s, want, sound)
	}
}

// quotedForms are the bytes of a part in their forms.
func quotedForms(part string) []string {
	var out []string
	for i := range len(part) {
		c := part[i]
		switch {
		case c == '=', c < 32 && c != 9, c > 126, (c == 9 || c == 32) && i == len(part)-1:
			out = append(out, fmt.Sprintf("=%02X", c))
		default:
			out = append(out, part[i:i+1])
		}
	}
	return out
}

// quoted is the definition: as long as the rest of a part is too long for a line, as much of it as possible is put on one of 75 bytes.
func quoted(s string) string {
	parts := strings.Split(s, "\n")
	for i, part := range parts {
		forms, out := quotedForms(part), ""
		for len(strings.Join(forms, "")) > 76 {
			n := 0
			for len(strings.Join(forms[:n+1], "")) <= 75 {
				n++
			}
			out += strings.Join(forms[:n], "") + "=\n"
			forms = forms[n:]
		}
		parts[i] = out + strings.Join(forms, "")
	}
	return strings.Join(parts, "\n")
}

// expectQuoted checks what Quoted returns.
func expectQuoted(t *testing.T, s, want string) {
	t.Helper()
	if got := codec.Quoted(s); got != want {
		t.Errorf("Quoted(%.100q) = %.200q, want %.200q", s, got, want)
	}
}

func TestQuoted(t *testing.T) { // P7.3
	x := func(n int) string { return strings.Repeat("x", n) }
	for s, want := range map[string]string{
		"":                           "",
		"a":                          "a",
		"\n":                         "\n",
		"\n\n":                       "\n\n",
		"a\nb":                       "a\nb",
		"a=\u00e9 \n":                "a=3D=C3=A9=20\n",
		" ":                          "=20",
		"\t":                         "=09",
		"a b\tc":                     "a b\tc",
		" a":                         " a",
		"a ":                         "a=20",
		"a\t":                        "a=09",
		"a  ":                        "a =20", // only the last one has no next byte
		"a \t\nb":                    "a =09\nb",
		"a\t \n":                     "a\t=20\n",
		" \n ":                       "=20\n=20",
		"a \r\n":                     "a =0D\n",
		"a\r\nb\r":                   "a=0D\nb=0D",
		"\x00\x1f\x7f\x80\xff":       "=00=1F=7F=80=FF",
		"!\"~}<>":                    "!\"~}<>",
		"=":                          "=3D",
		"=\n":                        "=3D\n",
		"=3D":                        "=3D3D",
		x(75):                        x(75),
		x(76):                        x(76), // the last byte of its part
		x(77):                        x(75) + "=\nxx",
		x(76) + "\n" + x(76):         x(76) + "\n" + x(76),
		x(77) + "\n" + x(3):          x(75) + "=\nxx\nxxx",
		x(150):                       x(75) + "=\n" + x(75),
		x(151):                       x(75) + "=\n" + x(76),
		x(152):                       x(75) + "=\n" + x(75) + "=\nxx",
		x(73) + "=":                  x(73) + "=3D",
		x(73) + "=\n":                x(73) + "=3D\n",
		x(73) + "=x":                 x(73) + "=\n=3Dx",
		x(74) + "=":                  x(74) + "=\n=3D", // a form is not divided
		x(72) + "=x":                 x(72) + "=3Dx",
		x(72) + "=xx":                x(72) + "=3D=\nxx",
		x(73) + " ":                  x(73) + "=20",
		x(74) + " ":                  x(74) + "=\n=20",
		x(74) + " x":                 x(74) + " x",
		x(75) + " x":                 x(75) + "=\n x",
		x(74) + " xx":                x(74) + " =\nxx", // a space in front of a line break stays
		x(75) + "\n":                 x(75) + "\n",
		strings.Repeat("\u00e9", 13): strings.Repeat("=C3=A9", 12) + "=C3=\n=A9",
		strings.Repeat("=", 25):      strings.Repeat("=3D", 25),
		strings.Repeat("=", 26):      strings.Repeat("=3D", 25) + "=\n=3D",
	} {
		expectQuoted(t, s, want)
	}
	for _, c := range eachByte() {
		for _, s := range []string{c, c + "a", c + "\n", c + c, "\n" + c, c + "\r\n", x(72) + c + c, x(73) + c, x(74) + c, x(74) + c + "a", x(75) + c, x(75) + c + "\n", x(76) + c} {
			expectQuoted(t, s, quoted(s))
		}
	}
	upTo(6, "a= \r\n", func(s string) { expectQuoted(t, s, quoted(s)) })
	for n := 66; n <= 80; n++ {
		upTo(5, "a= \n", func(s string) {
			expectQuoted(t, x(n)+s, quoted(x(n)+s))
		})
		upTo(2, "a= \n", func(s string) {
			whole := x(n) + s + x(n-n%3) + s + "\n" + x(n) + s
			expectQuoted(t, whole, quoted(whole))
		})
	}
	for _, s := range someTexts() {
		expectQuoted(t, s, quoted(s))
	}
}

// quotedParts are, in this order: a coded byte, a break, blanks in front of a line end, and any other byte.
var quotedParts = regexp.MustCompile(`(?s)^(?:=([0-9A-Fa-f]{2})|(=[ \t]*(?:\r?\n|$))|[ \t]+(\r?\n|$)|(.))`)

// unquoted is the definition, by a regular expression.
func unquoted(s string) (string, bool) {
	out, sound := "", true
	for s != "" {
		m := quotedParts.FindStringSubmatch(s)
		switch {
		case m[1] != "":
			var x byte
			fmt.Sscanf(m[1], "%x", &x)
			out += string([]byte{x})
		case m[2] != "":
		case m[4] == "":
			out += m[3]
		default:
			out += m[4]
			sound = sound && (" " <= m[4] && m[4] <= "~" && m[4] != "=" || strings.Contains(white, m[4]))
		}
		s = s[len(m[0]):]
	}
	return out, sound
}

// expectUnquoted checks what Unquoted returns.
func expectUnquoted(t *testing.T, s, want string, sound bool) {
	t.Helper()
	if got, ok := codec.Unquoted(s); got != want || ok != sound {
		t.Errorf("Unquoted(%.100q) = %.100q, %v; want %.100q, %v", s, got, ok, want, sound)
	}
}

func TestUnquoted(t *testing.T) { // P7.4
	for s, want := range map[string]string{
		"":                    "",
		"abc":                 "abc",
		"a=3D=C3=A9=20\n":     "a=\u00e9 \n",
		"=c3=a9=C3=a9":        "\u00e9\u00e9", // digits of either case
		"=00=ff=7F=0a":        "\x00\xff\x7f\n",
		"=3D3D":               "=3D", // nothing is decoded twice
		"a=\nb":               "ab",
		"a=\r\nb":             "ab",
		"a= \t \nb":           "ab",
		"a=\t\r\nb":           "ab",
		"a=\n=\n=\nb":         "ab",
		"a=\n\nb":             "a\nb",
		"a=\n \nb":            "a\nb",
		"a=\n b":              "a b",
		"a=":                  "a",
		"a= \t":               "a",
		"a =":                 "a ", // the blank stands in front of the =
		"a =\nb":              "a b",
		"a \t=\r\n\tb":        "a \t\tb",
		"=":                   "",
		"=\n":                 "",
		"=\n=":                "",
		"a ":                  "a",
		" ":                   "",
		" \t \t":              "",
		"a \t\nb":             "a\nb",
		"a \t\r\nb \r\n":      "a\r\nb\r\n", // the line end stays as it is
		"a  b\tc":             "a  b\tc",
		" a":                  " a",
		"a \r":                "a \r", // a CR alone ends no line
		"a \rb":               "a \rb",
		"a \r\r\n":            "a \r\r\n",
		"a \r\n":              "a\r\n",
		"\n\n \n":             "\n\n\n",
		"a=20 \nb":            "a \nb", // a coded blank stays
		"a =20\nb":            "a  \nb",
		"a=09":                "a\t",
		"a=0D=0Ab":            "a\r\nb",
		"a =0D\nb":            "a \r\nb",
		" !~}\t\r":            " !~}\t\r",
		"=3D=\n=3D= \n=3D=":   "===",
		"a=3D\r\n=3D \r\n=3D": "a=\r\n=\r\n=",
	} {
		expectUnquoted(t, s, want, true)
	}
	for s, want := range map[string]string{
		"a=\nb=4z ":     "ab=4z",
		"=4":            "=4",
		"=4\n1":         "=4\n1",
		"=g1":           "=g1",
		"=1g":           "=1g",
		"= 41":          "= 41",
		"==41":          "=A",
		"==":            "=", // the last one ends the string
		"==\nb":         "=b",
		"= =\nb":        "= b",
		"=x":            "=x",
		"=x=41=4=42":    "=xA=4B",
		"= \t x":        "= \t x",
		"= \r":          "= \r",
		"=\r":           "=\r",
		"=\rb":          "=\rb",
		"=\r\r\n":       "=\r\r\n",
		"=\r \n":        "=\r\n",
		"=\x0bb":        "=\x0bb",
		"a\x00b":        "a\x00b",
		"a\x1fb":        "a\x1fb",
		"a\x0bb":        "a\x0bb",
		"a\x0cb":        "a\x0cb",
		"a\x7fb":        "a\x7fb",
		"a\u00e9b":      "a\u00e9b",
		"\xff":          "\xff",
		"\xff \n=41":    "\xff\nA", // the rest is decoded
		"a \u00a0\n":    "a \u00a0\n",
		"=\u0661\u0661": "=\u0661\u0661", // not these digits
		"=\r\n=3":       "=3",            // one digit is not enough
	} {
		expectUnquoted(t, s, want, false)
	}
	for _, c := range eachByte() {
		for _, s := range []string{c, "a" + c + "b", "=" + c, "=4" + c, "=" + c + "1", "=" + c + c, " " + c, " " + c + "\n", "=" + c + "\n", "= " + c + "\n", "a" + c + "\n", c + "\nb", "=4" + c + "1", "=41" + c} {
			want, sound := unquoted(s)
			expectUnquoted(t, s, want, sound)
		}
	}
	check := func(s string) {
		want, sound := unquoted(s)
		expectUnquoted(t, s, want, sound)
	}
	upTo(5, "=4Fx \t\r\n", check)
	upTo(7, "= \r\n", check)
	for _, s := range someWrong() {
		want, sound := unquoted(s)
		expectUnquoted(t, s, want, sound)
	}
}

// expectPercent checks what Percent returns.
func expectPercent(t *testing.T, s, want string) {
	t.Helper()
	if got := codec.Percent(s); got != want {
		t.Errorf("Percent(%.100q) = %.100q, want %.100q", s, got, want)
	}
}

func TestPercent(t *testing.T) { // P7.5
	for s, want := range map[string]string{
		"":                     "",
		"a b/c%":               "a+b%2Fc%25",
		"azAZ09-._~":           "azAZ09-._~",
		" + ":                  "+%2B+",
		"=&;?#":                "%3D%26%3B%3F%23",
		"*'()!@[]{}|^`\"\\<>,": "%2A%27%28%29%21%40%5B%5D%7B%7D%7C%5E%60%22%5C%3C%3E%2C",
		"\u00e9\n\x00\xff":     "%C3%A9%0A%00%FF",
		"\r\n\t":               "%0D%0A%09",
		"%41":                  "%2541",
	} {
		expectPercent(t, s, want)
	}
	for _, s := range append(someTexts(), eachByte()...) {
		expectPercent(t, s, url.QueryEscape(s)) // the same rules
	}
}

var percentParts = regexp.MustCompile(`(?s)%[0-9A-Fa-f]{2}|.`)

// unpercent is the definition, by a regular expression.
func unpercent(s string) (string, bool) {
	out, sound := "", true
	for _, part := range percentParts.FindAllString(s, -1) {
		switch {
		case part == "+":
			out += " "
		case len(part) == 3 && part[0] == '%':
			var x byte
			fmt.Sscanf(part[1:], "%x", &x)
			out += string([]byte{x})
		default:
			out += part
			sound = sound && part != "%"
		}
	}
	return out, sound
}

// expectUnpercent checks what Unpercent returns.
func expectUnpercent(t *testing.T, s, want string, sound bool) {
	t.Helper()
	if got, ok := codec.Unpercent(s); got != want || ok != sound {
		t.Errorf("Unpercent(%.100q) = %.100q, %v; want %.100q, %v", s, got, ok, want, sound)
	}
}

func TestUnpercent(t *testing.T) { // P7.5
	for s, want := range map[string]string{
		"":                   "",
		"a+b%2Fc":            "a b/c",
		"a+b%2fc":            "a b/c",
		"%2B+%2b":            "+ +",
		"%2541":              "%41", // nothing is decoded twice
		"%C3%a9%0A%00%fF":    "\u00e9\n\x00\xff",
		"++":                 "  ",
		"%20":                " ",
		"a b\r\n\x00\u00e9=": "a b\r\n\x00\u00e9=", // other bytes are as they are
	} {
		expectUnpercent(t, s, want, true)
	}
	for s, want := range map[string]string{
		"a+b%2Fc%":  "a b/c%",
		"%":         "%",
		"%%":        "%%",
		"%4":        "%4",
		"%g1":       "%g1",
		"%1g":       "%1g",
		"%1+":       "%1 ",
		"%+1":       "% 1",
		"%%41":      "%A",
		"%4%41":     "%4A",
		"%41%":      "A%",
		"% 41":      "% 41",
		"%-1":       "%-1",
		"%\xff\xff": "%\xff\xff",
		"%u0041":    "%u0041",
	} {
		expectUnpercent(t, s, want, false)
	}
	for _, c := range eachByte() {
		for _, s := range []string{c, "a" + c, "%" + c, "%4" + c, "%" + c + "1", "%" + c + c, "%4" + c + "1", "%41" + c} {
			want, sound := unpercent(s)
			expectUnpercent(t, s, want, sound)
		}
	}
	upTo(5, "%4Fx+ ", func(s string) {
		want, sound := unpercent(s)
		expectUnpercent(t, s, want, sound)
	})
	for _, s := range someWrong() {
		want, sound := unpercent(s)
		expectUnpercent(t, s, want, sound)
		if want, err := url.QueryUnescape(s); err == nil {
			expectUnpercent(t, s, want, true)
		}
	}
}

// answers are the results of all functions for a string.
func answers(s string) [9]any {
	a, aOK := codec.Unbase64(s)
	b, bOK := codec.Unquoted(s)
	c, cOK := codec.Unpercent(s)
	return [9]any{codec.Base64(s), codec.Quoted(s), codec.Percent(s), a, aOK, b, bOK, c, cOK}
}

func TestPure(t *testing.T) { // P7.6
	texts := append(someTexts(), someWrong()...)
	first := make([][9]any, len(texts))
	for i, s := range texts {
		first[i] = answers(s)
	}
	var group sync.WaitGroup
	for worker := range 4 { // other calls before and beside a call change nothing
		group.Go(func() {
			random := rand.New(rand.NewSource(int64(worker)))
			for _, i := range random.Perm(len(texts)) {
				if answers(texts[i]) != first[i] {
					t.Errorf("other results for %.80q", texts[i])
				}
			}
		})
	}
	group.Wait()
}

// expectBack checks that each decoding of an encoding of s is s, and true.
func expectBack(t *testing.T, s string) {
	t.Helper()
	expectUnbase64(t, codec.Base64(s), s, true)
	expectUnquoted(t, codec.Quoted(s), s, true)
	expectUnpercent(t, codec.Percent(s), s, true)
}

func TestBack(t *testing.T) { // P7.7
	for _, s := range someTexts() {
		expectBack(t, s)
	}
	for _, s := range someWrong() {
		expectBack(t, s)
	}
	upTo(6, "a= \r\n", func(s string) { expectBack(t, s) })
	for n := 70; n <= 80; n++ {
		upTo(4, "a= \t\r\n", func(s string) { expectBack(t, strings.Repeat("x", n)+s) })
	}
	for _, a := range eachByte() {
		for _, b := range eachByte() {
			expectBack(t, a+b)
		}
	}
	random := rand.New(rand.NewSource(9))
	for _, s := range someTexts() {
		var b strings.Builder
		for _, c := range codec.Base64(s) {
			b.WriteString(randomOf(random, random.Intn(3), white))
			b.WriteRune(c)
		}
		expectUnbase64(t, b.String()+randomOf(random, random.Intn(3), white), s, true)
	}
}

func TestQuotedByOthers(t *testing.T) { // P7.7: Go's own reader understands Quoted
	for _, s := range someTexts() {
		got, err := io.ReadAll(quotedprintable.NewReader(strings.NewReader(codec.Quoted(s))))
		if err != nil || string(got) != s {
			t.Errorf("%.80q: read as %.80q, %v", s, got, err)
		}
	}
}

func TestLines(t *testing.T) { // P7.8
	check := func(s, coded string, allowed func(byte) bool) {
		for _, line := range strings.Split(coded, "\n") {
			if len(line) > 76 {
				t.Errorf("%.80q: a line of %d bytes", s, len(line))
			}
			for i := range len(line) {
				if !allowed(line[i]) {
					t.Errorf("%.80q: the byte %d in a line", s, line[i])
				}
			}
		}
	}
	all := func(s string) {
		check(s, codec.Base64(s), func(c byte) bool { return 32 <= c && c <= 126 })
		coded := codec.Quoted(s)
		check(s, coded, func(c byte) bool { return 32 <= c && c <= 126 || c == 9 })
		for _, line := range strings.Split(coded, "\n") {
			if strings.HasSuffix(line, " ") || strings.HasSuffix(line, "\t") {
				t.Errorf("%.80q: the line %q", s, line)
			}
		}
	}
	for _, s := range append(someTexts(), someWrong()...) {
		all(s)
	}
	upTo(6, "a= \t\r\n", all)
	for n := 60; n <= 80; n++ {
		upTo(4, "a= \t\n", func(s string) { all(strings.Repeat("x", n) + s) })
	}
}

func TestLong(t *testing.T) { // P7.1 to P7.5: the time grows with the length only
	start := time.Now()
	for _, piece := range []string{"a", "=", " ", "\t", "\n", "\r", "= ", " =", "=\n", " \n", " \r", "= \r", "A=", "A ", "%", "+", "%4", "\xff"} {
		s := strings.Repeat(piece, 1<<18/len(piece))
		for _, whole := range []string{s, "=" + s + "x"} {
			answers(whole)
		}
	}
	if spent := time.Since(start); spent > 30*time.Second {
		t.Errorf("%v for strings of a quarter of a megabyte", spent)
	}
}
