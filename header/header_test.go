package header_test

import (
	"bufio"
	"fmt"
	"math/rand"
	"mime"
	"net/textproto"
	"reflect"
	"regexp"
	"slices"
	"strings"
	"sync"
	"testing"
	"time"

	"missive/api"
	"missive/header"
)

const white = "\t\n\r "

// upTo calls visit with all strings of at most n of the pieces.
func upTo(n int, pieces []string, visit func(string)) {
	visit("")
	if n == 0 {
		return
	}
	for _, piece := range pieces {
		upTo(n-1, pieces, func(s string) {
			visit(piece + s)
		})
	}
}

// eachByte returns each byte as a string.
func eachByte() []string {
	out := make([]string, 256)
	for i := range out {
		out[i] = string([]byte{byte(i)})
	}
	return out
}

// randomOf returns n random pieces.
func randomOf(random *rand.Rand, n int, pieces []string) string {
	out := ""
	for range n {
		out += pieces[random.Intn(len(pieces))]
	}
	return out
}

// someTexts are strings of many lengths and kinds, the same ones in each run.
func someTexts() []string {
	random := rand.New(rand.NewSource(9))
	var out []string
	for _, pieces := range [][]string{
		eachByte(),
		{"a"},
		{"a", " "},
		{"word", " ", "\t", "  "},
		{strings.Repeat("long", 20), " "},
		{strings.Repeat("longer", 50), " ", "\t"},
		{strings.Repeat("x", 77), strings.Repeat("x", 78), " "},
		{"a:", "b", "\n", "\r\n", " "},
		{"Subject: x\n", "To: y\r\n", " more\n", "\t\r\n", "\n", "no field\n"},
		{"Subject: x\r\n", " more \r\n"},
		{`"`, `\`, ";", "=", "a"},
		{"; a=", `"b"`, `"; c=\""`, ";b=2", " "},
	} {
		for n := range 40 {
			out = append(out, randomOf(random, n, pieces))
		}
		out = append(out, randomOf(random, 600, pieces))
	}
	return append(out, strings.Join(eachByte(), ""), strings.Repeat("\u00fc", 700), "text/plain; charset=utf-8; name=\"a b\"", "A: 1\n  2\nb:\n\nx")
}

// fieldList returns fields of names and values in turns.
func fieldList(all ...string) []api.Field {
	var out []api.Field
	for i := 0; i < len(all); i += 2 {
		out = append(out, api.Field{Name: all[i], Value: all[i+1]})
	}
	return out
}

// paramList returns parameters of names and values in turns.
func paramList(all ...string) []api.Param {
	var out []api.Param
	for i := 0; i < len(all); i += 2 {
		out = append(out, api.Param{Name: all[i], Value: all[i+1]})
	}
	return out
}

var (
	fieldForm = regexp.MustCompile(`(?s)^([!-9;-~]+):(.*)$`)
	lineForm  = regexp.MustCompile(`[^\n]*\n|[^\n]+`)
)

// parsed is the definition of Parse.
func parsed(raw string) ([]api.Field, int) {
	var out []api.Field
	end := 0
	for _, line := range lineForm.FindAllString(raw, -1) {
		content := strings.TrimSuffix(strings.TrimSuffix(line, "\n"), "\r")
		if content == "" {
			return out, end + len(line)
		}
		m := fieldForm.FindStringSubmatch(line)
		if m != nil && len(m[1]) <= 200 && len(out) < 400 {
			out = append(out, api.Field{Name: m[1], Value: strings.Trim(m[2], white)})
		} else if strings.ContainsAny(content[:1], " \t") && len(out) > 0 {
			last := &out[len(out)-1]
			more := strings.Trim(content, white)
			if last.Value != "" && more != "" {
				more = " " + more
			}
			last.Value += more
		} else {
			break
		}
		end += len(line)
	}
	return out, end
}

// expectParse checks what Parse returns.
func expectParse(t *testing.T, raw string, fields []api.Field, end int) {
	t.Helper()
	got, n := header.Parse(raw)
	if !slices.Equal(got, fields) || n != end {
		t.Errorf("Parse(%.200q) = %.300q, %d; want %.300q, %d", raw, got, n, fields, end)
	}
}

func TestParse(t *testing.T) { // P9.1
	long := strings.Repeat("n", 200)
	for _, x := range []struct {
		raw    string
		end    int
		fields []api.Field
	}{
		{"", 0, nil},
		{"A: 1\n  2\nb:\n\nx", 13, fieldList("A", "1 2", "b", "")},
		{"A: 1\nno field\n", 5, fieldList("A", "1")},
		{"\n", 1, nil},
		{"\r\n", 2, nil},
		{"\r", 1, nil}, // one CR at the end is no content, either
		{"\r\r\n", 0, nil},
		{"\nA: 1\n", 1, nil}, // the empty line ends an empty header
		{"A: 1", 4, fieldList("A", "1")},
		{"A: 1\r", 5, fieldList("A", "1")},
		{"A: 1\r\n\r\nB: 2\r\n", 8, fieldList("A", "1")},
		{"A: 1\r\n\r", 7, fieldList("A", "1")},
		{"A: 1\n\r\r\nB: 2\n", 5, fieldList("A", "1")}, // a CR as the content
		{"A: 1\nB: 2\n\n\n", 11, fieldList("A", "1", "B", "2")},
		{"A: 1\nA: 2\na: 3\n", 15, fieldList("A", "1", "A", "2", "a", "3")}, // equal names stay
		{"A:1\nB:\t\r 2 \t\r\r\n", 15, fieldList("A", "1", "B", "2")},
		{"A::\nB:b:c\n", 10, fieldList("A", ":", "B", "b:c")}, // the first colon
		{"A: x\r y\n", 8, fieldList("A", "x\r y")},            // no line ends at a CR
		{"A:\x00\xff\u00fc\n", 7, fieldList("A", "\x00\xff\u00fc")},
		{"A:\n 1\n", 6, fieldList("A", "1")}, // behind an empty value there is no space
		{"A:\n \n\t\r\n 1\n  \n2\n", 14, fieldList("A", "1")},
		{"A: 1\n \nB: 2\n", 12, fieldList("A", "1", "B", "2")}, // a continuation is no empty line
		{"A: 1\n \n \n 2\n", 12, fieldList("A", "1 2")},
		{"A: a\n\tb  c \r\n d\n", 16, fieldList("A", "a b  c d")},
		{"A: 1\n B: 2\n", 11, fieldList("A", "1 B: 2")},
		{" A: 1\n", 0, nil}, // a continuation of nothing
		{"\tB\nA: 1\n", 0, nil},
		{" \n\n", 0, nil},
		{" ", 0, nil},
		{"A : 1\n", 0, nil}, // no space in a name
		{"A\t: 1\n", 0, nil},
		{": 1\n", 0, nil}, // no empty name
		{":", 0, nil},
		{"A", 0, nil},
		{"A\n: 1\n", 0, nil}, // the colon must be in the line
		{"A\r: 1\n", 0, nil},
		{"\u00fc: 1\n", 0, nil},
		{"A:", 2, fieldList("A", "")},
		{"A:\n", 3, fieldList("A", "")},
		{"!\"#$%&'()*+,-./09;<=>?@AZ[\\]^_`az{|}~: 1\n", 41, fieldList("!\"#$%&'()*+,-./09;<=>?@AZ[\\]^_`az{|}~", "1")},
		{long + ":1\n", 203, fieldList(long, "1")},
		{long + "n:1\n", 0, nil},
		{"A: 1\n" + long + "n:1\n", 5, fieldList("A", "1")},
		{"From x@example Mon\nA: 1\n", 0, nil},
		{"A: " + strings.Repeat("v", 5000) + "\n", 5004, fieldList("A", strings.Repeat("v", 5000))}, // a long line is a line
	} {
		expectParse(t, x.raw, x.fields, x.end)
		if fields, end := parsed(x.raw); !slices.Equal(fields, x.fields) || end != x.end {
			t.Errorf("the model has %.300q, %d for %.200q", fields, end, x.raw)
		}
	}
}

func TestMaxFields(t *testing.T) { // P9.1
	var fields []api.Field
	raw := ""
	for i := range 400 {
		name := fmt.Sprint("f", i)
		fields = append(fields, api.Field{Name: name, Value: "v"})
		raw += name + ": v\n"
	}
	expectParse(t, raw, fields, len(raw))
	expectParse(t, raw+"f400: v\n", fields, len(raw))
	expectParse(t, raw+"f400: v\n more\n\n", fields, len(raw))
	expectParse(t, raw+"\nf400: v\n", fields, len(raw)+1)
	expectParse(t, raw[:len(raw)-len("f399: v\n")]+"\n", fields[:399], len(raw)-len("f399: v\n")+1)
	longer := slices.Clone(fields)
	longer[399].Value = "v more"
	expectParse(t, raw+" more\n \n\n", longer, len(raw)+9) // continuations of the last field are not more fields
	expectParse(t, raw+" more\nf400: v\n", longer, len(raw)+6)
}

func TestParseByDefinition(t *testing.T) { // P9.1
	check := func(raw string) {
		fields, end := parsed(raw)
		expectParse(t, raw, fields, end)
	}
	upTo(8, []string{"\n", "\r", " ", ":", "a"}, check)
	upTo(6, []string{"\n", "\r\n", " ", "\t", "A:", "b"}, check)
	upTo(3, eachByte()[:40], check)
	for _, s := range []string{"Ab: c\r\n d\n\te: f\nE-2:\n\nx: y\n", "a:\n b\n", "\r\n", " x\na: b"} {
		for i := range len(s) {
			check(s[:i])
			check(s[i:])
			check(s[:i] + s[i+1:])
			for _, c := range eachByte() {
				check(s[:i] + c + s[i:])
				check(s[:i] + c + s[i+1:])
			}
		}
	}
	for n := 195; n < 205; n++ {
		name := strings.Repeat("n", n)
		for _, s := range []string{name, name + ":", name + ":1", " " + name + ":", "a:1\n" + name + ":2\n", name + "\n:"} {
			check(s)
		}
	}
	for _, s := range someTexts() {
		check(s)
		check("a: " + s)
	}
}

func TestParseLikeOthers(t *testing.T) { // P9.1: Go's own reader understands the same
	for _, raw := range []string{
		"From: A <a@example>\r\nTo: b@example,\r\n c@example\r\nSubject: a long\r\n\tsubject\r\nSubject: another\r\n\r\nbody",
		"Received: from x\n by y\n with z\nX-Empty:\nMessage-Id: <a@b>\n\n",
		"Content-Type: text/plain; charset=utf-8\nX: \n 1\n\n",
	} {
		want, err := textproto.NewReader(bufio.NewReader(strings.NewReader(raw))).ReadMIMEHeader()
		if err != nil {
			t.Fatal(err)
		}
		fields, end := header.Parse(raw)
		if rest := raw[end:]; rest != "" && rest != "body" {
			t.Errorf("%q stays", rest)
		}
		for name, values := range want {
			if got := header.All(fields, name); !slices.Equal(got, values) {
				t.Errorf("%s: %q, want %q", name, got, values)
			}
			fields = header.Drop(fields, name)
		}
		if len(fields) > 0 {
			t.Errorf("too many: %q", fields)
		}
	}
}

var nameForm = regexp.MustCompile(`^[!-9;-~]{1,200}$`)

// folds returns the folds of a string that are greater than a number.
func folds(s string, above int) []int {
	var out []int
	for i := 1; i < len(s)-1; i++ {
		if s[i] == ' ' && !strings.ContainsAny(s[i-1:i]+s[i+1:i+2], " \t") && i > above {
			out = append(out, i)
		}
	}
	return out
}

// written is the definition of Write.
func written(fields []api.Field) string {
	out := ""
	for _, f := range fields {
		if !nameForm.MatchString(f.Name) {
			continue
		}
		v := strings.NewReplacer("\r", " ", "\n", " ").Replace(f.Value)
		s := f.Name + ":"
		if v = strings.Trim(v, white); v != "" {
			s += " " + v
		}
		above := len(f.Name) + 1
		for len(s) > 78 {
			i := 0
			for _, fold := range folds(s, above) {
				if fold <= 78 || i == 0 && fold <= 998 {
					i = fold
				}
			}
			if i == 0 && len(s) <= 998 {
				break
			}
			if i > 0 {
				out += s[:i] + "\n"
				s = s[i:]
			} else {
				out += s[:998] + "\n"
				s = " " + s[998:]
			}
			above = 0
		}
		out += s + "\n"
	}
	return out
}

// expectWrite checks what Write returns.
func expectWrite(t *testing.T, fields []api.Field, want string) {
	t.Helper()
	if got := header.Write(fields); got != want {
		t.Errorf("Write(%.300q) = %.500q, want %.500q", fields, got, want)
	}
}

func TestWrite(t *testing.T) { // P9.2
	x := func(n int) string { return strings.Repeat("x", n) }
	for _, c := range []struct {
		name, value, want string
	}{
		{"A", "1", "A: 1\n"},
		{"A", "", "A:\n"},
		{"A", " \t\r\n", "A:\n"},
		{"A", " 1\t", "A: 1\n"},
		{"A", "1\r\nB: 2\n\nC", "A: 1  B: 2  C\n"}, // no value ends its line
		{"A", "\n1\r", "A: 1\n"},
		{"A", "1\r2", "A: 1 2\n"},
		{"A", "\u00fc\xff\x00\v", "A: \u00fc\xff\x00\v\n"},
		{"a!~", "b", "a!~: b\n"},
		{"", "b", ""},
		{"a b", "b", ""},
		{"a:", "b", ""},
		{"a\n", "b", ""},
		{"\u00fc", "b", ""},
		{"a\x7f", "b", ""},
		{x(200), "b", x(200) + ": b\n"},
		{x(201), "b", ""},
		{"A", x(75), "A: " + x(75) + "\n"}, // 78 bytes
		{"A", x(76), "A: " + x(76) + "\n"}, // no fold: that behind the colon does not count
		{"A", x(40) + " " + x(34), "A: " + x(40) + " " + x(34) + "\n"},   // 78 bytes with a fold
		{"A", x(40) + " " + x(35), "A: " + x(40) + "\n " + x(35) + "\n"}, // 79
		{"A", x(75) + " y", "A: " + x(75) + "\n y\n"},                    // a fold at 78
		{"A", x(76) + " y", "A: " + x(76) + "\n y\n"},                    // the least one is at 79
		{"A", x(100) + " y z", "A: " + x(100) + "\n y z\n"},
		{"A", x(40) + " " + x(100) + " y", "A: " + x(40) + "\n " + x(100) + "\n y\n"},
		{"A", "a b c " + x(69) + " y", "A: a b c " + x(69) + "\n y\n"}, // the greatest one
		{"A", "a b c " + x(70) + " y", "A: a b c\n " + x(70) + " y\n"},
		{"A", "a b c " + x(75) + " y", "A: a b c\n " + x(75) + " y\n"}, // the rest has 78 bytes
		{"A", "a b c " + x(76) + " y", "A: a b c\n " + x(76) + "\n y\n"},
		{"A", "a b c " + x(77) + " y", "A: a b c\n " + x(77) + "\n y\n"}, // 78 bytes, then a fold
		{"A", "a b c " + x(78) + " y", "A: a b c\n " + x(78) + "\n y\n"},
		{"A", x(40) + "  " + x(40), "A: " + x(40) + "  " + x(40) + "\n"}, // two spaces are no fold
		{"A", x(40) + " \t" + x(40), "A: " + x(40) + " \t" + x(40) + "\n"},
		{"A", x(40) + "\t " + x(40), "A: " + x(40) + "\t " + x(40) + "\n"},
		{"A", x(40) + "\t" + x(40), "A: " + x(40) + "\t" + x(40) + "\n"}, // nor is a tab
		{"A", x(40) + "\n" + x(40), "A: " + x(40) + "\n " + x(40) + "\n"},
		{"A", x(40) + "\r\n" + x(40), "A: " + x(40) + "  " + x(40) + "\n"}, // two spaces, as they are bytes
		{"A", x(40) + " \v" + x(40), "A: " + x(40) + "\n \v" + x(40) + "\n"},
		{"A", x(40) + "\u00a0" + x(40), "A: " + x(40) + "\u00a0" + x(40) + "\n"},
		{x(77), "", x(77) + ":\n"},
		{x(78), "", x(78) + ":\n"},
		{x(78), "y", x(78) + ": y\n"},
		{x(78), "y z", x(78) + ": y\n z\n"},
		{x(76), "y z", x(76) + ": y\n z\n"},
		{"A", x(995), "A: " + x(995) + "\n"},                                 // 998 bytes
		{"A", x(996), "A: " + x(995) + "\n x\n"},                             // 999
		{"A", x(995) + " y", "A: " + x(995) + "\n y\n"},                      // a fold at 998
		{"A", x(996) + " y", "A: " + x(995) + "\n x y\n"},                    // a fold at 999
		{"A", x(995) + "  y", "A: " + x(995) + "\n   y\n"},                   // a space in front of what begins with spaces
		{"A", x(994) + "  y", "A: " + x(994) + " \n  y\n"},                   // a line that ends with a space
		{"A", x(995 + 997), "A: " + x(995) + "\n " + x(997) + "\n"},          // the second line has 998
		{"A", x(995 + 998), "A: " + x(995) + "\n " + x(997) + "\n x\n"},      // 999
		{"A", x(995+997) + " y", "A: " + x(995) + "\n " + x(997) + "\n y\n"}, // a fold at 998 of the second line
		{"A", x(995+998) + " y", "A: " + x(995) + "\n " + x(997) + "\n x y\n"},
		{"A", x(995+40) + " " + x(40), "A: " + x(995) + "\n " + x(40) + "\n " + x(40) + "\n"}, // folds behind a cut
		{"A", "a " + x(2000), "A: a\n " + x(997) + "\n " + x(997) + "\n " + x(6) + "\n"},
		{"A", x(995) + strings.Repeat(" ", 1000) + "y", "A: " + x(995) + "\n" + strings.Repeat(" ", 998) + "\n" + strings.Repeat(" ", 4) + "y\n"}, // a line of spaces is not empty
	} {
		expectWrite(t, fieldList(c.name, c.value), c.want)
		if got := written(fieldList(c.name, c.value)); got != c.want {
			t.Errorf("the model has %.500q for %q, %.300q", got, c.name, c.value)
		}
	}
	expectWrite(t, nil, "")
	expectWrite(t, []api.Field{}, "")
	expectWrite(t, fieldList("A", "1", "", "2", "b c", "3", "A", "4"), "A: 1\nA: 4\n")
	many := strings.Repeat("A: 1\n", 500)
	expectWrite(t, slices.Repeat(fieldList("A", "1"), 500), many) // all of them, however many
}

func TestWriteByDefinition(t *testing.T) { // P9.2
	check := func(name, value string) {
		t.Helper()
		expectWrite(t, fieldList(name, value), written(fieldList(name, value)))
	}
	for _, c := range eachByte() {
		check(c, "v")
		check("a"+c+"b", "v")
		check("A", c)
		check("A", "a"+c)
		check("A", c+"a")
		check("A", "a"+c+"b")
		check("A", strings.Repeat("x", 40)+c+strings.Repeat("x", 40))
		check("A", strings.Repeat("x", 40)+" "+c+strings.Repeat("x", 40))
		check("A", strings.Repeat("x", 40)+c+" "+strings.Repeat("x", 40))
	}
	for n := 60; n < 85; n++ {
		upTo(5, []string{" ", "\t", "a"}, func(s string) {
			check("A", strings.Repeat("x", n)+s+strings.Repeat("y", 5))
			check("A", s+" b c "+strings.Repeat("x", n)+s+"y"+s+"z")
		})
	}
	for n := 985; n < 1000; n++ {
		upTo(4, []string{" ", "\t", "a"}, func(s string) {
			check("A", strings.Repeat("x", n)+s+"y")
			check("A", "b "+strings.Repeat("x", n)+s+"y")
		})
	}
	for n := range 210 {
		name := strings.Repeat("n", n)
		for _, value := range []string{"", "v", "a b", "a b c", "a  b", strings.Repeat("a ", 60), strings.Repeat("v", 800), strings.Repeat("v", 1000)} {
			check(name, value)
		}
	}
	for _, s := range someTexts() {
		check("A", s)
		check(s, "A")
		check(strings.Repeat("n", 100), s)
		for n := range 12 {
			check("Subject", s+strings.Repeat("x", n)+" "+s)
		}
	}
}

func TestWriteLikeOthers(t *testing.T) { // P9.2: Go's own reader reads it
	fields := fieldList("A", strings.Repeat("some words ", 40)+strings.Repeat("x", 900)+" end", "Bb", "", "C", "1\n\nD: 2")
	raw := header.Write(fields) + "\n"
	got, err := textproto.NewReader(bufio.NewReader(strings.NewReader(raw))).ReadMIMEHeader()
	if err != nil {
		t.Fatal(err)
	}
	want := textproto.MIMEHeader{"A": {fields[0].Value}, "Bb": {""}, "C": {"1  D: 2"}}
	if !reflect.DeepEqual(got, want) {
		t.Errorf("%q, want %q", got, want)
	}
}

// sameName is the definition of equal names.
func sameName(a, b string) bool {
	lower := func(s string) string {
		b := []byte(s)
		for i, c := range b {
			if c >= 'A' && c <= 'Z' {
				b[i] = c + 32
			}
		}
		return string(b)
	}
	return lower(a) == lower(b)
}

// checkFields checks Get, All, Drop and Set with a name by the definition.
func checkFields(t *testing.T, fields []api.Field, name string) {
	t.Helper()
	var values []string
	var others, set []api.Field
	for _, f := range fields {
		if !sameName(f.Name, name) {
			others = append(others, f)
			set = append(set, f)
			continue
		}
		if values == nil {
			set = append(set, api.Field{Name: name, Value: "new"})
		}
		values = append(values, f.Value)
	}
	first := ""
	if values == nil {
		set = append(set, api.Field{Name: name, Value: "new"})
	} else {
		first = values[0]
	}
	kept := slices.Clone(fields)
	if got, ok := header.Get(fields, name); got != first || ok != (values != nil) {
		t.Errorf("Get(%q, %q) = %q, %v", fields, name, got, ok)
	}
	if got := header.All(fields, name); !slices.Equal(got, values) {
		t.Errorf("All(%q, %q) = %q", fields, name, got)
	}
	if got := header.Drop(fields, name); !slices.Equal(got, others) {
		t.Errorf("Drop(%q, %q) = %q", fields, name, got)
	}
	if got := header.Set(fields, name, "new"); !slices.Equal(got, set) {
		t.Errorf("Set(%q, %q) = %q", fields, name, got)
	}
	if !slices.Equal(fields, kept) {
		t.Errorf("%q became %q", kept, fields)
	}
}

func TestFields(t *testing.T) { // P9.3
	fields := fieldList("A", "1", "Bb", "2", "a", "3", "", "4", "bB", "")
	if got, ok := header.Get(fields, "a"); got != "1" || !ok {
		t.Errorf("Get: %q, %v", got, ok)
	}
	if got, ok := header.Get(fields, "c"); got != "" || ok {
		t.Errorf("Get of nothing: %q, %v", got, ok)
	}
	if got := header.All(fields, "BB"); !slices.Equal(got, []string{"2", ""}) {
		t.Errorf("All: %q", got)
	}
	if got := header.Drop(fields, "A"); !slices.Equal(got, fieldList("Bb", "2", "", "4", "bB", "")) {
		t.Errorf("Drop: %q", got)
	}
	if got := header.Set(fields, "bb", "x"); !slices.Equal(got, fieldList("A", "1", "bb", "x", "a", "3", "", "4")) {
		t.Errorf("Set: %q", got)
	}
	if got := header.Set(fields, "c", "x"); !slices.Equal(got, append(slices.Clone(fields), api.Field{Name: "c", Value: "x"})) {
		t.Errorf("Set of a new one: %q", got)
	}
	if got := header.Set(nil, "a b:", "x\n"); !slices.Equal(got, fieldList("a b:", "x\n")) { // any name and value
		t.Errorf("Set of the first one: %q", got)
	}
	upTo(5, []string{"a", "A", "b", "-"}, func(names string) {
		var fields []api.Field
		for i, name := range names {
			fields = append(fields, api.Field{Name: string(name), Value: fmt.Sprint(i)})
		}
		for _, name := range []string{"a", "A", "B", "-", "", "aa"} {
			checkFields(t, fields, name)
		}
	})
	fields = nil
	for _, c := range eachByte() {
		fields = append(fields, api.Field{Name: "x" + c, Value: "v" + c})
	}
	for _, c := range eachByte() {
		checkFields(t, fields, "X"+c)
		checkFields(t, fields, c)
	}
	checkFields(t, fieldList("K", "1", "\u212a", "2", "\u017f", "3"), "k") // other letters have no case
	checkFields(t, fieldList("s", "1", "\u017f", "2"), "S")
	checkFields(t, fieldList("", "1", "a", "2", "", "3"), "")
	checkFields(t, fieldList("a", "1", "ab", "2", "b", "3"), "ab")
}

func TestFieldsAreNew(t *testing.T) { // P9.3, P9.6: results share no memory, and what lies behind a slice is not touched
	all := fieldList("a", "1", "b", "2", "a", "3", "behind", "4")
	fields := all[:3]
	kept := slices.Clone(all)
	for _, name := range []string{"a", "b", "c"} {
		for _, got := range [][]api.Field{header.Set(fields, name, "x"), header.Drop(fields, name)} {
			for i := range got {
				got[i] = api.Field{Name: "changed", Value: "changed"}
			}
			got = append(got, api.Field{Name: "more", Value: "more"})
			if !slices.Equal(all, kept) || len(got) == 0 {
				t.Fatalf("the argument became %q", all)
			}
		}
	}
	values := header.All(fields, "a")
	values[0] = "changed"
	if !slices.Equal(all, kept) {
		t.Errorf("the argument became %q", all)
	}
}

const tokenForm = "[!#$%&'*+.0-9A-Z^_`a-z{|}~-]+"

var (
	pieceForm = regexp.MustCompile(`(?s)^(?:[^";]|"(?:[^"\\]|\\.)*(?:"|\\?$))*`)
	paramForm = regexp.MustCompile(`(?s)^[\t\n\r ]*(` + tokenForm + `)[\t\n\r ]*=[\t\n\r ]*(?:"((?:[^"\\]|\\.)*)"|([!#-~]+))[\t\n\r ]*$`)
	tokenOnly = regexp.MustCompile(`^` + tokenForm + `$`)
)

// params is the definition of Params.
func params(value string) (string, []api.Param) {
	piece := pieceForm.FindString(value)
	main := strings.Trim(piece, white)
	var out []api.Param
	for rest := value[len(piece):]; rest != ""; {
		piece = pieceForm.FindString(rest[1:])
		rest = rest[1+len(piece):]
		m := paramForm.FindStringSubmatch(piece)
		if m == nil {
			continue
		}
		name := strings.ToLower(m[1])
		if !slices.ContainsFunc(out, func(p api.Param) bool { return p.Name == name }) {
			out = append(out, api.Param{Name: name, Value: m[3] + unescaped(m[2])})
		}
	}
	return main, out
}

// unescaped returns what stands in a quotation. A backslash and the byte behind it are taken as they come, as an escape of regexp would change invalid UTF-8.
func unescaped(s string) string {
	out := ""
	for i := 0; i < len(s); i++ {
		if s[i] == '\\' {
			i++
		}
		out += s[i : i+1]
	}
	return out
}

// expectParams checks what Params returns.
func expectParams(t *testing.T, value, main string, list []api.Param) {
	t.Helper()
	got, gotList := header.Params(value)
	if got != main || !slices.Equal(gotList, list) {
		t.Errorf("Params(%.200q) = %.200q, %.300q; want %.200q, %.300q", value, got, gotList, main, list)
	}
}

func TestParams(t *testing.T) { // P9.4
	for _, x := range []struct {
		value, main string
		list        []api.Param
	}{
		{"", "", nil},
		{"text/plain; Charset=utf-8; x; name=\"a \\\"b\"", "text/plain", paramList("charset", "utf-8", "name", `a "b`)},
		{" text/plain \r\n", "text/plain", nil},
		{";", "", nil},
		{";a=1", "", paramList("a", "1")},
		{";;a=1;;b=2;", "", paramList("a", "1", "b", "2")},
		{"a=1", "a=1", nil}, // the first piece is no parameter
		{"x; a = 1 ;\tb\n=\r\n2\n", "x", paramList("a", "1", "b", "2")},
		{"x; a=1; A=2; a=3; b=1", "x", paramList("a", "1", "b", "1")}, // the first one of a name
		{"x; a=; a=2", "x", paramList("a", "2")},                      // one that is not well formed does not count
		{"x; a=\"1; a=2", "x", nil},
		{"x; a=b=c", "x", paramList("a", "b=c")},
		{"x; a==", "x", paramList("a", "=")},
		{"x; =1; a; a=; a= ;b=1", "x", paramList("b", "1")},
		{"x; a b=1; a=1 2; a=1\t2; \u00fc=1; a=\u00fc; a=\x7f; a=\x00", "x", nil},
		{"x; a/b=1; a:b=1; a?b=1; a[b=1; a]b=1; a(b=1; a)b=1; a<b=1; a>b=1; a@b=1; a,b=1; a\\b=1; c=1", "x", paramList("c", "1")},
		{"x; a\"b=1\"; c=2", "x", paramList("c", "2")}, // a quotation mark anywhere begins a quotation
		{"x; a\"b;c=2", "x", nil},
		{"x; a\"b;\"c=2; d=3", "x", paramList("d", "3")},
		{"x; a*0*=utf-8''b%20c", "x", paramList("a*0*", "utf-8''b%20c")},
		{"x; a=()<>@,:\\/[]?=", "x", paramList("a", "()<>@,:\\/[]?=")}, // a value as it is may have more than tokens
		{"x; a=b\\;c=d", "x", paramList("a", "b\\", "c", "d")},         // no escape outside of a quotation
		{"x; a=b\\\"c;d=1\"; e=f", "x", paramList("e", "f")},
		{`x; a=""`, "x", paramList("a", "")},
		{`x; a="1;b=2"; c=3`, "x", paramList("a", "1;b=2", "c", "3")},
		{`x; a="1\";b=2"; c=3`, "x", paramList("a", `1";b=2`, "c", "3")},
		{`x; a="1\\";b=2`, "x", paramList("a", `1\`, "b", "2")},
		{`x; a="\\\"\a\;\\"`, "x", paramList("a", `\"a;\`)},
		{`x; a="1"2; b=1"2"; c="1""2"; d=" 1 " ; e="1" "2"; f=g`, "x", paramList("d", " 1 ", "f", "g")},
		{`x; a="`, "x", nil},
		{`x; a="1`, "x", nil},
		{`x; a="1\`, "x", nil},
		{`x; a="1\"`, "x", nil},
		{`x; a="1\" `, "x", nil},
		{`x; a="1"`, "x", paramList("a", "1")},
		{`x; a=1"`, "x", nil},
		{`x; "a"=1; a="1"`, "x", paramList("a", "1")},
		{`x; "a=1"; a="1"`, "x", paramList("a", "1")},
		{"x; a=\"\u00fc\x00\r\n\xff\"", "x", paramList("a", "\u00fc\x00\r\n\xff")}, // anything in a quotation
		{`"x;y" ; a=1`, `"x;y"`, paramList("a", "1")},
		{`"x;a=1`, `"x;a=1`, nil},
		{`"x\";a=1";b=2`, `"x\";a=1"`, paramList("b", "2")},
		{`x\";a=1";b=2`, `x\";a=1"`, paramList("b", "2")},
		{"inline; FileName=\"A B.txt\"", "inline", paramList("filename", "A B.txt")},
		{"Text/Plain; CharSet=UTF-8", "Text/Plain", paramList("charset", "UTF-8")}, // only names are in lower case
		{"x; \u212a=1; k=2", "x", paramList("k", "2")},
	} {
		expectParams(t, x.value, x.main, x.list)
		if main, list := params(x.value); main != x.main || !slices.Equal(list, x.list) {
			t.Errorf("the model has %q, %q for %q", main, list, x.value)
		}
	}
}

func TestParamsByDefinition(t *testing.T) { // P9.4
	check := func(value string) {
		main, list := params(value)
		expectParams(t, value, main, list)
	}
	upTo(7, []string{`"`, `\`, ";", "=", "a"}, check)
	upTo(6, []string{`"`, `\`, ";", " ", "a"}, func(s string) {
		check("x; n=" + s)
		check("x; n=\"" + s + "\"; m=1")
	})
	upTo(4, []string{"; a=1", "; A=2", `; b="`, `"`, " ", "\\", "b=3"}, check)
	upTo(1, eachByte(), func(c string) {
		for _, d := range eachByte() {
			check("x;a" + c + d + "=1")
			check("x;a=b" + c + d)
			check("x;a=\"b" + c + d + "\"")
		}
		check(c + ";a=1")
		check("x" + c + "; a=1")
		check("x;" + c + "=1")
		check("x;" + c + "a=1")
		check("x;a=" + c)
		check("x;a=" + c + "b")
		check("x;a" + c + "1")
		check("x;a=\"" + c + "\"")
		check("x;a=\"b\"" + c)
		check("x;a=" + c + "\"b\"")
		check("x" + c + "a=1")
	})
	for _, s := range someTexts() {
		check(s)
		check("x; a=" + s)
		check("x; a=\"" + s + "\"")
	}
}

// quotes is the definition of Quote.
func quotes(main string, list []api.Param) string {
	out := main
	for _, p := range list {
		if !tokenOnly.MatchString(p.Name) {
			continue
		}
		out += "; " + p.Name + "="
		if tokenOnly.MatchString(p.Value) {
			out += p.Value
			continue
		}
		var quoted strings.Builder
		for i := range len(p.Value) {
			if p.Value[i] == '"' || p.Value[i] == '\\' {
				quoted.WriteByte('\\')
			}
			quoted.WriteByte(p.Value[i])
		}
		out += `"` + quoted.String() + `"`
	}
	return out
}

// expectQuote checks what Quote returns.
func expectQuote(t *testing.T, main string, list []api.Param, want string) {
	t.Helper()
	if got := header.Quote(main, list); got != want {
		t.Errorf("Quote(%.200q, %.300q) = %.500q, want %.500q", main, list, got, want)
	}
}

func TestQuote(t *testing.T) { // P9.5
	for _, x := range []struct {
		main string
		list []api.Param
		want string
	}{
		{"text/plain", paramList("charset", "utf-8", "name", "a b"), `text/plain; charset=utf-8; name="a b"`},
		{"", nil, ""},
		{" x;\n\"", nil, " x;\n\""}, // as it is
		{"x", paramList("a", ""), `x; a=""`},
		{"x", paramList("a", `"`), `x; a="\""`},
		{"x", paramList("a", `\`), `x; a="\\"`},
		{"x", paramList("a", `\"`), `x; a="\\\""`},
		{"x", paramList("a", `a"b\c;d=e`), `x; a="a\"b\\c;d=e"`},
		{"x", paramList("A", "B", "A", "C"), `x; A=B; A=C`}, // equal names, and upper case
		{"x", paramList("", "1", "a b", "2", "a;", "3", "a=", "4", `"a"`, "5", "\u00fc", "6", "a", "7", "a/b", "8", "a\x7f", "9"), `x; a=7`},
		{"x", paramList("a", "1\r\n2\x00\xff\u00fc"), "x; a=\"1\r\n2\x00\xff\u00fc\""},
		{"x", paramList("a!#$%&'*+-.^_`{|}~9Z", "!#$%&'*+-.^_`{|}~9Z"), "x; a!#$%&'*+-.^_`{|}~9Z=!#$%&'*+-.^_`{|}~9Z"},
	} {
		expectQuote(t, x.main, x.list, x.want)
		if got := quotes(x.main, x.list); got != x.want {
			t.Errorf("the model has %q for %q, %q", got, x.main, x.list)
		}
	}
	check := func(name, value string) {
		t.Helper()
		expectQuote(t, "x", paramList(name, value), quotes("x", paramList(name, value)))
	}
	for _, c := range eachByte() {
		for _, s := range []string{c, c + "a", "a" + c, "a" + c + "b", c + `\"`} {
			check(s, "v")
			check("n", s)
		}
	}
	upTo(6, []string{`"`, `\`, "a", ";"}, func(s string) { check("n", s) })
	for _, s := range someTexts() {
		check(s, s)
		check("n", s)
		expectQuote(t, s, paramList("n", s), quotes(s, paramList("n", s)))
	}
}

func TestParamsLikeOthers(t *testing.T) { // P9.4, P9.5: Go's own reader and writer mean the same
	for _, value := range []string{
		"text/plain; charset=utf-8; format=flowed", `multipart/mixed; boundary="a b\"c;d\\"; x=y`, "text/html", `attachment; FILENAME="a;b=c.txt" ; size=12`,
	} {
		main, want, err := mime.ParseMediaType(value)
		if err != nil {
			t.Fatal(err)
		}
		got, list := header.Params(value)
		if got != main || len(list) != len(want) {
			t.Errorf("Params(%q) = %q, %q", value, got, list)
		}
		for _, p := range list {
			if want[p.Name] != p.Value {
				t.Errorf("Params(%q) has %q, want %q", value, p, want[p.Name])
			}
		}
		for _, written := range []string{header.Quote(main, list), mime.FormatMediaType(main, want)} {
			again, back, err := mime.ParseMediaType(written)
			if err != nil || again != main || !reflect.DeepEqual(back, want) {
				t.Errorf("Go reads %q as %q, %q", written, again, back)
			}
			if again, back := header.Params(written); again != main || len(back) != len(list) {
				t.Errorf("Params(%q) = %q, %q", written, again, back)
			}
		}
	}
}

// answers are the results of all functions for a string.
func answers(s string) string {
	fields, end := header.Parse(s)
	main, list := header.Params(s)
	value, ok := header.Get(fields, "a")
	made := append(fieldList("Subject", s, s, "x"), fields...)
	return fmt.Sprintf("%q", []any{fields, end, main, list, value, ok, header.Write(made), header.All(fields, "subject"), header.Set(made, "Subject", s), header.Drop(made, "a"), header.Quote(s, append(list, api.Param{Name: "n", Value: s}))})
}

func TestPure(t *testing.T) { // P9.6
	texts := someTexts()
	first := make([]string, len(texts))
	for i, s := range texts {
		first[i] = answers(s)
	}
	shared := fieldList("a", "1", "Subject", strings.Repeat("word ", 50), "A", "2")
	kept := slices.Clone(shared)
	list := paramList("a", "1", "b", "c d")
	var group sync.WaitGroup
	for worker := range 4 { // other calls before and beside a call change nothing
		group.Go(func() {
			random := rand.New(rand.NewSource(int64(worker)))
			for _, i := range random.Perm(len(texts)) {
				if answers(texts[i]) != first[i] {
					t.Errorf("other results for %.80q", texts[i])
				}
				header.Write(shared)
				header.Set(shared, "a", texts[i])
				header.Drop(shared, "Subject")
				header.Quote("x", list)
			}
		})
	}
	group.Wait()
	if !slices.Equal(shared, kept) || !slices.Equal(list, paramList("a", "1", "b", "c d")) {
		t.Errorf("arguments became %q and %q", shared, list)
	}
}

// goodValue returns a random value that Write must keep.
func goodValue(random *rand.Rand) string {
	out := ""
	for range random.Intn(6) {
		word := randomOf(random, 1+random.Intn(4), []string{"a", "\u00fc", "\xff", "b:", "<x>", "\x00", "=?", "\v"})
		out += strings.Repeat(word, 1+random.Intn(500/len(word))) + " "
		out += randomOf(random, random.Intn(40), []string{"w ", "word ", "longer "})
		if random.Intn(4) == 0 {
			out += randomOf(random, random.Intn(40), []string{" ", "\t", "c"}) + "d "
		}
	}
	return strings.Trim(out, white)
}

func TestBack(t *testing.T) { // P9.7
	random := rand.New(rand.NewSource(97))
	for range 3000 {
		var fields []api.Field
		for range random.Intn(6) {
			name := randomOf(random, 1+random.Intn(20), []string{"A", "b", "-", "!", "~", "Subject", "[]"})
			fields = append(fields, api.Field{Name: name, Value: goodValue(random)})
		}
		raw := header.Write(fields)
		for _, behind := range []string{"", "x", "A: 1\n", " x\n", "\n", "\r"} {
			expectParse(t, raw+"\n"+behind, fields, len(raw)+1)
			expectParse(t, raw+"\r\n"+behind, fields, len(raw)+2)
		}
		for _, f := range fields { // no field but these has a value
			checkFields(t, fields, f.Name)
		}
	}
	name := strings.Repeat("n", 200)
	for n := 650; n < 700; n++ { // the longest parts without a fold
		value := strings.Repeat("v", n) + " " + strings.Repeat("w", n) + " x"
		fields := fieldList(name, value, "A", value)
		raw := header.Write(fields)
		expectParse(t, raw+"\nx", fields, len(raw)+1)
	}
	full := slices.Repeat(fieldList("A", "1", "B", ""), 200)
	raw := header.Write(full)
	expectParse(t, raw+"\nC: 1\n", full, len(raw)+1)
}

// checkWritten checks the properties of what Write returns for any fields.
func checkWritten(t *testing.T, fields []api.Field) {
	t.Helper()
	raw := header.Write(fields)
	var names, got []string
	for _, f := range fields {
		if nameForm.MatchString(f.Name) {
			names = append(names, f.Name)
		}
	}
	back, end := header.Parse(raw + "\nbehind: it\n")
	for _, f := range back {
		got = append(got, f.Name)
	}
	if !slices.Equal(got, names) || end != len(raw)+1 {
		t.Errorf("Write(%.300q) has the names %.300q, and ends at %d of %d", fields, got, end, len(raw))
	}
	first := true
	for _, line := range strings.SplitAfter(raw, "\n") {
		if line == "" {
			continue
		}
		line = strings.TrimSuffix(line, "\n")
		if strings.Contains(line, "\r") || len(line) > 998 || line == "" {
			t.Errorf("Write(%.300q) has the line %.1100q", fields, line)
		}
		above := 0
		if first = line[0] != ' '; first {
			above = strings.Index(line, ":") + 1
		}
		if shorter := folds(line, above); len(line) > 78 && len(shorter) > 0 {
			t.Errorf("Write(%.300q) has the line %.1100q, with folds at %v", fields, line, shorter)
		}
	}
}

func TestWritten(t *testing.T) { // P9.7, P9.8
	var all []api.Field
	for i, s := range someTexts() {
		checkWritten(t, fieldList("A", s))
		checkWritten(t, fieldList(s, s, "Subject", s+"\r\nBcc: x\n\n"+s, "b", s+"\n\n", "c", "\n"+s+"\r"))
		checkWritten(t, fieldList(strings.Repeat("n", 200), strings.Repeat("v", i)+" "+s+s+s))
		all = append(all, api.Field{Name: "x", Value: s})
	}
	checkWritten(t, all[:400])
	upTo(6, []string{"\n", "\r", " ", "b:", "\t"}, func(s string) {
		checkWritten(t, fieldList("A", s, "B", "a"+s+"c"))
	})
	for n := 985; n < 1003; n++ {
		upTo(3, []string{"\n", "\r", " ", "\t", "b:"}, func(s string) {
			checkWritten(t, fieldList("A", strings.Repeat("x", n)+s+"y: z", "B", strings.Repeat("x", n)+s+strings.Repeat(s, 400)+"y"))
		})
	}
}

func TestParamsBack(t *testing.T) { // P9.9
	check := func(main string, list []api.Param) {
		t.Helper()
		expectParams(t, header.Quote(main, list), main, list)
	}
	check("", nil)
	upTo(6, []string{`"`, `\`, ";", "=", " ", "a"}, func(s string) {
		check("x", paramList("a", s, "b", "1"))
		check("x", paramList("a", s+"\n", "b", s))
	})
	for _, c := range eachByte() {
		check("x", paramList("a", c, "b", c+c))
		check("x", paramList("a", "d"+c+"e", "b", ""))
	}
	for _, s := range someTexts() {
		check("multipart/mixed = x", paramList("boundary", s, "b", `"`+s, "c", s+`\`, "d!*", "1"))
		main := strings.Trim(strings.NewReplacer(";", "", `"`, "").Replace(s), white)
		check(main, paramList("boundary", s))
	}
}

func TestLong(t *testing.T) { // P9.1 to P9.5: the time grows with the length only
	const size = 1 << 21
	start := time.Now()
	for _, piece := range []string{"a", " ", "a ", "\n", " \n", " a\n", "a:\n", "a", "\"", "\\", ";", "=", "\";", "a=\"", ";a=1", strings.Repeat("a", 100) + " ", strings.Repeat("a", 2000) + " "} {
		s := strings.Repeat(piece, size/len(piece))
		for _, whole := range []string{s, "a: " + s, "x; a=\"" + s} {
			header.Parse(whole)
			header.Params(whole)
			header.Write(fieldList("a", whole))
			header.Quote("x", paramList("a", whole))
		}
	}
	var fields []api.Field
	var list []api.Param
	for i := range size / 16 {
		name := fmt.Sprint("n", i)
		fields = append(fields, api.Field{Name: name, Value: "v"})
		list = append(list, api.Param{Name: name, Value: "v"})
	}
	header.Drop(slices.Repeat(fields, 2), "N1")
	header.Set(append(slices.Repeat(fieldList("x", "v"), size/16), fields...), "X", "1")
	if _, back := header.Params(header.Quote("x", list)); !slices.Equal(back, list) {
		t.Error("many parameters are not read back")
	}
	if spent := time.Since(start); spent > 30*time.Second {
		t.Errorf("%v for strings of two megabytes", spent)
	}
}
