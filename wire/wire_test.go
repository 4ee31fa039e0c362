package wire_test

import (
	"math"
	"math/rand"
	"slices"
	"strconv"
	"strings"
	"testing"
	"time"

	"missive/wire"
)

// someInts are ints at the ends of their range and where their lengths change.
func someInts() []int {
	out := []int{0, math.MaxInt, math.MaxInt - 1, math.MinInt, math.MinInt + 1, math.MaxInt32, math.MinInt32}
	for n := 1; n < math.MaxInt/10; n *= 10 {
		out = append(out, n, -n, n-1, 1-n, 7*n+3, -7*n-3)
	}
	return out
}

// someTexts are strings that look like encodings, and strings of any bytes.
func someTexts() []string {
	out := []string{"", ",", "a", "a,b", "0:,", "3:a,b,", "1[0;]", "2[0:,0:,]", "0[]", "-7;", ":", "]", "\x00", "\xff\xfe", "é", "\n", "1:"}
	for i := range 256 {
		out = append(out, string([]byte{byte(i)}))
	}
	return append(out, strings.Repeat("x", 9), strings.Repeat(",", 10), strings.Repeat("7;", 50), strings.Repeat("\xff", 70000))
}

func TestWriteNumbers(t *testing.T) { // P2.1
	for n, want := range map[int]string{
		0:             "0;",
		1:             "1;",
		7:             "7;",
		10:            "10;",
		300:           "300;",
		math.MaxInt:   "9223372036854775807;",
		-1:            "-1;",
		-7:            "-7;",
		-10:           "-10;",
		math.MinInt:   "-9223372036854775808;",
		math.MinInt32: "-2147483648;",
	} {
		if got := wire.Int(n); got != want {
			t.Errorf("Int(%d) = %q", n, got)
		}
		if n < 0 {
			want = ""
		}
		if got := wire.Num(n); got != want {
			t.Errorf("Num(%d) = %q", n, got)
		}
	}
}

func TestWriteTexts(t *testing.T) { // P2.1
	for s, want := range map[string]string{
		"":                         "0:,",
		"a":                        "1:a,",
		"a,b":                      "3:a,b,",
		",":                        "1:,,",
		"0:,":                      "3:0:,,",
		"é":                        "2:é,",
		"\xff\x00\n":               "3:\xff\x00\n,",
		"0123456789":               "10:0123456789,",
		strings.Repeat("x", 12345): "12345:" + strings.Repeat("x", 12345) + ",",
	} {
		if got := wire.Text(s); got != want {
			t.Errorf("Text(%q) = %q", s, got)
		}
	}
}

func TestWriteLists(t *testing.T) { // P2.1
	for want, l := range map[string][]int{
		"0[]":         nil,
		"1[0;]":       {0},
		"2[1;-1;]":    {1, -1},
		"3[-7;7;-7;]": {-7, 7, -7},
		"2[9223372036854775807;-9223372036854775808;]":     {math.MaxInt, math.MinInt},
		"12[0;1;2;3;4;5;6;7;8;9;10;11;]":                   {0, 1, 2, 3, 4, 5, 6, 7, 8, 9, 10, 11},
		"1000[" + strings.Repeat("-1;", 1000) + "]":        slices.Repeat([]int{-1}, 1000),
		"10[" + strings.Repeat("0;", 9) + "-300000;" + "]": append(make([]int, 9), -300000),
	} {
		if got := wire.Nums(l); got != want {
			t.Errorf("Nums(%v) = %q", l, got)
		}
	}
	for want, l := range map[string][]string{
		"0[]":                                    nil,
		"1[0:,]":                                 {""},
		"2[1:b,1:a,]":                            {"b", "a"},
		"3[0:,3:0:,,2:\xff],]":                   {"", "0:,", "\xff]"},
		"11[" + strings.Repeat("1:[,", 11) + "]": slices.Repeat([]string{"["}, 11),
	} {
		if got := wire.Texts(l); got != want {
			t.Errorf("Texts(%q) = %q", l, got)
		}
	}
	if wire.Nums([]int{}) != "0[]" || wire.Texts([]string{}) != "0[]" {
		t.Error("empty lists")
	}
}

// expectFailed checks that all calls fail, as they must after a failure.
func expectFailed(t *testing.T, what string, r *wire.Reader) {
	t.Helper()
	for range 2 {
		if left, done := r.Left(), r.Done(); left != 0 || done {
			t.Errorf("%s: after a failure Left %d, Done %v", what, left, done)
		}
		n, i, s, nums, texts := r.Num(), r.Int(), r.Text(), r.Nums(), r.Texts()
		if n != 0 || i != 0 || s != "" || len(nums) != 0 || len(texts) != 0 {
			t.Errorf("%s: after a failure %d %d %q %v %q", what, n, i, s, nums, texts)
		}
	}
}

// expectAt checks the two methods that tell where a reader is.
func expectAt(t *testing.T, what string, r *wire.Reader, left int) {
	t.Helper()
	if r.Left() != left || r.Done() != (left == 0) {
		t.Errorf("%s: Left %d, want %d; Done %v", what, r.Left(), left, r.Done())
	}
}

// kind is one kind of value: how it is written and read, and whether two of its values are equal.
type kind[T any] struct {
	name  string
	write func(T) string
	read  func(*wire.Reader) T
	equal func(a, b T) bool
}

func same[T comparable](a, b T) bool { return a == b }

var (
	numKind   = kind[int]{"Num", wire.Num, (*wire.Reader).Num, same[int]}
	intKind   = kind[int]{"Int", wire.Int, (*wire.Reader).Int, same[int]}
	textKind  = kind[string]{"Text", wire.Text, (*wire.Reader).Text, same[string]}
	numsKind  = kind[[]int]{"Nums", wire.Nums, (*wire.Reader).Nums, slices.Equal[[]int]}
	textsKind = kind[[]string]{"Texts", wire.Texts, (*wire.Reader).Texts, slices.Equal[[]string]}
)

// reads checks that s begins with the encoding of value, and that rest bytes are left behind it.
func (k kind[T]) reads(t *testing.T, s string, value T, rest int) {
	t.Helper()
	r := wire.Open(s)
	expectAt(t, "before "+k.name, r, len(s))
	if got := k.read(r); !k.equal(got, value) {
		t.Errorf("%s of %.80q: %.80v, want %.80v", k.name, s, got, value)
	}
	expectAt(t, strconv.Quote(s[:min(len(s), 80)])+" behind "+k.name, r, rest)
}

// fails checks that s does not begin with an encoding.
func (k kind[T]) fails(t *testing.T, s string) {
	t.Helper()
	var none T
	r := wire.Open(s)
	if got := k.read(r); !k.equal(got, none) {
		t.Errorf("%s of %.80q: %.80v", k.name, s, got)
	}
	expectFailed(t, k.name+" of "+strconv.Quote(s[:min(len(s), 80)]), r)
}

func TestReadNumbers(t *testing.T) { // P2.2
	for s, want := range map[string]int{
		"0;":                   0,
		"7;":                   7,
		"300;":                 300,
		"9223372036854775807;": math.MaxInt,
	} {
		numKind.reads(t, s, want, 0)
		intKind.reads(t, s, want, 0)
		numKind.reads(t, s+"x;", want, 2)
		intKind.reads(t, s+";", want, 1)
	}
	for s, want := range map[string]int{
		"-1;":                   -1,
		"-300;":                 -300,
		"-9223372036854775808;": math.MinInt,
	} {
		intKind.reads(t, s, want, 0)
		intKind.reads(t, s+"-", want, 1)
		numKind.fails(t, s) // a number is not negative
	}
	for _, s := range []string{
		"", ";", "7", "007;", "00;", "01;", "-0;", "-01;", "-00;", "--1;", "-;", "+1;", "+0;", " 1;", "1 ;", "1_0;", "0x1;", "1e3;", "1.0;", "٣;", "a;", "1a;",
		"7:", "7,", "7[", "\x007;", "7\x00;", "\xff;",
		"9223372036854775808;", "-9223372036854775809;", "18446744073709551616;", "18446744073709551617;", "-18446744073709551615;", "99999999999999999999;",
		"09223372036854775807;", "00000000000000000000000007;", "100000000000000000000000000000000000000000;",
	} {
		numKind.fails(t, s)
		intKind.fails(t, s)
	}
}

func TestReadTexts(t *testing.T) { // P2.2
	for s, want := range map[string]string{
		"0:,":            "",
		"1:,,":           ",",
		"3:a,b,":         "a,b",
		"2:\xff\x00,":    "\xff\x00",
		"10:0123456789,": "0123456789",
	} {
		textKind.reads(t, s, want, 0)
		textKind.reads(t, s+",,", want, 2)
	}
	for _, s := range []string{
		"", ":", ",", ":,", "0", "0:", "0,", "0:;", "0:]", "1:,", "1:a", "1:ab,", "1:a;", "2:a,", "00:,", "01:a,", "-0:,", "-1:,", "-1:a,", "+1:a,", " 1:a,", "a:a,", "1;a,", "1[a,", "0;", "0[]",
		"9223372036854775807:a,", "9223372036854775807:", "9223372036854775808:a,", "-9223372036854775808:a,", "18446744073709551617:a,", "99999999999999999999999:a,",
	} {
		textKind.fails(t, s)
	}
}

func TestReadLists(t *testing.T) { // P2.2
	for s, want := range map[string][]int{
		"0[]":      nil,
		"1[0;]":    {0},
		"2[1;-1;]": {1, -1},
		"11[0;1;2;3;4;5;6;7;8;9;-9223372036854775808;]": {0, 1, 2, 3, 4, 5, 6, 7, 8, 9, math.MinInt},
	} {
		numsKind.reads(t, s, want, 0)
		numsKind.reads(t, s+"]]", want, 2)
	}
	for s, want := range map[string][]string{
		"0[]":               nil,
		"1[0:,]":            {""},
		"2[1:b,1:a,]":       {"b", "a"},
		"2[3:0:,,2:\xff],]": {"0:,", "\xff]"},
	} {
		textsKind.reads(t, s, want, 0)
		textsKind.reads(t, s+"0", want, 1)
	}
	for _, s := range []string{
		"", "[", "]", "[]", "0", "0[", "0]", "0[0;]", "0[0:,]", "0[;]", "00[]", "-0[]", "-1[]", "+0[]", " 0[]", "0 []", "0[ ]", "0;", "0:,", "0{}",
		"1[]", "1[0;", "1[0:,", "1[0]", "1[;]", "1[:,]", "1[00;]", "1[-0;]", "1[00:,]", "1[-1:,]", "1[0;0;]", "1[0:,0:,]", "1[0;,]", "1[1:,]", "01[0;]", "01[0:,]", "1[0[]]", "1[9223372036854775808;]",
		"2[0;]", "2[0:,]", "2[0;0:,]", "2[0:,0;]", "2[0;0;", "2[0:,0:,", "2[0;x0;]", "2[0:,x0:,]",
		"9223372036854775807[]", "9223372036854775807[0;0;]", "9223372036854775807[0:,0:,]", "9223372036854775808[]", "18446744073709551616[]", "99999999999999999999999[]",
	} {
		numsKind.fails(t, s)
		textsKind.fails(t, s)
	}
}

func TestReadEmpty(t *testing.T) { // P2.2: nothing to read is no failure, as long as nothing is read
	for range 2 {
		r := wire.Open("")
		expectAt(t, "nothing", r, 0)
		if r.Num() != 0 {
			t.Error("Num of nothing")
		}
		expectFailed(t, "nothing", r)
	}
}

func TestReadOn(t *testing.T) { // P2.2: each call moves the reader, until one fails
	s := "7;" + "-7;" + "3:a,b," + "2[1;-1;]" + "1[1:],]" + "0;" + "007;" + "5;"
	r := wire.Open(s)
	expectAt(t, "Open", r, len(s))
	if n := r.Num(); n != 7 {
		t.Error("Num", n)
	}
	expectAt(t, "Num", r, len(s)-2)
	if n := r.Int(); n != -7 {
		t.Error("Int", n)
	}
	expectAt(t, "Int", r, len(s)-5)
	if s := r.Text(); s != "a,b" {
		t.Errorf("Text %q", s)
	}
	expectAt(t, "Text", r, len(s)-11)
	if l := r.Nums(); !slices.Equal(l, []int{1, -1}) {
		t.Error("Nums", l)
	}
	expectAt(t, "Nums", r, len(s)-19)
	if l := r.Texts(); !slices.Equal(l, []string{"]"}) {
		t.Errorf("Texts %q", l)
	}
	expectAt(t, "Texts", r, 8)
	if n := r.Int(); n != 0 {
		t.Error("Int", n)
	}
	expectAt(t, "a zero that was read", r, 6)
	if n := r.Num(); n != 0 {
		t.Error("Num", n)
	}
	expectFailed(t, "007;", r)
}

func TestReadersApart(t *testing.T) { // P2.2 with P4: one reader's failure is not another's
	a, b := wire.Open("1;2;"), wire.Open("1;2;")
	a.Text()
	if b.Num() != 1 || b.Num() != 2 || !b.Done() {
		t.Error("a reader of the same string changed")
	}
	expectFailed(t, "Text of 1;2;", a)
}

func TestTermination(t *testing.T) { // P2.2 with P1: also where the string claims to be far longer than it is
	done := make(chan bool, 1)
	go func() {
		digits := strings.Repeat("1", 1<<20)
		for _, s := range []string{digits + ";", digits + ":,", digits + "[]", "-" + digits + ";", digits, "1[" + digits + ";]", "1[" + digits + ":,]", "9223372036854775807[" + strings.Repeat("0;", 1000), "9223372036854775807[" + strings.Repeat("0:,", 1000)} {
			for range 100 {
				wire.Open(s).Num()
				wire.Open(s).Int()
				wire.Open(s).Text()
				wire.Open(s).Nums()
				wire.Open(s).Texts()
			}
		}
		long := wire.Nums(make([]int, 1<<20)) + wire.Texts(make([]string, 1<<20))
		r := wire.Open(long)
		done <- len(r.Nums()) == 1<<20 && len(r.Texts()) == 1<<20 && r.Done()
	}()
	select {
	case ok := <-done:
		if !ok {
			t.Error("a wrong result")
		}
	case <-time.After(time.Minute):
		t.Fatal("reading does not come to an end")
	}
}

func TestMemory(t *testing.T) { // P2.3
	nums := []int{1, -2, 3}
	texts := []string{"a", "b", "beyond"}
	gotNums, gotTexts := wire.Nums(nums[:2]), wire.Texts(texts[:2])
	if !slices.Equal(nums, []int{1, -2, 3}) || !slices.Equal(texts, []string{"a", "b", "beyond"}) {
		t.Errorf("the arguments became %v %q", nums, texts)
	}
	clear(nums)
	clear(texts)
	if gotNums != "2[1;-2;]" || gotTexts != "2[1:a,1:b,]" {
		t.Errorf("%q %q", gotNums, gotTexts)
	}
	changing := []byte("2[1;2;]2[1;2;]2[1:a,1:b,]2[1:a,1:b,]")
	r := wire.Open(string(changing))
	clear(changing)
	n1, n2, t1, t2 := r.Nums(), r.Nums(), r.Texts(), r.Texts()
	n1[0], t1[0] = 9, "changed"
	_, _ = append(n1[:1], 9), append(t1[:1], "changed")
	if !slices.Equal(n2, []int{1, 2}) || !slices.Equal(t2, []string{"a", "b"}) || !r.Done() {
		t.Errorf("results share memory: %v %q", n2, t2)
	}
}

// inverse checks P2.4 for one value: it is read back, with any bytes behind it, and nothing shorter or with another byte is its encoding.
func (k kind[T]) inverse(t *testing.T, value T) {
	t.Helper()
	s := k.write(value)
	for _, behind := range []string{"", ";", ",", "]", "0", "[", ":", s, "\x00\xff"} {
		k.reads(t, s+behind, value, len(behind))
	}
	if len(s) > 100 {
		return
	}
	for i := range len(s) {
		k.fails(t, s[:i])
		for _, c := range []byte("-0179;:,[]a\x00") {
			if c != s[i] {
				k.canonical(t, s[:i]+string(rune(c))+s[i+1:])
			}
		}
	}
}

// canonical checks for any string that what is read from it has exactly the bytes that were read as its encoding.
func (k kind[T]) canonical(t *testing.T, s string) (ok bool) {
	t.Helper()
	r := wire.Open(s)
	value := k.read(r)
	if r.Left() == 0 && !r.Done() {
		return false
	}
	if got, want := k.write(value), s[:len(s)-r.Left()]; got != want {
		t.Errorf("%s of %q is %v, whose encoding is %q", k.name, want, value, got)
	}
	return true
}

func TestInverse(t *testing.T) { // P2.4
	ints, texts := someInts(), someTexts()
	for i, n := range ints {
		intKind.inverse(t, n)
		if n >= 0 {
			numKind.inverse(t, n)
		}
		numsKind.inverse(t, ints[:i])
		numsKind.inverse(t, []int{n, -n})
	}
	for i, s := range texts {
		textKind.inverse(t, s)
		textsKind.inverse(t, texts[:i])
		textsKind.inverse(t, []string{s, s, ""})
	}
}

// upTo calls visit with all strings of at most n of the bytes of alphabet.
func upTo(n int, alphabet string, visit func(string)) {
	buf := make([]byte, 0, n)
	var extend func()
	extend = func() {
		visit(string(buf))
		if len(buf) == n {
			return
		}
		for i := range len(alphabet) {
			buf = append(buf, alphabet[i])
			extend()
			buf = buf[:len(buf)-1]
		}
	}
	extend()
}

// checkAll checks P2.2 and P2.4 on all short strings: a value is read exactly where one of encodings, which are all that there are, stands, and no two of them stand there.
func (k kind[T]) checkAll(t *testing.T, n int, alphabet string, encodings map[string]T) {
	t.Helper()
	found := 0
	upTo(n, alphabet, func(s string) {
		size := -1
		for i := range len(s) + 1 {
			if _, ok := encodings[s[:i]]; ok {
				if size >= 0 {
					t.Fatalf("%s: %q is a prefix of %q", k.name, s[:size], s[:i])
				}
				size = i
			}
		}
		if size == len(s) {
			found++
		}
		if ok := k.canonical(t, s); ok != (size >= 0) {
			t.Fatalf("%s of %q: read %v", k.name, s, ok)
		}
		if size >= 0 {
			k.reads(t, s, encodings[s[:size]], len(s)-size)
		}
	})
	if found != len(encodings) {
		t.Errorf("%s: %d of %d encodings were found", k.name, found, len(encodings))
	}
}

func TestAllShortStrings(t *testing.T) { // P2.2, P2.4
	nums, ints := map[string]int{}, map[string]int{}
	for n := -222; n <= 2222; n++ {
		s := strconv.Itoa(n) + ";"
		if strings.Trim(s, "-012;") != "" {
			continue
		}
		ints[s] = n
		if n >= 0 {
			nums[s] = n
		}
	}
	numKind.checkAll(t, 5, "-012;:", nums)
	intKind.checkAll(t, 5, "-012;:", ints)

	texts := map[string]string{}
	upTo(4, "-012:,", func(s string) {
		if len(s) <= 2 {
			texts[strconv.Itoa(len(s))+":"+s+","] = s
		}
	})
	textKind.checkAll(t, 6, "-012:,", texts)

	numLists := map[string][]int{"0[]": nil, "2[0;0;]": {0, 0}, "2[0;1;]": {0, 1}, "2[0;2;]": {0, 2}, "2[1;0;]": {1, 0}, "2[1;1;]": {1, 1}, "2[1;2;]": {1, 2}, "2[2;0;]": {2, 0}, "2[2;1;]": {2, 1}, "2[2;2;]": {2, 2}}
	for s, n := range ints {
		if len(s) <= 4 {
			numLists["1["+s+"]"] = []int{n}
		}
	}
	numsKind.checkAll(t, 7, "-012;[]", numLists)

	textLists := map[string][]string{"0[]": nil, "1[0:,]": {""}}
	for _, c := range []string{"-", "0", "1", "2", ":", ",", "[", "]"} {
		textLists["1[1:"+c+",]"] = []string{c}
	}
	textsKind.checkAll(t, 7, "-012:,[]", textLists)
}

func TestPrefixes(t *testing.T) { // P2.4
	var nums, ints, texts, numLists, textLists []string
	for _, n := range someInts() {
		ints = append(ints, wire.Int(n))
		numLists = append(numLists, wire.Nums([]int{n}), wire.Nums([]int{n, 0}), wire.Nums([]int{0, n}))
		if n >= 0 {
			nums = append(nums, wire.Num(n))
		}
	}
	for _, s := range someTexts() {
		texts = append(texts, wire.Text(s))
		textLists = append(textLists, wire.Texts([]string{s}), wire.Texts([]string{s, ""}), wire.Texts([]string{"", s}))
	}
	for _, all := range [][]string{nums, ints, texts, numLists, textLists} {
		slices.Sort(all) // a prefix of any later string is one of the next string
		all = slices.Compact(all)
		for i := 1; i < len(all); i++ {
			if strings.HasPrefix(all[i], all[i-1]) {
				t.Errorf("%.80q is a prefix of %.80q", all[i-1], all[i])
			}
		}
	}
}

func TestConcatenation(t *testing.T) { // P2.5
	random := rand.New(rand.NewSource(1))
	ints, texts := someInts(), someTexts()
	texts = texts[:len(texts)-1] // not the long one
	for range 2000 {
		s := ""
		var checks []func(*wire.Reader) bool
		add := func(encoding string, check func(*wire.Reader) bool) {
			s += encoding
			checks = append(checks, check)
		}
		for range random.Intn(12) {
			n := ints[random.Intn(len(ints))]
			str := texts[random.Intn(len(texts))]
			switch random.Intn(6) {
			case 0:
				m := max(n, 0)
				add(wire.Num(m), func(r *wire.Reader) bool { return r.Num() == m })
			case 1:
				add(wire.Int(n), func(r *wire.Reader) bool { return r.Int() == n })
			case 2:
				add(wire.Text(str), func(r *wire.Reader) bool { return r.Text() == str })
			case 3:
				inner := s // all of what was written so far, as a string
				add(wire.Text(inner), func(r *wire.Reader) bool { return r.Text() == inner })
			case 4:
				l := ints[:random.Intn(5)]
				add(wire.Nums(l), func(r *wire.Reader) bool { return slices.Equal(r.Nums(), l) })
			case 5:
				l := []string{str, s, wire.Text(str)}[:random.Intn(4)]
				add(wire.Texts(l), func(r *wire.Reader) bool { return slices.Equal(r.Texts(), l) })
			}
		}
		r := wire.Open(s)
		for i, check := range checks {
			if r.Done() || !check(r) {
				t.Fatalf("%q: value %d was not read", s, i)
			}
		}
		if !r.Done() || r.Left() != 0 {
			t.Fatalf("%q: %d bytes are left", s, r.Left())
		}
	}
}

func TestNesting(t *testing.T) { // P2.5
	for _, inner := range someTexts() {
		s := inner
		for depth := range 30 {
			if depth%2 == 0 {
				s = wire.Text(s)
			} else {
				s = wire.Texts([]string{"]", s, ","})
			}
		}
		for depth := 29; depth >= 0; depth-- {
			r := wire.Open(s)
			if depth%2 == 0 {
				s = r.Text()
			} else if l := r.Texts(); len(l) == 3 && l[0] == "]" && l[2] == "," {
				s = l[1]
			}
			if !r.Done() {
				t.Fatalf("%.80q at depth %d: %d bytes are left", inner, depth, r.Left())
			}
		}
		if s != inner {
			t.Errorf("%.80q became %.80q", inner, s)
		}
	}
}
