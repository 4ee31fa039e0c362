package journal_test

import (
	"encoding/binary"
	"hash/crc32"
	"math"
	"math/rand"
	"slices"
	"strconv"
	"strings"
	"testing"

	"missive/api"
	"missive/disk"
	"missive/journal"
)

const (
	fileCount = 12
	maxSize   = 1 << 24
)

// zeros are n bytes 0.
func zeros(n int) string { return strings.Repeat("\x00", n) }

// letters are n bytes, of which no two in a row of 251 are the same, nor 0.
func letters(n int) string {
	b := make([]byte, n)
	for i := range b {
		b[i] = byte(1 + i%251)
	}
	return string(b)
}

// number is the form of a number.
func number(n int) string { return string(binary.LittleEndian.AppendUint64(nil, uint64(n))) }

// form is the form of a row.
func form(row string) string {
	return number(len(row)) + number(int(crc32.ChecksumIEEE([]byte(row)))) + row
}

// forms are the forms of rows, one after the other.
func forms(rows ...string) string {
	out := ""
	for _, row := range rows {
		out += form(row)
	}
	return out
}

// header is the header for rows.
func header(rows ...string) string { return number(16+len(forms(rows...))) + number(len(rows)) }

// image is the shortest file with these rows.
func image(rows ...string) string { return header(rows...) + forms(rows...) }

// must fails the test if a call did not return OK.
func must(t *testing.T, e api.Errno) {
	t.Helper()
	if e != api.OK {
		t.Fatal("error", e)
	}
}

// mustBe fails the test if a call did not return an error.
func mustBe(t *testing.T, got, want api.Errno) {
	t.Helper()
	if got != want {
		t.Fatalf("error %d instead of %d", got, want)
	}
}

// open is the log of a file, or fails the test.
func open(t *testing.T, d *disk.Disk, f int) *journal.Log {
	t.Helper()
	l, e := journal.Open(d, f)
	if l == nil || e != api.OK {
		t.Fatalf("Open of %d: %v and error %d", f, l, e)
	}
	return l
}

// fresh is a disk with the log of an empty file 2.
func fresh(t *testing.T) (*disk.Disk, *journal.Log) {
	t.Helper()
	d := disk.New()
	return d, open(t, d, 2)
}

// sureLog is a disk with the log of file 2, with sure rows.
func sureLog(t *testing.T, rows ...string) (*disk.Disk, *journal.Log) {
	t.Helper()
	d, l := fresh(t)
	must(t, l.Batch(rows))
	has(t, l, len(rows), rows...)
	return d, l
}

// has fails the test if a log does not have these rows, and this number of sure ones.
func has(t *testing.T, l *journal.Log, sure int, rows ...string) {
	t.Helper()
	if got := l.All(); !slices.Equal(got, rows) {
		t.Fatalf("rows %.300q instead of %.300q", got, rows)
	}
	if n := l.Sure(); n != sure {
		t.Fatalf("%d sure rows instead of %d", n, sure)
	}
}

// holds fails the test if a file does not have these bytes.
func holds(t *testing.T, d *disk.Disk, f int, want string) {
	t.Helper()
	got, e := d.Read(f)
	must(t, e)
	if got != want {
		t.Fatalf("file %d: %.300q instead of %.300q", f, got, want)
	}
}

// filled is a disk with a durable file.
func filled(t *testing.T, f int, s string) *disk.Disk {
	t.Helper()
	d := disk.New()
	must(t, d.Write(f, 0, s))
	must(t, d.Flush(f))
	return d
}

// survivor is the disk after a crash and a start of a copy.
func survivor(d *disk.Disk, keep []int) *disk.Disk {
	c := d.Copy()
	c.Crash(keep)
	c.Start()
	return c
}

// found fails the test if file 2 has other rows after a crash.
func found(t *testing.T, d *disk.Disk, keep []int, rows ...string) {
	t.Helper()
	has(t, open(t, survivor(d, keep), 2), len(rows), rows...)
}

// all is a list that keeps all pending writes.
func all() []int { return slices.Repeat([]int{1}, 2000) }

// calls is how many calls of Write, Flush, Cut and Turn a function makes, which gets a disk that is as d, and is to crash it in none of them.
func calls(d *disk.Disk, do func(d *disk.Disk)) int {
	const far = 1000
	c := d.Copy()
	c.Arm(far, nil)
	do(c)
	for n := range far {
		if c.Write(0, 0, ""); c.Down() {
			return far - 1 - n
		}
	}
	return far
}

// defined is what the chapter defines as the rows of a file, or false if it is malformed.
func defined(s string) ([]string, bool) {
	if len(s) < 16 || s[:8] == zeros(8) {
		return nil, true
	}
	end, count := int64(binary.LittleEndian.Uint64([]byte(s))), binary.LittleEndian.Uint64([]byte(s[8:]))
	if end < 16 || end > int64(len(s)) {
		return nil, false
	}
	var rows []string
	for rest := s[16:end]; rest != ""; {
		if len(rest) < 16 {
			return nil, false
		}
		n := binary.LittleEndian.Uint64([]byte(rest))
		if n > uint64(len(rest)) || n+16 > uint64(len(rest)) {
			return nil, false
		}
		row := rest[16 : 16+n]
		if !strings.HasPrefix(rest, form(row)) {
			return nil, false
		}
		rows = append(rows, row)
		rest = rest[16+n:]
	}
	return rows, count == uint64(len(rows))
}

func TestExamples(t *testing.T) { // the chapter's examples
	d, l := fresh(t)
	must(t, l.Append("a"))
	must(t, l.Flush())
	must(t, l.Append("b"))
	found(t, d, nil, "a")

	d, l = fresh(t)
	must(t, l.Append("a"))
	must(t, l.Append("b"))
	found(t, d, nil)

	d, l = fresh(t)
	must(t, l.Batch([]string{"a", "b"}))
	must(t, l.Append("c"))
	found(t, d, nil, "a", "b")

	d, l = fresh(t)
	must(t, l.Append("a"))
	must(t, l.Flush())
	must(t, l.Rewrite([]string{"b", "c"}))
	found(t, d, nil, "b", "c")
}

func TestForms(t *testing.T) { // the definitions, written out
	d, l := fresh(t)
	must(t, l.Batch([]string{"123456789", ""}))
	holds(t, d, 2, "\x39\x00\x00\x00\x00\x00\x00\x00\x02\x00\x00\x00\x00\x00\x00\x00"+
		"\x09\x00\x00\x00\x00\x00\x00\x00\x26\x39\xf4\xcb\x00\x00\x00\x00123456789"+
		"\x00\x00\x00\x00\x00\x00\x00\x00\x00\x00\x00\x00\x00\x00\x00\x00")
}

func TestOpenFiles(t *testing.T) { // P6.1
	d := disk.New()
	for f := range 7 {
		has(t, open(t, d, f), 0)
		must(t, open(t, d, f).Batch([]string{strconv.Itoa(f)}))
		has(t, open(t, d, f), 1, strconv.Itoa(f))
		for g := f + 1; g < fileCount; g++ {
			holds(t, d, g, "")
		}
	}
	bad := []int{-1, 7, 8, 11, 12, 64, -7, 1 << 32, math.MinInt, math.MaxInt}
	for _, f := range bad {
		if l, e := journal.Open(d, f); l != nil || e != api.ErrArg {
			t.Error(f, l, e)
		}
	}
	must(t, d.Write(3, 0, "\xff"))
	d.Crash(all())
	for f := range 7 { // ErrDown is before ErrForm
		if l, e := journal.Open(d, f); l != nil || e != api.ErrDown {
			t.Error(f, l, e)
		}
	}
	for _, f := range bad { // and ErrArg before ErrDown
		if l, e := journal.Open(d, f); l != nil || e != api.ErrArg {
			t.Error("down", f, l, e)
		}
	}
	d.Start()
	if l, e := journal.Open(d, 3); l != nil || e != api.ErrForm {
		t.Error(l, e)
	}
}

func TestOpenRows(t *testing.T) { // P6.1: files with rows, and without
	long := letters(1000)
	for i, c := range []struct {
		file string
		rows []string
	}{
		{"", nil},
		{"a", nil},
		{letters(8), nil},
		{letters(15), nil},
		{number(16) + "1234567", nil},
		{zeros(8), nil},
		{zeros(15), nil},
		{zeros(16), nil},
		{zeros(8) + letters(100), nil},
		{zeros(16) + form("a"), nil},
		{image(), nil},
		{image() + "what stands behind", nil},
		{image() + form("a"), nil},
		{image(""), []string{""}},
		{image("", ""), []string{"", ""}},
		{image("a"), []string{"a"}},
		{image("a") + form("b"), []string{"a"}},
		{image("a") + "\x00", []string{"a"}},
		{image("a", "bc", long, "", zeros(20)), []string{"a", "bc", long, "", zeros(20)}},
		{image(image("a")), []string{image("a")}},
		{image("\xff\x00\r\n"), []string{"\xff\x00\r\n"}},
	} {
		d := filled(t, 5, c.file)
		l, e := journal.Open(d, 5)
		if e != api.OK {
			t.Fatal(i, e)
		}
		if got := l.All(); !slices.Equal(got, c.rows) || l.Sure() != len(c.rows) {
			t.Errorf("%d: %q, %d of them sure", i, got, l.Sure())
		}
		holds(t, d, 5, c.file) // Open changes nothing
	}
}

func TestOpenMalformed(t *testing.T) { // P6.1
	two := forms("a", "bcd")
	a := form("a")
	for i, file := range []string{
		letters(16),
		letters(17),
		number(1) + number(0),
		number(15) + number(0),
		number(17) + number(0),
		number(-1) + number(0) + a,
		number(-16) + number(0),
		number(math.MinInt) + number(0),
		number(math.MaxInt) + number(0),
		number(16+1<<32) + number(0) + a,
		number(16) + number(1),
		number(16) + number(-1),
		number(16) + number(1) + a,
		number(16+len(a)) + number(0) + a,
		number(16+len(a)) + number(2) + a,
		number(16+len(a)) + number(1+1<<32) + a,
		number(16+len(a)) + number(1+1<<56) + a,
		number(16+len(a)) + number(1) + a[:len(a)-1], // e is behind the end of the file
		number(15+len(a)) + number(1) + a,            // e is within the row
		number(17+len(a)) + number(1) + a + "b",
		number(16+len(a)) + number(-1) + a,
		number(16+len(two)) + number(1) + two,
		number(16+len(two)) + number(3) + two,
		number(16+len(two)-1) + number(2) + two,
		number(16+len(a)+15) + number(1) + two, // less than what precedes the bytes of a row
		number(16+len(a)+16) + number(2) + two,
		number(33) + number(1) + number(1) + number(0) + "a", // the Crc
		number(33) + number(1) + number(1) + number(int(crc32.ChecksumIEEE([]byte("a")))+1<<32) + "a",
		number(33) + number(1) + number(1) + number(int(crc32.ChecksumIEEE([]byte("a")))|math.MinInt) + "a",
		number(33) + number(1) + number(2) + a[8:],
		number(33) + number(1) + number(0) + a[8:],
		number(33) + number(1) + number(-1) + a[8:],
		number(33) + number(1) + number(-16) + a[8:],
		number(33) + number(1) + number(1+1<<32) + a[8:],
		number(33) + number(1) + number(math.MinInt) + a[8:],
		number(33) + number(1) + number(math.MinInt+1) + a[8:],
		number(33) + number(1) + number(math.MaxInt) + a[8:],
		number(33) + number(1) + number(math.MaxInt-15) + a[8:],
	} {
		if _, ok := defined(file); ok {
			t.Errorf("%d is not malformed", i)
		}
		d := filled(t, 4, file)
		if l, e := journal.Open(d, 4); l != nil || e != api.ErrForm {
			t.Errorf("%d: %v and error %d", i, l, e)
		}
		holds(t, d, 4, file)
	}
}

func TestOpenDamaged(t *testing.T) { // P6.1: every change of a byte, and every shorter file, against the definition
	rows := []string{"first", "", strings.Repeat("second", 20), "\x00"}
	good := image(rows...) + "behind"
	check := func(file string, what ...int) {
		t.Helper()
		d := filled(t, 1, file)
		want, ok := defined(file)
		l, e := journal.Open(d, 1)
		if !ok && (l != nil || e != api.ErrForm) || ok && (e != api.OK || !slices.Equal(l.All(), want) || l.Sure() != len(want)) {
			t.Fatal(what, l, e, ok)
		}
	}
	for i := range len(good) {
		check(good[:i], i)
		for _, x := range []byte{1, 2, 16, 128, 255, good[i]} {
			b := []byte(good)
			b[i] ^= x
			check(string(b), i, int(x))
		}
	}
}

func TestOpenPending(t *testing.T) { // P6.1: of the bytes of the file, and without a call that changes something
	d := disk.New()
	must(t, d.Write(1, 0, image("a", "b")))
	d.Arm(1, nil)
	d.Lose(1)
	l := open(t, d, 1)
	has(t, l, 2, "a", "b")
	must(t, l.Flush()) // all rows are sure
	if d.Down() {
		t.Error("a call to the disk")
	}
	d.Arm(0, nil)
	mustBe(t, d.Flush(1), api.ErrLost)
	has(t, open(t, survivor(d, nil), 1), 0)
}

func TestOpenTwice(t *testing.T) { // P6.1: logs of other files have nothing in common, and a log is opened again
	d := disk.New()
	one, two := open(t, d, 0), open(t, d, 4)
	must(t, one.Append("a"))
	must(t, two.Append("b"))
	must(t, two.Append("c"))
	has(t, one, 0, "a")
	has(t, two, 0, "b", "c")
	must(t, two.Flush())
	has(t, one, 0, "a")
	must(t, one.Rewrite([]string{"d"}))
	has(t, two, 2, "b", "c")
	has(t, open(t, survivor(d, nil), 0), 1, "d")
	has(t, open(t, survivor(d, nil), 4), 2, "b", "c")
	has(t, open(t, d, 0), 1, "d")
}

func TestAppend(t *testing.T) { // P6.2
	d, l := fresh(t)
	must(t, l.Append("a"))
	holds(t, d, 2, zeros(16)+form("a"))
	has(t, l, 0, "a")
	must(t, l.Append(""))
	must(t, l.Append(letters(300)))
	holds(t, d, 2, zeros(16)+forms("a", "", letters(300)))
	has(t, l, 0, "a", "", letters(300))
	found(t, d, all()) // without a header
	for f := range fileCount {
		if n := d.Size(f); n > 0 && f != 2 {
			t.Error("file", f, "has", n, "bytes")
		}
	}
	must(t, l.Flush())
	must(t, l.Append("b"))
	has(t, l, 3, "a", "", letters(300), "b")
	holds(t, d, 2, header("a", "", letters(300))+forms("a", "", letters(300), "b"))
}

func TestAppendAfterOpen(t *testing.T) { // P6.2: over what stands behind the rows, at their end
	d := filled(t, 2, image("a", "b")+letters(50))
	l := open(t, d, 2)
	must(t, l.Append("c"))
	has(t, l, 2, "a", "b", "c")
	holds(t, d, 2, image("a", "b")+form("c")+letters(50)[17:])
	found(t, d, all(), "a", "b")

	d = filled(t, 2, zeros(8)+letters(50)) // no rows, so the first one stands at 16
	l = open(t, d, 2)
	must(t, l.Append("c"))
	holds(t, d, 2, zeros(8)+letters(8)+form("c")+letters(50)[25:])

	d = filled(t, 2, "abc")
	l = open(t, d, 2)
	must(t, l.Append("c"))
	holds(t, d, 2, "abc"+zeros(13)+form("c"))
}

func TestAppendCalls(t *testing.T) { // P6.2: one call of Write, of the whole form
	d, _ := fresh(t)
	n := calls(d, func(c *disk.Disk) { must(t, open(t, c, 2).Append(letters(200))) })
	if n != 1 {
		t.Error(n, "calls")
	}
	row := letters(40)
	l := open(t, d, 2)
	must(t, l.Append(row))
	for _, c := range []struct {
		keep []int
		want string
	}{
		{nil, ""}, {[]int{1}, zeros(16) + form(row)[:48]}, {[]int{2}, zeros(16) + form(row)[:24]}, {[]int{0, 1}, zeros(64) + form(row)[48:]}, {[]int{1, 1}, zeros(16) + form(row)},
	} {
		holds(t, survivor(d, c.keep), 2, c.want)
	}
}

func TestAppendErrors(t *testing.T) { // P6.2: ErrDown, ErrFull, and the log is as before
	d, l := sureLog(t, "a")
	must(t, l.Append("b"))
	d.Arm(1, all())
	mustBe(t, l.Append("c"), api.ErrDown)
	has(t, l, 1, "a", "b")
	mustBe(t, l.Append("d"), api.ErrDown)
	has(t, l, 1, "a", "b")
	d.Start()
	holds(t, d, 2, header("a")+forms("a", "b", "c")) // the call was performed

	d, l = sureLog(t, "a")
	mustBe(t, l.Append(letters(maxSize)), api.ErrFull)
	has(t, l, 1, "a")
	holds(t, d, 2, image("a"))
	must(t, l.Append("b")) // at the same place
	holds(t, d, 2, header("a")+forms("a", "b"))
	mustBe(t, l.Append(letters(maxSize-16-2*17-16+1)), api.ErrFull)
	has(t, l, 1, "a", "b")
	full := letters(maxSize - 16 - 2*17 - 16)
	must(t, l.Append(full))
	has(t, l, 1, "a", "b", full)
	mustBe(t, l.Append(""), api.ErrFull)
	must(t, l.Flush())
	has(t, l, 3, "a", "b", full)
	found(t, d, nil, "a", "b", full)
}

func TestFlush(t *testing.T) { // P6.3
	d, l := fresh(t)
	must(t, l.Append("a"))
	must(t, l.Append("b"))
	must(t, l.Flush())
	has(t, l, 2, "a", "b")
	holds(t, d, 2, image("a", "b"))
	holds(t, survivor(d, nil), 2, image("a", "b"))
	must(t, l.Append("c"))
	found(t, d, all(), "a", "b")
	must(t, l.Flush())
	has(t, l, 3, "a", "b", "c")
	holds(t, survivor(d, nil), 2, image("a", "b", "c"))
	d.Crash(all())
	d.Start()
	l = open(t, d, 2)
	must(t, l.Append("d"))
	must(t, l.Flush())
	has(t, l, 4, "a", "b", "c", "d")
	found(t, d, nil, "a", "b", "c", "d")
}

func TestFlushOfSureRows(t *testing.T) { // P6.3: no call to the disk, but ErrDown
	for _, rows := range [][]string{nil, {"a"}, {"", "b"}} {
		d, l := sureLog(t, rows...)
		d.Arm(1, nil)
		d.Lose(1)
		for range 3 {
			must(t, l.Flush())
			must(t, l.Batch(nil))
		}
		if d.Down() {
			t.Error("a call to the disk")
		}
		mustBe(t, d.Copy().Write(0, 0, ""), api.ErrDown) // it is still armed
		d.Arm(0, nil)
		mustBe(t, d.Flush(0), api.ErrLost)
		d.Crash(nil)
		mustBe(t, l.Flush(), api.ErrDown)
		has(t, l, len(rows), rows...)
	}
}

func TestFlushSteps(t *testing.T) { // P6.3: each step, and what a crash in it leaves
	d, l := sureLog(t, "a")
	must(t, l.Append("b"))
	if n := calls(d, func(c *disk.Disk) {
		l := open(t, c, 2)
		must(t, l.Append("b"))
		must(t, l.Flush())
	}); n != 1+3 {
		t.Error(n-1, "calls")
	}
	old, new := header("a")+forms("a", "b"), image("a", "b")
	for i, c := range []struct {
		call int
		keep []int
		file string
		rows []string
	}{
		{1, nil, image("a"), []string{"a"}},
		{1, []int{1}, old, []string{"a"}},
		{2, nil, old, []string{"a"}},
		{2, []int{1}, new, []string{"a", "b"}}, // the header is written, and pending
		{2, []int{2}, new, []string{"a", "b"}}, // and is never torn
		{3, nil, old, []string{"a"}},
		{3, []int{0, 1}, old, []string{"a"}},
		{3, []int{1}, new, []string{"a", "b"}},
		{3, []int{2}, new, []string{"a", "b"}},
	} {
		d, l := sureLog(t, "a")
		must(t, l.Append("b"))
		d.Arm(c.call, c.keep)
		if e := l.Flush(); e != api.ErrDown {
			t.Error(i, "error", e)
		}
		has(t, l, 1, "a", "b") // not sure
		mustBe(t, l.Flush(), api.ErrDown)
		has(t, l, 1, "a", "b")
		d.Start()
		holds(t, d, 2, c.file)
		has(t, open(t, d, 2), len(c.rows), c.rows...)
	}
	d, l = sureLog(t, "a")
	must(t, l.Append("b"))
	d.Arm(4, nil)
	must(t, l.Flush())
}

func TestFlushLost(t *testing.T) { // P6.3: ErrLost, up to the first error
	d, l := sureLog(t, "a")
	must(t, l.Append("b"))
	must(t, d.Write(0, 0, "of another file"))
	d.Lose(2)
	mustBe(t, l.Flush(), api.ErrLost)
	has(t, l, 1, "a", "b")
	holds(t, d, 2, header("a")+forms("a", "b")) // no header was written
	found(t, d, nil, "a")
	must(t, l.Append("c"))
	mustBe(t, l.Flush(), api.ErrLost)
	has(t, l, 1, "a", "b", "c")
	must(t, l.Flush())
	has(t, l, 3, "a", "b", "c")
	found(t, d, nil, "a", "b", "c")
	holds(t, survivor(d, nil), 0, "") // only the file of the log was flushed
}

func TestBatch(t *testing.T) { // P6.4
	d, l := fresh(t)
	must(t, l.Batch([]string{"a", letters(100), ""}))
	has(t, l, 3, "a", letters(100), "")
	holds(t, survivor(d, nil), 2, image("a", letters(100), ""))
	must(t, l.Append("b"))
	must(t, l.Batch([]string{"c"})) // also the row before becomes sure
	has(t, l, 5, "a", letters(100), "", "b", "c")
	holds(t, survivor(d, nil), 2, image("a", letters(100), "", "b", "c"))
	must(t, l.Append("d"))
	must(t, l.Batch([]string{})) // no rows: a flush
	has(t, l, 6, "a", letters(100), "", "b", "c", "d")
	found(t, d, nil, "a", letters(100), "", "b", "c", "d")
}

func TestBatchSteps(t *testing.T) { // P6.4: one Write of all rows, then Flush
	for rows, want := range map[string]int{"": 0, "a": 4, "a b": 4, "a b c": 4} {
		d, _ := fresh(t)
		if n := calls(d, func(c *disk.Disk) { must(t, open(t, c, 2).Batch(strings.Fields(rows))) }); n != want {
			t.Errorf("%q: %d calls", rows, n)
		}
	}
	for i, c := range []struct {
		rows  []string // of the log
		found []string // if all pending writes survive
	}{
		{[]string{"a"}, []string{"a"}},
		{[]string{"a", "b", "c"}, []string{"a"}},
		{[]string{"a", "b", "c"}, []string{"a", "b", "c"}},
		{[]string{"a", "b", "c"}, []string{"a", "b", "c"}},
	} {
		for _, keep := range [][]int{nil, all()} {
			d, l := sureLog(t, "a")
			d.Arm(i+1, keep)
			mustBe(t, l.Batch([]string{"b", "c"}), api.ErrDown)
			has(t, l, 1, c.rows...)
			want := c.found
			if keep == nil {
				want = []string{"a"}
			}
			d.Start()
			has(t, open(t, d, 2), len(want), want...)
			if i == 0 && keep != nil {
				holds(t, d, 2, header("a")+forms("a", "b", "c")) // both were written, in one call
			}
		}
	}
}

func TestBatchErrors(t *testing.T) { // P6.4: if Write fails the log is as before; if Flush fails the rows are its rows
	d, l := sureLog(t, "a")
	must(t, l.Append("b"))
	mustBe(t, l.Batch([]string{"c", letters(maxSize - 16 - 3*17 - 16 + 1)}), api.ErrFull)
	has(t, l, 1, "a", "b") // it was not flushed either
	holds(t, d, 2, header("a")+forms("a", "b"))
	found(t, d, nil, "a")
	must(t, l.Batch([]string{"c"}))
	holds(t, d, 2, image("a", "b", "c"))

	d, l = sureLog(t, "a")
	d.Lose(1)
	mustBe(t, l.Batch([]string{"b", "c"}), api.ErrLost)
	has(t, l, 1, "a", "b", "c")
	found(t, d, nil, "a")
	d.Lose(1)
	mustBe(t, l.Batch(nil), api.ErrLost)
	has(t, l, 1, "a", "b", "c")
	must(t, l.Batch([]string{"d"}))
	has(t, l, 4, "a", "b", "c", "d")
	found(t, d, nil, "a", "b", "c", "d")

	d.Crash(nil)
	for _, rows := range [][]string{nil, {"e"}} {
		mustBe(t, l.Batch(rows), api.ErrDown)
		has(t, l, 4, "a", "b", "c", "d")
	}

	d, l = fresh(t)
	must(t, l.Batch([]string{letters(maxSize - 16 - 3*16), "", ""})) // a file of exactly this size
	if l.Sure() != 3 || d.Size(2) != maxSize {
		t.Error(l.Sure(), d.Size(2))
	}
}

func TestRewrite(t *testing.T) { // P6.5
	long := letters(200)
	for _, rows := range [][]string{nil, {}, {""}, {"x"}, {"x", long, "", "y"}, {"a"}} {
		d, l := sureLog(t, "a", "b")
		must(t, l.Append("c"))
		must(t, d.Write(3, 5, letters(300))) // what the next file had does not matter
		must(t, l.Rewrite(rows))
		has(t, l, len(rows), rows...)
		holds(t, d, 2, image(rows...))
		holds(t, d, 3, "")
		holds(t, survivor(d, nil), 2, image(rows...))
		must(t, l.Flush())
		must(t, l.Append("z")) // behind the new rows
		holds(t, d, 2, image(rows...)+form("z"))
		must(t, l.Flush())
		found(t, d, nil, append(slices.Clone(rows), "z")...)
		for f := range fileCount {
			if n := d.Size(f); n > 0 && f != 2 {
				t.Error("file", f, "has", n, "bytes")
			}
		}
	}
}

func TestRewriteSteps(t *testing.T) { // P6.5: each step, and what a crash in it leaves
	d, _ := sureLog(t, "a")
	must(t, d.Write(3, 0, "old"))
	if n := calls(d, func(c *disk.Disk) { must(t, open(t, c, 2).Rewrite([]string{"x", "y"})) }); n != 4 {
		t.Error(n, "calls")
	}
	for i, c := range []struct{ lost, kept string }{ // the next file, if no pending write survives, and if all do
		{"old", "old"}, // it is not cut
		{"", image("x", "y")},
		{"", image("x", "y")},
		{image("x", "y"), image("x", "y")},
	} {
		for _, keep := range [][]int{nil, all()} {
			d, l := sureLog(t, "a")
			must(t, d.Write(3, 0, "old"))
			must(t, d.Flush(3))
			must(t, l.Append("b"))
			d.Arm(i+1, keep)
			mustBe(t, l.Rewrite([]string{"x", "y"}), api.ErrDown)
			has(t, l, 1, "a", "b")
			d.Start()
			has(t, open(t, d, 2), 1, "a")
			want := c.kept
			if keep == nil {
				want = c.lost
			}
			holds(t, d, 3, want)
		}
	}
	d, l := sureLog(t, "a")
	d.Arm(5, nil)
	must(t, l.Rewrite([]string{"x", "y"}))
	mustBe(t, l.Append("z"), api.ErrDown)
}

func TestRewriteErrors(t *testing.T) { // P6.5: the log is as before
	d, l := sureLog(t, "a")
	must(t, l.Append("b"))
	d.Lose(1)
	mustBe(t, l.Rewrite([]string{"x", "y"}), api.ErrLost)
	has(t, l, 1, "a", "b")
	holds(t, d, 2, header("a")+forms("a", "b"))
	holds(t, d, 3, image("x", "y")) // it was written before
	found(t, d, all(), "a")
	must(t, l.Append("c")) // where it would have stood
	must(t, l.Flush())
	has(t, l, 3, "a", "b", "c")
	found(t, d, nil, "a", "b", "c")
	must(t, l.Rewrite([]string{"z"})) // what was left in the next file is cut
	holds(t, survivor(d, nil), 2, image("z"))

	mustBe(t, l.Rewrite([]string{"x", letters(maxSize - 16 - 17 - 16 + 1)}), api.ErrFull)
	has(t, l, 1, "z")
	holds(t, d, 2, image("z"))
	holds(t, d, 3, "")
	full := letters(maxSize - 16 - 17 - 16)
	must(t, l.Rewrite([]string{"x", full}))
	has(t, l, 2, "x", full)
	mustBe(t, l.Append(""), api.ErrFull)

	d.Crash(nil)
	mustBe(t, l.Rewrite(nil), api.ErrDown)
	mustBe(t, l.Rewrite([]string{"x"}), api.ErrDown)
	has(t, l, 2, "x", full)
}

func TestRewriteLastFile(t *testing.T) { // P6.5: the last file that a log can have
	d := disk.New()
	l := open(t, d, 6)
	must(t, l.Batch([]string{"a"}))
	must(t, l.Rewrite([]string{"b"}))
	holds(t, d, 6, image("b"))
	holds(t, d, 7, "")
}

func TestAll(t *testing.T) { // P6.6
	d, l := fresh(t)
	has(t, l, 0)
	var rows []string
	for i := range 100 {
		row := strings.Repeat(strconv.Itoa(i), i%7)
		rows = append(rows, row)
		must(t, l.Append(row))
		has(t, l, i/10*10, rows...)
		if i%10 == 9 {
			must(t, l.Flush())
			has(t, l, i+1, rows...)
		}
	}
	d.Crash(nil) // also of a machine that is down
	has(t, l, 100, rows...)
}

func TestMemory(t *testing.T) { // P6.7, P3
	d, l := fresh(t)
	rows := []string{"a", "b", "not", "these"}
	must(t, l.Batch(rows[:2]))
	if !slices.Equal(rows, []string{"a", "b", "not", "these"}) {
		t.Error("Batch changed", rows)
	}
	rows[0], rows[1] = "A", "B"
	has(t, l, 2, "a", "b")
	got := l.All()
	got[0] = "changed"
	_ = append(got[:1], "changed", "changed")
	has(t, l, 2, "a", "b")
	must(t, l.Append("c"))
	has(t, l, 2, "a", "b", "c")
	if got[0] != "changed" {
		t.Error(got)
	}

	rows = []string{"x", "y", "not", "these"}
	must(t, l.Rewrite(rows[:2]))
	rows[0] = "X"
	has(t, l, 2, "x", "y")
	must(t, l.Append("z")) // not into the argument
	if !slices.Equal(rows, []string{"X", "y", "not", "these"}) {
		t.Error("Rewrite changed", rows)
	}
	must(t, l.Batch(l.All())) // its own rows
	has(t, l, 6, "x", "y", "z", "x", "y", "z")
	must(t, l.Rewrite(l.All()[1:3]))
	has(t, l, 2, "y", "z")
	found(t, d, nil, "y", "z")
}

// model is a log as the chapter defines it, over a disk of its own.
type model struct {
	d    *disk.Disk
	f    int
	rows []string
	sure int
}

// steps makes calls up to the first one that returns an error.
func steps(list ...func() api.Errno) api.Errno {
	for _, call := range list {
		if e := call(); e != api.OK {
			return e
		}
	}
	return api.OK
}

func (m *model) append(rows ...string) api.Errno {
	e := m.d.Write(m.f, 16+len(forms(m.rows...)), forms(rows...))
	if e == api.OK {
		m.rows = append(slices.Clone(m.rows), rows...)
	}
	return e
}

func (m *model) flush() api.Errno {
	if m.sure == len(m.rows) && m.d.Down() {
		return api.ErrDown
	}
	if m.sure == len(m.rows) {
		return api.OK
	}
	e := steps(
		func() api.Errno { return m.d.Flush(m.f) },
		func() api.Errno { return m.d.Write(m.f, 0, header(m.rows...)) },
		func() api.Errno { return m.d.Flush(m.f) })
	if e == api.OK {
		m.sure = len(m.rows)
	}
	return e
}

func (m *model) batch(rows []string) api.Errno {
	if len(rows) > 0 {
		if e := m.append(rows...); e != api.OK {
			return e
		}
	}
	return m.flush()
}

func (m *model) rewrite(rows []string) api.Errno {
	e := steps(
		func() api.Errno { return m.d.Cut(m.f+1, 0) },
		func() api.Errno { return m.d.Write(m.f+1, 0, image(rows...)) },
		func() api.Errno { return m.d.Flush(m.f + 1) },
		func() api.Errno { return m.d.Turn(m.f, m.f+1) })
	if e == api.OK {
		m.rows, m.sure = slices.Clone(rows), len(rows)
	}
	return e
}

// someRows are a few rows, of which some are longer than a pending write.
func someRows(r *rand.Rand) []string {
	out := make([]string, r.Intn(4))
	for i := range out {
		out[i] = letters(250)[r.Intn(100):][:[]int{0, 1, 5, 30, 90, 150}[r.Intn(6)]]
	}
	return out
}

// someKeep is a list of numbers that say what survives.
func someKeep(r *rand.Rand) []int {
	out := make([]int, r.Intn(20))
	for i := range out {
		out[i] = []int{0, 1, 1, 1, 2, 2, 3, -1}[r.Intn(8)]
	}
	return out
}

// sameDisks fails the test if two disks differ, also in what a crash leaves.
func sameDisks(t *testing.T, a, b *disk.Disk, keep []int) {
	t.Helper()
	for range 2 {
		for f := range fileCount {
			s, e := a.Read(f)
			if u, g := b.Read(f); s != u || e != g {
				t.Fatalf("file %d: %.300q and error %d instead of %.300q and %d", f, s, e, u, g)
			}
		}
		a, b = survivor(a, keep), survivor(b, keep)
	}
}

// random performs one call on a log and its model.
func random(t *testing.T, r *rand.Rand, l *journal.Log, m *model) {
	t.Helper()
	var got, want api.Errno
	rows := someRows(r)
	switch op := r.Intn(8); {
	case op < 3:
		row := strings.Join(rows, "")
		got, want = l.Append(row), m.append(row)
	case op < 5:
		got, want = l.Flush(), m.flush()
	case op < 7:
		got, want = l.Batch(rows), m.batch(rows)
	default:
		got, want = l.Rewrite(rows), m.rewrite(rows)
	}
	mustBe(t, got, want)
	has(t, l, m.sure, m.rows...)
}

func TestRandomCalls(t *testing.T) { // P6.1 to P6.6: against the definitions, with the same faults on two disks
	for seed := range 300 {
		r := rand.New(rand.NewSource(int64(seed)))
		d, f := disk.New(), r.Intn(7)
		l, m := open(t, d, f), &model{d: disk.New(), f: f}
		for range 60 {
			switch r.Intn(12) {
			case 0:
				n, keep := r.Intn(12), someKeep(r)
				d.Arm(n, keep)
				m.d.Arm(n, keep)
			case 1:
				n := r.Intn(3)
				d.Lose(n)
				m.d.Lose(n)
			case 2:
				if keep := someKeep(r); r.Intn(4) == 0 {
					d.Crash(keep)
					m.d.Crash(keep)
				}
			}
			random(t, r, l, m)
			sameDisks(t, d, m.d, someKeep(r))
			if d.Down() && r.Intn(3) > 0 {
				d.Start()
				m.d.Start()
				l = open(t, d, f)
				s, e := m.d.Read(f)
				must(t, e)
				rows, ok := defined(s)
				if !ok {
					t.Fatal("malformed")
				}
				m.rows, m.sure = rows, len(rows)
				has(t, l, m.sure, m.rows...)
			}
		}
	}
}

// claim is what may be found after a crash: the sure rows, and those of the calls since.
type claim struct {
	rows    []string // of the log
	allowed [][]string
}

// perform calls a function of a log, and changes the claim as P6.8 says.
func (c *claim) perform(l *journal.Log, op byte, n int) {
	a, b := "a"+strconv.Itoa(n), strings.Repeat("b", 30)+strconv.Itoa(n)
	switch op {
	case 'A':
		if l.Append(a) == api.OK {
			c.rows = append(slices.Clone(c.rows), a)
		}
		return
	case 'F':
		c.returns(l.Flush(), c.rows)
	case 'B':
		c.returns(l.Batch([]string{a, b}), append(slices.Clone(c.rows), a, b))
	case 'R':
		c.returns(l.Rewrite([]string{b, a}), []string{b, a})
	}
	c.rows = l.All()
}

func (c *claim) returns(e api.Errno, rows []string) {
	if e == api.OK {
		c.allowed = nil
	}
	c.allowed = append(c.allowed, rows)
}

// holds reports whether rows may be found.
func (c *claim) holds(rows []string) bool {
	return slices.ContainsFunc(c.allowed, func(x []string) bool { return slices.Equal(x, rows) })
}

// words are the strings of up to n of the letters.
func words(letters string, n int) []string {
	out := []string{""}
	for from := 0; n > 0; n-- {
		until := len(out)
		for _, w := range out[from:until] {
			for _, x := range letters {
				out = append(out, w+string(x))
			}
		}
		from = until
	}
	return out
}

// keeps are lists of what survives: each of up to four numbers, and some longer ones.
func keeps() [][]int {
	out := [][]int{all(), slices.Repeat([]int{2}, 100), append(make([]int, 4), all()...), append(make([]int, 6), all()...)}
	for _, w := range words("\x00\x01\x02", 4) {
		keep := make([]int, len(w))
		for i := range keep {
			keep[i] = int(w[i])
		}
		out = append(out, keep)
	}
	return out
}

func TestCrashes(t *testing.T) { // P6.8: short scripts of calls, with a crash in each call of the disk, and with lost flushes
	lists := keeps()
	seen := map[bool]int{}
	for _, start := range []string{"", image("x", strings.Repeat("y", 40)), zeros(8) + letters(60)} {
		rows, _ := defined(start)
		for _, script := range words("AFBR", 3) {
			for at := range 3*len(script) + 2 { // the call of the disk that crashes; 0 is none
				for _, keep := range lists {
					d := filled(t, 2, start)
					d.Lose((at + len(script)) % 2)
					d.Arm(at, keep)
					l, c := open(t, d, 2), claim{rows, [][]string{rows}}
					for i := range len(script) {
						c.perform(l, script[i], i)
					}
					d.Crash(keep)
					d.Start()
					got := open(t, d, 2).All()
					if !c.holds(got) {
						t.Fatalf("%s, crash in call %d, keep %v: found %q, not one of %q", script, at, keep[:min(len(keep), 8)], got, c.allowed)
					}
					seen[slices.Equal(got, c.allowed[0])]++
				}
			}
		}
	}
	if seen[true] == 0 || seen[false] == 0 {
		t.Error("the rows of an interrupted call were found", seen[false], "times")
	}
}

func TestLongHistory(t *testing.T) { // P6.8: crashes, again and again
	for seed := range 40 {
		r := rand.New(rand.NewSource(int64(seed)))
		d := disk.New()
		var rows []string
		for range 30 {
			l := open(t, d, 2)
			has(t, l, len(rows), rows...)
			d.Lose(r.Intn(3))
			d.Arm(1+r.Intn(20), someKeep(r))
			c := claim{rows, [][]string{rows}}
			for i := 0; !d.Down(); i++ {
				c.perform(l, "AAAFBBR"[r.Intn(7)], 100*r.Intn(1000)+i)
			}
			d.Start()
			rows = open(t, d, 2).All()
			if !c.holds(rows) {
				t.Fatalf("found %q, not one of %q", rows, c.allowed)
			}
		}
	}
}
