package disk_test

import (
	"math"
	"math/rand"
	"slices"
	"strconv"
	"strings"
	"testing"

	"missive/api"
	"missive/disk"
)

const (
	fileCount = 12
	maxSize   = 1 << 24
)

// noFiles are numbers of no file.
func noFiles() []int {
	return []int{-1, fileCount, fileCount + 1, -fileCount, 64, 1 << 32, math.MinInt, math.MinInt + 1, math.MaxInt}
}

// zeros are n bytes 0.
func zeros(n int) string { return strings.Repeat("\x00", n) }

// letters are n bytes, of which no two in a row of 251 are the same, nor 0.
func letters(n int) string {
	b := make([]byte, n)
	for i := range b {
		b[i] = byte(1 + i%251)
	}
	return string(b)
}

// ones is a list that keeps n pending writes.
func ones(n int) []int { return slices.Repeat([]int{1}, n) }

// only is a list that keeps one pending write.
func only(i int) []int { return append(make([]int, i), 1) }

// must fails the test if a call did not return OK.
func must(t *testing.T, e api.Errno) {
	t.Helper()
	if e != api.OK {
		t.Fatal("error", e)
	}
}

// mustBe fails the test if a call did not return an error.
func mustBe(t *testing.T, got, want api.Errno) {
	t.Helper()
	if got != want {
		t.Fatalf("error %d instead of %d", got, want)
	}
}

// read is what Read returns, or fails the test.
func read(t *testing.T, d *disk.Disk, f int) string {
	t.Helper()
	s, e := d.Read(f)
	must(t, e)
	return s
}

// holds fails the test if a file does not have these bytes.
func holds(t *testing.T, d *disk.Disk, f int, want string) {
	t.Helper()
	if got := read(t, d, f); got != want {
		t.Fatalf("file %d: %.200q instead of %.200q", f, got, want)
	}
	if n := d.Size(f); n != len(want) {
		t.Fatalf("file %d: Size %d instead of %d", f, n, len(want))
	}
}

// survives is the disk after a crash and a start of a copy.
func survives(d *disk.Disk, keep []int) *disk.Disk {
	c := d.Copy()
	c.Crash(keep)
	c.Start()
	return c
}

// keeps fails the test if a file has other bytes after a crash.
func keeps(t *testing.T, d *disk.Disk, keep []int, f int, want string) {
	t.Helper()
	holds(t, survives(d, keep), f, want)
}

// filled is a disk with a durable file 0.
func filled(t *testing.T, s string) *disk.Disk {
	t.Helper()
	d := disk.New()
	must(t, d.Write(0, 0, s))
	must(t, d.Flush(0))
	return d
}

// model is the disk as the chapter defines it: its files are strings, and each pending write has a number for its place in the list.
type model struct {
	durable [fileCount]string
	pending map[int]write
	made    int
	down    bool
	lost    int
	left    int // calls up to the scheduled crash, or 0
	keep    []int
}

type write struct {
	f, at int
	s     string
}

// list are the numbers of the pending writes, in their order.
func (m *model) list() []int {
	var out []int
	for n := range m.made {
		if _, ok := m.pending[n]; ok {
			out = append(out, n)
		}
	}
	return out
}

func putInto(s string, at int, piece string) string {
	if len(s) < at {
		s += zeros(at - len(s))
	}
	if len(s) < at+len(piece) {
		return s[:at] + piece
	}
	return s[:at] + piece + s[at+len(piece):]
}

func (m *model) bytes(f int) string {
	s := m.durable[f]
	for _, n := range m.list() {
		if w := m.pending[n]; w.f == f {
			s = putInto(s, w.at, w.s)
		}
	}
	return s
}

// set makes s the durable part of a file without pending writes.
func (m *model) set(f int, s string) {
	m.durable[f] = s
	for n, w := range m.pending {
		if w.f == f {
			delete(m.pending, n)
		}
	}
}

func (m *model) crash(keep []int) {
	if m.down {
		return
	}
	for i, n := range m.list() {
		w := m.pending[n]
		switch {
		case i >= len(keep):
		case keep[i] == 1:
			m.durable[w.f] = putInto(m.durable[w.f], w.at, w.s)
		case keep[i] == 2:
			m.durable[w.f] = putInto(m.durable[w.f], w.at, w.s[:min(24, len(w.s))])
		}
	}
	m.pending, m.down, m.left, m.keep = map[int]write{}, true, 0, nil
}

// step is one of the calls that return an error; op is its name, in which a is the offset, the length or the second file.
func (m *model) step(op string, f, a int, s string) api.Errno {
	if m.down {
		return api.ErrDown
	}
	crashes := m.left == 1
	m.left = max(m.left-1, 0)
	e := api.OK
	if op == "Write" || !crashes {
		e = m.perform(op, f, a, s)
	}
	if crashes {
		m.crash(m.keep)
		return api.ErrDown
	}
	return e
}

func (m *model) perform(op string, f, a int, s string) api.Errno {
	if f < 0 || f >= fileCount {
		return api.ErrArg
	}
	switch op {
	case "Write":
		return m.write(f, a, s)
	case "Flush":
		if m.lost > 0 {
			m.lost--
			return api.ErrLost
		}
		m.set(f, m.bytes(f))
	case "Cut":
		if a < 0 || a > len(m.bytes(f)) {
			return api.ErrArg
		}
		m.set(f, m.bytes(f)[:a])
	case "Turn":
		if a < 0 || a >= fileCount || a == f {
			return api.ErrArg
		}
		for _, w := range m.pending {
			if w.f == a {
				return api.ErrState
			}
		}
		m.set(f, m.durable[a])
		m.set(a, "")
	}
	return api.OK
}

func (m *model) write(f, at int, s string) api.Errno {
	if at < 0 {
		return api.ErrArg
	}
	if at > maxSize || at+len(s) > maxSize {
		return api.ErrFull
	}
	from := 0
	for i := 1; i <= len(s); i++ {
		if i == len(s) || (at+i)%64 == 0 {
			m.pending[m.made] = write{f, at + from, s[from:i]}
			m.made++
			from = i
		}
	}
	return api.OK
}

func (m *model) copy() *model {
	c := *m
	c.pending = map[int]write{}
	for n, w := range m.pending {
		c.pending[n] = w
	}
	return &c
}

// pair is a disk beside its model.
type pair struct {
	d *disk.Disk
	m *model
}

// agree fails the test if the disk is not as its model is.
func (p pair) agree(t *testing.T, what string) {
	t.Helper()
	if p.d.Down() != p.m.down {
		t.Fatal(what, "Down", p.d.Down())
	}
	for f := range fileCount {
		want := p.m.bytes(f)
		if n := p.d.Size(f); n != len(want) {
			t.Fatal(what, "Size", f, n, len(want))
		}
		s, e := p.d.Read(f)
		if p.m.down && (s != "" || e != api.ErrDown) || !p.m.down && (s != want || e != api.OK) {
			t.Fatalf("%s: Read of %d: %.200q and %d instead of %.200q", what, f, s, e, want)
		}
	}
}

// someKeep is a list of numbers of which most say that something survives.
func someKeep(r *rand.Rand) []int {
	out := make([]int, r.Intn(20))
	for i := range out {
		out[i] = []int{0, 1, 1, 1, 2, 2, 3, -1}[r.Intn(8)]
	}
	return out
}

// someFile is a number of one of few files, or rarely of another or of none.
func someFile(r *rand.Rand) int {
	if r.Intn(20) == 0 {
		return r.Intn(fileCount+4) - 2
	}
	return r.Intn(4)
}

// random performs one call on the disk and its model.
func (p pair) random(t *testing.T, r *rand.Rand) {
	t.Helper()
	op := []string{"Write", "Write", "Write", "Write", "Write", "Flush", "Flush", "Cut", "Turn", "Turn", "Crash", "Lose", "Arm", "Start"}[r.Intn(14)]
	f, a, s := someFile(r), r.Intn(200)-3, ""
	var got api.Errno
	switch op {
	case "Write":
		s = letters(500)[r.Intn(250):][:r.Intn(250)]
		got = p.d.Write(f, a, s)
	case "Flush":
		got = p.d.Flush(f)
	case "Cut":
		got = p.d.Cut(f, a)
	case "Turn":
		a = someFile(r)
		got = p.d.Turn(f, a)
	default:
		p.other(op, r)
		p.agree(t, op)
		return
	}
	what := op + " " + strconv.Itoa(f) + " " + strconv.Itoa(a) + " " + strconv.Itoa(len(s))
	if want := p.m.step(op, f, a, s); got != want {
		t.Fatal(what, "error", got, want)
	}
	p.agree(t, what)
}

// other performs one of the calls that return nothing.
func (p pair) other(op string, r *rand.Rand) {
	keep := someKeep(r)
	switch op {
	case "Crash":
		p.d.Crash(keep)
		p.m.crash(keep)
	case "Lose":
		n := r.Intn(5) - 2
		p.d.Lose(n)
		p.m.lost = max(n, 0)
	case "Arm":
		n := r.Intn(8) - 1
		p.d.Arm(n, keep)
		p.m.left, p.m.keep = max(n, 0), keep
	case "Start":
		p.d.Start()
		p.m.down = false
	}
}

func TestRandomCalls(t *testing.T) { // P5.1 to P5.4: against the definitions, also on copies
	for seed := range 300 {
		r := rand.New(rand.NewSource(int64(seed)))
		all := []pair{{disk.New(), &model{pending: map[int]write{}}}}
		for range 200 {
			i := r.Intn(len(all))
			all[i].random(t, r)
			if all[i].m.down && r.Intn(3) > 0 {
				all[i].d.Start()
				all[i].m.down = false
			}
			if r.Intn(40) == 0 {
				all = append(all, pair{all[i].d.Copy(), all[i].m.copy()})
			}
		}
		for i, p := range all { // a call on one disk is not seen on another
			p.agree(t, "at the end, disk "+strconv.Itoa(i))
		}
	}
}

func TestExamples(t *testing.T) { // the chapter's examples
	d := filled(t, "abc")
	must(t, d.Write(0, 1, "XY"))
	must(t, d.Write(0, 5, "hi"))
	holds(t, d, 0, "aXY\x00\x00hi")
	keeps(t, d, []int{0, 1}, 0, "abc\x00\x00hi")
	keeps(t, d, []int{1}, 0, "aXY")

	d = disk.New()
	must(t, d.Write(0, 62, "abcd"))
	keeps(t, d, []int{0, 1}, 0, zeros(64)+"cd")

	d = disk.New()
	must(t, d.Write(0, 0, strings.Repeat("x", 30)))
	keeps(t, d, []int{2}, 0, strings.Repeat("x", 24))
}

func TestNew(t *testing.T) { // P5.1
	d := disk.New()
	if d.Down() {
		t.Error("down")
	}
	for f := range fileCount {
		holds(t, d, f, "")
		must(t, d.Flush(f)) // none is lost
	}
	must(t, disk.New().Write(0, 0, "a"))
	holds(t, disk.New(), 0, "") // two disks have nothing in common
}

func TestSize(t *testing.T) { // P5.1
	d := disk.New()
	must(t, d.Write(3, 10, "abc"))
	if d.Size(3) != 13 || d.Size(2) != 0 || d.Size(4) != 0 {
		t.Error("pending", d.Size(3), d.Size(2), d.Size(4))
	}
	must(t, d.Write(3, 2, "abc")) // it ends before the other one
	if d.Size(3) != 13 {
		t.Error("two pending", d.Size(3))
	}
	must(t, d.Flush(3))
	must(t, d.Write(3, 4, "x"))
	if d.Size(3) != 13 {
		t.Error("durable", d.Size(3))
	}
	d.Crash(nil)
	if !d.Down() || d.Size(3) != 13 {
		t.Error("down", d.Size(3))
	}
	for _, f := range noFiles() {
		if n := d.Size(f); n != 0 {
			t.Error(f, n)
		}
	}
	d.Start()
	for _, f := range noFiles() {
		if n := d.Size(f); n != 0 {
			t.Error(f, n)
		}
	}
}

func TestDown(t *testing.T) { // P5.1, P5.3
	d := disk.New()
	for range 2 {
		d.Start() // also when it is up
		if d.Down() {
			t.Error("Start")
		}
		d.Crash(nil)
		if !d.Down() {
			t.Error("Crash")
		}
		d.Crash(nil)
		if !d.Down() {
			t.Error("Crash of a machine that is down")
		}
		d.Start()
		if d.Down() {
			t.Error("Start after Crash")
		}
	}
}

func TestCopyHasAll(t *testing.T) { // P5.1
	d := filled(t, "abc")
	must(t, d.Write(0, 3, "def"))
	d.Lose(1)
	d.Arm(2, []int{2})
	c := d.Copy()
	holds(t, c, 0, "abcdef")
	keeps(t, c, nil, 0, "abc")
	mustBe(t, c.Flush(0), api.ErrLost)
	mustBe(t, c.Flush(0), api.ErrDown)
	if !c.Down() || !c.Copy().Down() || d.Down() {
		t.Error("Down")
	}
	c.Start()
	holds(t, c, 0, "abcdef")
	must(t, c.Flush(0))
	mustBe(t, d.Flush(0), api.ErrLost) // this one has its own lost flush and its own schedule
	mustBe(t, d.Flush(0), api.ErrDown)
}

func TestCopyIsApart(t *testing.T) { // P5.1: also in memory behind the bytes and behind the list
	for n := range 200 {
		d := filled(t, letters(n))
		must(t, d.Write(0, n, "p"))
		must(t, d.Write(1, 0, "q"))
		c := d.Copy()
		must(t, c.Write(0, 0, "copy"))
		must(t, c.Write(0, n, "copies"))
		must(t, d.Write(0, n, "origin"))
		must(t, c.Flush(0))
		must(t, d.Flush(0))
		holds(t, c, 0, (putInto(letters(n)+"p", 0, "copy"))[:n]+"copies")
		holds(t, d, 0, letters(n)+"origin")
		must(t, c.Cut(0, 0))
		must(t, c.Turn(2, 0))
		holds(t, d, 0, letters(n)+"origin")
		c.Lose(3)
		c.Arm(1, nil)
		must(t, d.Flush(1))
		keeps(t, d, nil, 1, "q")
		keeps(t, c, nil, 1, "")
		d.Crash(nil)
		if c.Down() {
			t.Fatal("the copy is down", n)
		}
	}
}

func TestDownIsFirst(t *testing.T) { // P5.2: of all errors
	d := filled(t, "abc")
	d.Lose(1)
	d.Crash(nil)
	for _, f := range append(noFiles(), 0, 1) {
		s, e := d.Read(f)
		if s != "" {
			t.Error("Read", s)
		}
		for _, e := range []api.Errno{e, d.Write(f, 0, "x"), d.Write(f, -1, "x"), d.Write(f, maxSize, "x"), d.Write(f, 0, ""), d.Flush(f), d.Cut(f, 0), d.Cut(f, -1), d.Cut(f, 4), d.Turn(f, 0), d.Turn(0, f), d.Turn(f, f), d.Turn(1, 0)} {
			mustBe(t, e, api.ErrDown)
		}
	}
	d.Start()
	holds(t, d, 0, "abc")
	holds(t, d, 1, "")
	mustBe(t, d.Flush(0), api.ErrLost) // none was lost while it was down
}

func TestNoFile(t *testing.T) { // P5.2: after ErrDown, before all other errors
	d := filled(t, "abc")
	must(t, d.Write(1, 0, "pending"))
	d.Lose(1)
	for _, f := range noFiles() {
		s, e := d.Read(f)
		if s != "" {
			t.Error("Read", s)
		}
		for _, e := range []api.Errno{e, d.Write(f, 0, "x"), d.Write(f, 0, ""), d.Write(f, -1, "x"), d.Write(f, maxSize, "x"), d.Flush(f), d.Cut(f, 0), d.Cut(f, -1), d.Turn(f, 0), d.Turn(0, f), d.Turn(f, 1), d.Turn(f, f)} {
			mustBe(t, e, api.ErrArg)
		}
	}
	holds(t, d, 0, "abc")
	holds(t, d, 1, "pending")
	keeps(t, d, nil, 1, "")
	keeps(t, d, ones(1), 1, "pending")
	mustBe(t, d.Flush(0), api.ErrLost) // none of these flushes was one that was lost
	must(t, d.Flush(0))
}

func TestAllFiles(t *testing.T) { // P5.2: each number from 0 to 11 is a file of its own
	d := disk.New()
	for f := range fileCount {
		must(t, d.Write(f, f, strings.Repeat("x", f+1)))
	}
	for f := range fileCount {
		want := zeros(f) + strings.Repeat("x", f+1)
		holds(t, d, f, want)
		keeps(t, d, only(f), f, want)
		must(t, d.Copy().Cut(f, 0))
	}
	for f := range fileCount {
		must(t, d.Flush(f))
	}
	must(t, d.Turn(0, 11))
	holds(t, d, 0, zeros(11)+strings.Repeat("x", 12))
	must(t, d.Turn(11, 0))
	holds(t, d, 11, zeros(11)+strings.Repeat("x", 12))
}

func TestWriteErrors(t *testing.T) { // P5.2
	d := filled(t, "abc")
	for _, at := range []int{-1, -2, -64, -maxSize, math.MinInt, math.MinInt + 1} {
		mustBe(t, d.Write(0, at, "x"), api.ErrArg)
		mustBe(t, d.Write(0, at, ""), api.ErrArg)
		mustBe(t, d.Write(0, at, zeros(maxSize+1)), api.ErrArg)
	}
	for _, at := range []int{maxSize + 1, maxSize + 64, 1 << 31, 1 << 32, 1 << 62, math.MaxInt - 1, math.MaxInt} {
		mustBe(t, d.Write(0, at, "x"), api.ErrFull)
		mustBe(t, d.Write(0, at, ""), api.ErrFull)
		mustBe(t, d.Write(0, at, "xyz"), api.ErrFull)
	}
	mustBe(t, d.Write(0, maxSize, "x"), api.ErrFull)
	mustBe(t, d.Write(0, maxSize-1, "xy"), api.ErrFull)
	mustBe(t, d.Write(0, 0, zeros(maxSize+1)), api.ErrFull)
	mustBe(t, d.Write(0, 1, zeros(maxSize)), api.ErrFull)
	holds(t, d, 0, "abc")
	keeps(t, d, ones(9), 0, "abc")
}

func TestWriteLargest(t *testing.T) { // P5.2: files of 2^24 bytes
	all := letters(maxSize)
	d := disk.New()
	must(t, d.Write(5, 0, all))
	holds(t, d, 5, all)
	keeps(t, d, only(maxSize/64-1), 5, zeros(maxSize-64)+all[maxSize-64:])
	must(t, d.Write(6, maxSize-1, "x"))
	holds(t, d, 6, zeros(maxSize-1)+"x")
	must(t, d.Write(7, maxSize, ""))
	holds(t, d, 7, "")
	must(t, d.Flush(6))
	keeps(t, d, nil, 6, zeros(maxSize-1)+"x")
	keeps(t, d, nil, 5, "")
}

func TestWriteNothing(t *testing.T) { // P5.2: no pending write, also behind the end of the file
	d := disk.New()
	for _, at := range []int{0, 1, 64, 100, maxSize} {
		must(t, d.Write(0, at, ""))
	}
	holds(t, d, 0, "")
	must(t, d.Turn(1, 0)) // none is pending
	must(t, d.Write(0, 0, ""))
	must(t, d.Write(0, 0, "a"))
	must(t, d.Write(0, 5, ""))
	must(t, d.Write(0, 1, "b"))
	holds(t, d, 0, "ab")
	keeps(t, d, []int{1, 0}, 0, "a")
	keeps(t, d, []int{0, 1}, 0, "\x00b")
	must(t, d.Flush(0))
	must(t, d.Write(0, 9, ""))
	holds(t, d, 0, "ab")
	keeps(t, d, ones(1), 0, "ab")
}

func TestPieces(t *testing.T) { // P5.2: which bytes each pending write has
	for _, at := range []int{0, 1, 2, 40, 62, 63, 64, 65, 127, 128, 129, 6400, 6401} {
		for n := range 200 {
			s := letters(n)
			d := disk.New()
			must(t, d.Write(0, at, s))
			i := 0
			for from := at; from < at+n; i++ {
				until := min(at+n, from/64*64+64)
				keeps(t, d, only(i), 0, zeros(from)+s[from-at:until-at])
				torn := min(until, from+24)
				keeps(t, d, append(make([]int, i), 2), 0, zeros(from)+s[from-at:torn-at])
				from = until
			}
			if n > 0 {
				holds(t, d, 0, zeros(at)+s)
				keeps(t, d, ones(i), 0, zeros(at)+s)
			}
			keeps(t, d, only(i), 0, "") // there is no other one
			must(t, d.Write(1, 0, "next"))
			keeps(t, d, only(i), 1, "next") // the list of all files
		}
	}
}

func TestRead(t *testing.T) { // P5.2: later writes are put over earlier ones, and over the durable part
	d := filled(t, "0123456789")
	must(t, d.Write(0, 2, "abcd"))
	holds(t, d, 0, "01abcd6789")
	must(t, d.Write(0, 4, "XYZ"))
	holds(t, d, 0, "01abXYZ789")
	must(t, d.Write(1, 4, "other"))
	must(t, d.Write(0, 0, "-"))
	holds(t, d, 0, "-1abXYZ789")
	must(t, d.Write(0, 9, "+++"))
	holds(t, d, 0, "-1abXYZ78+++")
	must(t, d.Write(0, 14, "\xff\x00"))
	holds(t, d, 0, "-1abXYZ78+++\x00\x00\xff\x00")
	holds(t, d, 0, "-1abXYZ78+++\x00\x00\xff\x00") // reading changes nothing
	keeps(t, d, nil, 0, "0123456789")
	must(t, d.Write(2, 10, "b"))
	must(t, d.Write(2, 5, "a")) // in the order of the list, not of the offsets
	holds(t, d, 2, "\x00\x00\x00\x00\x00a\x00\x00\x00\x00b")
}

func TestFlush(t *testing.T) { // P5.2
	d := disk.New()
	must(t, d.Write(0, 0, "abc"))
	must(t, d.Write(1, 0, "def"))
	must(t, d.Write(0, 2, "ghi"))
	must(t, d.Write(1, 5, "j"))
	must(t, d.Flush(0))
	holds(t, d, 0, "abghi")
	holds(t, d, 1, "def\x00\x00j")
	keeps(t, d, nil, 0, "abghi")
	keeps(t, d, nil, 1, "")
	keeps(t, d, []int{1, 0}, 1, "def") // the writes of the file 1 are the whole list now
	keeps(t, d, []int{0, 1}, 1, zeros(5)+"j")
	keeps(t, d, ones(4), 0, "abghi")
	must(t, d.Flush(0)) // nothing is pending
	must(t, d.Flush(2))
	holds(t, d, 0, "abghi")
	holds(t, d, 2, "")
	must(t, d.Flush(1))
	keeps(t, d, nil, 1, "def\x00\x00j")
}

func TestLostFlush(t *testing.T) { // P5.2, P5.3
	for n := range 4 {
		d := disk.New()
		d.Lose(7)
		d.Lose(n)
		must(t, d.Write(0, 0, "abc"))
		for i := range n {
			mustBe(t, d.Flush(i%2), api.ErrLost) // of any file
			holds(t, d, 0, "abc")
			keeps(t, d, nil, 0, "")
			keeps(t, d, ones(1), 0, "abc")
			mustBe(t, d.Turn(1, 0), api.ErrState)
		}
		must(t, d.Flush(0))
		keeps(t, d, nil, 0, "abc")
		d.Lose(2)
		for _, none := range []int{0, -1, -2, math.MinInt} {
			d.Lose(none)
			must(t, d.Flush(0))
		}
	}
}

func TestLoseLasts(t *testing.T) { // P5.2, P5.3: only Flush takes from the number, and Lose sets it
	d := disk.New()
	d.Lose(2)
	must(t, d.Write(0, 0, "abc"))
	must(t, d.Cut(0, 2))
	must(t, d.Turn(1, 0))
	keeps(t, d, nil, 1, "ab")
	d.Crash(nil)
	mustBe(t, d.Flush(0), api.ErrDown)
	d.Start()
	mustBe(t, d.Flush(0), api.ErrLost)
	d.Crash(nil)
	d.Start()
	mustBe(t, d.Flush(0), api.ErrLost)
	must(t, d.Flush(0))
	d.Crash(nil)
	d.Lose(1) // also while it is down
	d.Start()
	mustBe(t, d.Flush(0), api.ErrLost)
	must(t, d.Flush(0))
	d.Lose(math.MaxInt)
	mustBe(t, d.Flush(0), api.ErrLost)
}

func TestCut(t *testing.T) { // P5.2
	d := filled(t, "0123456789")
	must(t, d.Write(0, 8, "abcdef"))
	must(t, d.Write(1, 0, "other"))
	for _, n := range []int{-1, 15, 16, 1 << 32, math.MinInt, math.MaxInt} {
		mustBe(t, d.Cut(0, n), api.ErrArg)
	}
	mustBe(t, d.Cut(2, 1), api.ErrArg)
	holds(t, d, 0, "01234567abcdef")
	keeps(t, d, nil, 0, "0123456789")
	for n := range 15 {
		c := d.Copy()
		must(t, c.Cut(0, n))
		holds(t, c, 0, "01234567abcdef"[:n])
		keeps(t, c, nil, 0, "01234567abcdef"[:n])
		keeps(t, c, []int{1, 0}, 0, "01234567abcdef"[:n])
		keeps(t, c, []int{1, 0}, 1, "other") // the first one of the list
		holds(t, c, 1, "other")
		keeps(t, c, nil, 1, "")
		must(t, c.Copy().Turn(2, 0)) // none of its writes is pending
		must(t, c.Write(0, 14, "x")) // nothing of what was cut off comes back
		holds(t, c, 0, "01234567abcdef"[:n]+zeros(14-n)+"x")
		must(t, c.Flush(0))
		holds(t, c, 0, "01234567abcdef"[:n]+zeros(14-n)+"x")
	}
	must(t, d.Cut(2, 0))
	holds(t, d, 2, "")
}

func TestTurn(t *testing.T) { // P5.2
	d := disk.New()
	must(t, d.Write(1, 0, "new"))
	must(t, d.Flush(1))
	must(t, d.Write(2, 0, "third"))
	must(t, d.Write(0, 0, "old"))
	must(t, d.Flush(0))
	must(t, d.Write(0, 2, "pending"))
	must(t, d.Write(3, 0, "fourth"))
	must(t, d.Turn(0, 1))
	holds(t, d, 0, "new")
	holds(t, d, 1, "")
	keeps(t, d, nil, 0, "new")
	keeps(t, d, nil, 1, "")
	keeps(t, d, ones(9), 0, "new") // the write of 0 is not pending any more
	keeps(t, d, ones(9), 1, "")
	keeps(t, d, only(0), 2, "third")
	keeps(t, d, only(1), 3, "fourth") // the list is closed up behind it
	keeps(t, d, nil, 2, "")
	must(t, d.Write(1, 0, "again"))
	must(t, d.Write(0, 0, "N"))
	holds(t, d, 0, "New") // two files in memory, too
	holds(t, d, 1, "again")
	must(t, d.Flush(1))
	must(t, d.Flush(0))
	must(t, d.Turn(1, 4)) // an empty one
	holds(t, d, 0, "New")
	holds(t, d, 1, "")
	holds(t, d, 4, "")
}

func TestTurnErrors(t *testing.T) { // P5.2
	d := disk.New()
	must(t, d.Write(0, 0, "zero"))
	must(t, d.Write(1, 0, "one"))
	for f := range fileCount {
		mustBe(t, d.Turn(f, f), api.ErrArg) // also if a write is pending
	}
	mustBe(t, d.Turn(0, 1), api.ErrState)
	mustBe(t, d.Turn(2, 0), api.ErrState)
	for _, f := range noFiles() {
		mustBe(t, d.Turn(f, 0), api.ErrArg)
	}
	holds(t, d, 0, "zero")
	holds(t, d, 1, "one")
	keeps(t, d, nil, 0, "")
	keeps(t, d, ones(1), 0, "zero")
	keeps(t, d, only(1), 1, "one")
	must(t, d.Flush(1))
	must(t, d.Turn(0, 1)) // a pending write of f is no error
	holds(t, d, 0, "one")
}

func TestCrash(t *testing.T) { // P5.3
	d := filled(t, letters(100))
	must(t, d.Write(0, 10, strings.Repeat("a", 30)))
	must(t, d.Write(1, 0, strings.Repeat("b", 10)))
	must(t, d.Write(0, 20, strings.Repeat("c", 24)))
	must(t, d.Write(0, 120, strings.Repeat("d", 25)))
	pieces := []write{{0, 10, strings.Repeat("a", 30)}, {1, 0, strings.Repeat("b", 10)}, {0, 20, strings.Repeat("c", 24)}, {0, 120, strings.Repeat("d", 8)}, {0, 128, strings.Repeat("d", 17)}}
	for n, keep := range lists(len(pieces)) {
		want := [2]string{letters(100), ""}
		for i, w := range pieces {
			switch keep[i] {
			case 1:
				want[w.f] = putInto(want[w.f], w.at, w.s)
			case 2:
				want[w.f] = putInto(want[w.f], w.at, w.s[:min(len(w.s), 24)])
			}
		}
		for len(keep) > 0 && keep[len(keep)-1] == 0 && n%2 == 0 { // what is not in the list does not survive
			keep = keep[:len(keep)-1]
		}
		if n%3 == 0 { // there may be more in the list than is pending
			keep = append(append(keep, make([]int, len(pieces)-len(keep))...), 1, 2)
		}
		after := survives(d, keep)
		holds(t, after, 0, want[0])
		holds(t, after, 1, want[1])
		keeps(t, after, ones(9), 0, want[0]) // nothing is pending any more, and what survived is durable
		keeps(t, after, nil, 1, want[1])
		must(t, after.Turn(3, 0))
		must(t, after.Turn(3, 1))
	}
}

func TestCrashNumbers(t *testing.T) { // P5.3: of all numbers only 1 and 2 keep anything
	d := filled(t, "old")
	must(t, d.Write(0, 0, letters(64)))
	for _, k := range []int{0, -1, -2, 3, 4, 255, 257, 258, 1<<32 + 1, 1<<32 + 2, 1<<63 - 1, math.MinInt, math.MinInt + 1, math.MinInt + 2} {
		keeps(t, d, []int{k}, 0, "old")
	}
	keeps(t, d, []int{1}, 0, letters(64))
	keeps(t, d, []int{2}, 0, letters(24))
	for n := 1; n <= 64; n++ {
		c := disk.New()
		must(t, c.Write(0, 7, letters(n)[:min(n, 57)]))
		keeps(t, c, []int{2}, 0, zeros(7)+letters(min(n, 24)))
	}
	keeps(t, d, []int{1}[:0], 0, "old") // elements beyond the length of the list
	keeps(t, d, nil, 0, "old")
}

func TestCrashOfDown(t *testing.T) { // P5.3: it does nothing
	d := filled(t, "abc")
	must(t, d.Write(0, 0, "X"))
	d.Crash([]int{0})
	d.Crash([]int{1})
	d.Start()
	holds(t, d, 0, "abc")
	must(t, d.Write(0, 0, "Y"))
	d.Start() // it is up already
	holds(t, d, 0, "Ybc")
	keeps(t, d, nil, 0, "abc")
	d.Crash([]int{1})
	d.Crash(nil)
	d.Start()
	holds(t, d, 0, "Ybc")
}

func TestCrashSize(t *testing.T) { // P5.1, P5.3: Size of a machine that is down is that of what survived
	d := disk.New()
	must(t, d.Write(0, 60, "abcdefgh"))
	for i, want := range []int{64, 68, 0} {
		c := d.Copy()
		c.Crash(only(i))
		if n := c.Size(0); n != want {
			t.Error(i, n)
		}
	}
}

// calls are calls that count for Arm, of which some return errors.
func calls() map[string]func(d *disk.Disk) api.Errno {
	return map[string]func(d *disk.Disk) api.Errno{
		"Write":              func(d *disk.Disk) api.Errno { return d.Write(2, 0, "x") },
		"Write of nothing":   func(d *disk.Disk) api.Errno { return d.Write(2, 0, "") },
		"Write of no file":   func(d *disk.Disk) api.Errno { return d.Write(-1, 0, "x") },
		"Write before 0":     func(d *disk.Disk) api.Errno { return d.Write(2, -1, "x") },
		"Write of too much":  func(d *disk.Disk) api.Errno { return d.Write(2, maxSize, "x") },
		"Flush":              func(d *disk.Disk) api.Errno { return d.Flush(0) },
		"Flush of no file":   func(d *disk.Disk) api.Errno { return d.Flush(12) },
		"Cut":                func(d *disk.Disk) api.Errno { return d.Cut(0, 1) },
		"Cut of no file":     func(d *disk.Disk) api.Errno { return d.Cut(12, 0) },
		"Cut of too much":    func(d *disk.Disk) api.Errno { return d.Cut(0, 1000) },
		"Turn":               func(d *disk.Disk) api.Errno { return d.Turn(0, 1) },
		"Turn of itself":     func(d *disk.Disk) api.Errno { return d.Turn(0, 0) },
		"Turn of a pending":  func(d *disk.Disk) api.Errno { return d.Turn(1, 0) },
		"Turn of no file":    func(d *disk.Disk) api.Errno { return d.Turn(0, 12) },
		"Turn to no file":    func(d *disk.Disk) api.Errno { return d.Turn(12, 0) },
		"Flush of the other": func(d *disk.Disk) api.Errno { return d.Flush(1) },
	}
}

// ready is a disk whose file 0 is "abc" and has a pending write, and whose file 1 is "def".
func ready(t *testing.T) *disk.Disk {
	t.Helper()
	d := filled(t, "abc")
	must(t, d.Write(1, 0, "def"))
	must(t, d.Flush(1))
	must(t, d.Write(0, 1, "XYZ"))
	return d
}

func TestArm(t *testing.T) { // P5.4: the n-th call is not performed
	for name, call := range calls() {
		for n := 1; n <= 3; n++ {
			for _, keep := range [][]int{nil, {1}} {
				d := ready(t)
				d.Arm(n, keep)
				for range n - 1 {
					must(t, d.Write(3, 0, ""))
				}
				if d.Down() {
					t.Fatal(name, "too early")
				}
				mustBe(t, call(d), api.ErrDown)
				if !d.Down() {
					t.Fatal(name, "not down")
				}
				mustBe(t, call(d), api.ErrDown)
				d.Start()
				want := "abc"
				if keep != nil {
					want = "aXYZ"
				}
				holds(t, d, 0, want)
				holds(t, d, 1, "def")
				holds(t, d, 2, "")
				must(t, d.Turn(4, 0)) // nothing is pending
				must(t, d.Flush(1))   // the schedule is over
				must(t, d.Write(1, 0, "x"))
			}
		}
	}
}

func TestArmCounts(t *testing.T) { // P5.4: which calls are counted
	for name, call := range calls() {
		d := ready(t)
		d.Arm(2, nil)
		if e := call(d); e == api.ErrDown || d.Down() {
			t.Fatal(name, "too early")
		}
		d.Read(0)
		d.Read(12)
		d.Size(0)
		d.Lose(1)
		d.Lose(0)
		d.Start()
		d.Down()
		d.Copy().Write(0, 0, "x")
		if d.Down() {
			t.Fatal(name, "a call that does not count")
		}
		mustBe(t, d.Write(3, 0, "x"), api.ErrDown)
		if !d.Down() {
			t.Fatal(name, "not down")
		}
	}
}

func TestArmOfFlush(t *testing.T) { // P5.4: a flush that is not performed is none of the lost ones
	d := ready(t)
	d.Lose(1)
	d.Arm(2, nil)
	mustBe(t, d.Flush(0), api.ErrLost) // but a lost one is counted
	d.Lose(1)
	mustBe(t, d.Flush(0), api.ErrDown)
	d.Start()
	holds(t, d, 0, "abc")
	mustBe(t, d.Flush(0), api.ErrLost)
	must(t, d.Flush(0))
}

func TestArmOfWrite(t *testing.T) { // P5.4: it is performed before the crash, if it would have returned OK
	for _, keep := range [][]int{nil, {1}, {0, 1}, {0, 2}, {0, 0, 1}, {1, 1, 1}, {1, 0, 2}} {
		for _, s := range []string{letters(100), "", letters(1)} {
			d, want := ready(t), ready(t)
			d.Arm(1, keep)
			mustBe(t, d.Write(0, 2, s), api.ErrDown)
			if !d.Down() {
				t.Fatal("not down")
			}
			d.Start()
			must(t, want.Write(0, 2, s))
			want.Crash(keep)
			want.Start()
			holds(t, d, 0, read(t, want, 0))
		}
		d, want := ready(t), ready(t)
		d.Arm(1, keep)
		mustBe(t, d.Write(0, maxSize-1, "xy"), api.ErrDown)
		d.Start()
		want.Crash(keep)
		want.Start()
		holds(t, d, 0, read(t, want, 0))
	}
}

func TestArmOfNothing(t *testing.T) { // P5.4: n less than 1, also instead of another schedule
	for _, n := range []int{0, -1, -2, math.MinInt, math.MinInt + 1} {
		for _, before := range []int{0, 1, 2} {
			d := ready(t)
			d.Arm(before, ones(9))
			d.Arm(n, ones(9))
			for range 5 {
				must(t, d.Write(2, 0, "x"))
				must(t, d.Flush(2))
				must(t, d.Cut(2, 0))
				must(t, d.Turn(2, 3))
			}
		}
	}
	d := disk.New()
	d.Arm(math.MaxInt, nil)
	for range 100 {
		must(t, d.Flush(0))
	}
}

func TestArmAgain(t *testing.T) { // P5.4: the last schedule counts from its call on, with its list
	d := ready(t)
	d.Arm(2, []int{1})
	must(t, d.Flush(3))
	d.Arm(2, []int{0})
	must(t, d.Flush(3))
	mustBe(t, d.Flush(3), api.ErrDown)
	d.Start()
	holds(t, d, 0, "abc")
	d = ready(t)
	d.Arm(1, []int{0})
	d.Arm(3, []int{1})
	must(t, d.Flush(3))
	must(t, d.Flush(3))
	mustBe(t, d.Flush(3), api.ErrDown)
	d.Start()
	holds(t, d, 0, "aXYZ")
}

func TestArmAndCrash(t *testing.T) { // P5.4: a crash cancels the schedule
	d := ready(t)
	d.Arm(1, nil)
	d.Crash(ones(1))
	d.Start()
	holds(t, d, 0, "aXYZ")
	for range 5 {
		must(t, d.Flush(0))
	}
	d.Arm(2, nil)
	must(t, d.Flush(0))
	mustBe(t, d.Flush(0), api.ErrDown)
	d.Start()
	for range 5 {
		must(t, d.Flush(0))
	}
}

func TestArmOfDown(t *testing.T) { // P5.4: only calls while the machine is up count
	d := ready(t)
	d.Crash(nil)
	d.Arm(2, ones(9))
	for range 5 {
		mustBe(t, d.Write(0, 0, "x"), api.ErrDown)
		mustBe(t, d.Flush(0), api.ErrDown)
		mustBe(t, d.Cut(0, 0), api.ErrDown)
		mustBe(t, d.Turn(0, 1), api.ErrDown)
	}
	d.Crash(nil) // it does nothing: the schedule stays
	d.Start()
	must(t, d.Write(0, 1, "YYYY"))
	mustBe(t, d.Flush(0), api.ErrDown)
	d.Start()
	holds(t, d, 0, "aYYYY")
}

func TestKeepIsNotKept(t *testing.T) { // P5.4 with P3: lists are neither changed nor retained, nor read beyond their length
	long := []int{1, 1, 1}
	d := ready(t)
	d.Arm(1, long[:0])
	mustBe(t, d.Flush(0), api.ErrDown)
	d.Start()
	holds(t, d, 0, "abc")
	keep := []int{0, 2, 1}
	d = ready(t)
	d.Arm(2, keep)
	c := d.Copy()
	keep[0], keep[1] = 1, 1
	for _, x := range []*disk.Disk{d, c} {
		must(t, x.Write(1, 0, letters(30)))
		mustBe(t, x.Flush(0), api.ErrDown)
		x.Start()
		holds(t, x, 0, "abc")
		holds(t, x, 1, letters(24))
	}
	if !slices.Equal(keep, []int{1, 1, 1}) || !slices.Equal(long, []int{1, 1, 1}) {
		t.Error("changed")
	}
	d = ready(t)
	d.Crash(keep)
	if !slices.Equal(keep, []int{1, 1, 1}) {
		t.Error("changed by Crash")
	}
}

// lists are all lists of n numbers from 0 to 2.
func lists(n int) [][]int {
	out := [][]int{nil}
	for range n {
		var longer [][]int
		for _, l := range out {
			for k := range 3 {
				longer = append(longer, append(slices.Clone(l), k))
			}
		}
		out = longer
	}
	return out
}

func TestBytesAfterCrash(t *testing.T) { // P5.5: each byte is an old one, one that was written there, or 0 behind the old end
	for seed := range 60 {
		r := rand.New(rand.NewSource(int64(seed)))
		old := strings.Repeat("o", r.Intn(150))
		d := filled(t, old)
		may := map[int]string{}
		pieces := 0
		for i := range 3 {
			at, n := r.Intn(200), r.Intn(100)
			must(t, d.Write(0, at, strings.Repeat("abc"[i:i+1], n)))
			for j := range n {
				may[at+j] += "abc"[i : i+1]
				if j == 0 || (at+j)%64 == 0 {
					pieces++
				}
			}
		}
		size := d.Size(0)
		seen := map[string]bool{}
		for _, keep := range lists(pieces) {
			s := read(t, survives(d, keep), 0)
			seen[s] = true
			if len(s) < len(old) || len(s) > size {
				t.Fatal("length", len(s), len(old), size)
			}
			for i := range len(s) {
				was := i < len(old) && s[i] == 'o' || i >= len(old) && s[i] == 0
				if !was && !strings.Contains(may[i], s[i:i+1]) {
					t.Fatalf("%q at %d", s[i], i)
				}
			}
		}
		if !seen[old] || !seen[read(t, d, 0)] {
			t.Error("nothing or all survives", seed)
		}
	}
}

func TestAnySurvives(t *testing.T) { // P5.5: each pending write for itself, whichever of the others are lost
	d := disk.New()
	for i := range 10 {
		must(t, d.Write(i%3, 10*i, strconv.Itoa(i)))
	}
	for set := range 1 << 10 {
		var keep []int
		want := [3]string{}
		for i := range 10 {
			keep = append(keep, set>>i&1)
			if keep[i] == 1 {
				want[i%3] = putInto(want[i%3], 10*i, strconv.Itoa(i))
			}
		}
		c := survives(d, keep)
		for f := range 3 {
			holds(t, c, f, want[f])
		}
	}
}

func TestTurnAndCutAreAtomic(t *testing.T) { // P5.5: a crash finds the files from before, of which some writes survive, or from afterwards
	for _, keep := range lists(2) {
		d := ready(t)
		must(t, d.Write(3, 0, "pending"))
		before := survives(d, keep)
		for _, call := range []string{"Turn", "Cut"} {
			perform := calls()[call]
			c := d.Copy()
			c.Arm(1, keep)
			mustBe(t, perform(c), api.ErrDown)
			c.Start()
			for f := range fileCount {
				holds(t, c, f, read(t, before, f))
			}
			c = d.Copy()
			must(t, perform(c))
			after := survives(c, keep)
			for f := range 3 {
				holds(t, after, f, read(t, c, f))
			}
		}
	}
}

func TestNoPanics(t *testing.T) { // P1 of DOC.md: for all numbers, in all states
	strange := append(noFiles(), 0, 1, 11, 63, maxSize, 1<<62, -1<<62)
	for _, a := range strange {
		for _, b := range strange {
			d := disk.New()
			for range 3 {
				d.Arm(a, []int{b})
				d.Lose(b)
				d.Write(a, b, "xyz")
				d.Write(1, b, "xyz")
				d.Flush(a)
				d.Cut(a, b)
				d.Cut(1, b)
				d.Turn(a, b)
				d.Size(a)
				d.Read(a)
				d.Copy().Start()
				d.Crash([]int{a, b})
				d.Down()
				d.Start()
			}
		}
	}
}
