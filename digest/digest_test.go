package digest_test

import (
	"crypto/hmac"
	"crypto/sha256"
	"encoding/base32"
	"encoding/hex"
	"hash/crc32"
	"math/rand"
	"strings"
	"sync"
	"testing"
	"unsafe"

	"missive/digest"
)

const letters = "abcdefghijklmnopqrstuvwxyz234567"

// randomText returns n random bytes, the same ones in each run.
func randomText(random *rand.Rand, n int) string {
	b := make([]byte, n)
	random.Read(b)
	return string(b)
}

// someTexts are strings of each length up to n: zeros, ones, and random bytes.
func someTexts(n int) []string {
	random := rand.New(rand.NewSource(3))
	var out []string
	for i := range n + 1 {
		out = append(out, strings.Repeat("\x00", i), strings.Repeat("\xff", i), randomText(random, i))
	}
	return out
}

// allBytes is each byte once.
func allBytes() string {
	b := make([]byte, 256)
	for i := range b {
		b[i] = byte(i)
	}
	return string(b)
}

// upTo calls visit with all strings of at most n of the bytes of alphabet.
func upTo(n int, alphabet string, visit func(string)) {
	buf := make([]byte, 0, n)
	var extend func()
	extend = func() {
		visit(string(buf))
		if len(buf) == n {
			return
		}
		for i := range len(alphabet) {
			buf = append(buf, alphabet[i])
			extend()
			buf = buf[:len(buf)-1]
		}
	}
	extend()
}

// replaced returns s with the byte c at position i.
func replaced(s string, i int, c byte) string {
	return s[:i] + string([]byte{c}) + s[i+1:]
}

func TestSum(t *testing.T) { // P3.1
	for s, want := range map[string]string{
		"":    "e3b0c44298fc1c149afbf4c8996fb92427ae41e4649b934ca495991b7852b855",
		"abc": "ba7816bf8f01cfea414140de5dae2223b00361a396177a9cb410ff61f20015ad",
		"abcdbcdecdefdefgefghfghighijhijkijkljklmklmnlmnomnopnopq":                                                         "248d6a61d20638b8e5c026930c3e6039a33ce45964ff2167f6ecedd419db06c1",
		"abcdefghbcdefghicdefghijdefghijkefghijklfghijklmghijklmnhijklmnoijklmnopjklmnopqklmnopqrlmnopqrsmnopqrstnopqrstu": "cf5b16a778af8380036ce59e7b0492370b249b11e8f07a51afac45037afee9d1",
		strings.Repeat("a", 1000000): "cdc76e5c9914fb9281a1c7e284d73e67f1809a48a497200e046d39ccc7112cd0",
	} {
		if got := hex.EncodeToString([]byte(digest.Sum(s))); got != want {
			t.Errorf("Sum of %.20q: %s", s, got)
		}
	}
	texts := append(someTexts(300), allBytes(), strings.Repeat(allBytes(), 64))
	for i := range 256 {
		texts = append(texts, string([]byte{byte(i)}))
	}
	for n := 1 << 9; n <= 1<<22; n *= 2 { // where another bit or byte of the number of bits is needed
		s := strings.Repeat("missive!", n/8)
		texts = append(texts, s, s[1:], s[9:], s+"x")
	}
	for _, s := range texts {
		want := sha256.Sum256([]byte(s))
		if got := digest.Sum(s); got != string(want[:]) {
			t.Errorf("Sum of %d bytes %.20q: %x", len(s), s, got)
		}
	}
}

func TestSumOfManyBits(t *testing.T) { // P3.1: a number of bits that has more than 32 bits
	if testing.Short() {
		t.Skip("half a gigabyte is read")
	}
	zeros := make([]byte, 1<<29)
	s := unsafe.String(&zeros[0], len(zeros)) // not a copy: zeros that nobody writes need no memory
	if got, want := digest.Hex(digest.Sum(s)), "9acca8e8c22201155389f65abbf6bc9723edc7384ead80503839f49dcc56d767"; got != want {
		t.Errorf("Sum of 2^29 zeros: %s", got)
	}
}

func TestShort(t *testing.T) { // P3.2
	for s, want := range map[string]int{"abc": 0x0ba7816bf8f01cfe, "": 0x0e3b0c44298fc1c1} {
		if got := digest.Short(s); got != want {
			t.Errorf("Short(%q) = %x", s, got)
		}
	}
	seen := 0
	for _, s := range someTexts(200) {
		sum, want := digest.Sum(s), 0
		for i := range 15 { // the first 15 digits of 4 bits
			want = 16*want + int(sum[i/2]>>(4-4*(i%2))&15)
		}
		if got := digest.Short(s); got != want || got < 0 || got >= 1<<60 {
			t.Errorf("Short(%.20q) = %x", s, got)
		}
		seen |= want
	}
	if seen != 1<<60-1 {
		t.Errorf("some bits were never seen: %x", seen)
	}
}

func TestMac(t *testing.T) { // P3.3
	for _, x := range []struct{ key, s, want string }{
		{"key", "The quick brown fox jumps over the lazy dog", "f7bc83f430538424b13298e6aa6fb143ef4d59a14946175997479dbc2d1a3cd8"},
		{"", "", "b613679a0814d9ec772f95d778c35fc5ff1697c493715653c6c712144292c5ad"},
		{strings.Repeat("\x0b", 20), "Hi There", "b0344c61d8db38535ca8afceaf0bf12b881dc200c9833da726e9376c2e32cff7"},
		{"Jefe", "what do ya want for nothing?", "5bdcc146bf60754e6a042426089575c75a003f089d2739839dec58b964ec3843"},
		{strings.Repeat("\xaa", 20), strings.Repeat("\xdd", 50), "773ea91e36800e46854db8ebd09181a72959098b3ef8c122d9635514ced565fe"},
		{strings.Repeat("\xaa", 131), "Test Using Larger Than Block-Size Key - Hash Key First", "60e431591ee0b67f0d8a26aacbf5b77f8e0bc6213728c5140546040f0ee37f54"},
	} {
		if got := hex.EncodeToString([]byte(digest.Mac(x.key, x.s))); got != x.want {
			t.Errorf("Mac(%.20q, %.20q) = %s", x.key, x.s, got)
		}
	}
	keys := someTexts(140) // also the lengths 63, 64 and 65
	texts := []string{"", "a", allBytes(), strings.Repeat("\x00", 55), strings.Repeat("\xff", 56), strings.Repeat("z", 64), strings.Repeat("line\r\n", 1000)}
	for i, key := range keys {
		for _, s := range append(texts, keys[i/2]) {
			reference := hmac.New(sha256.New, []byte(key))
			reference.Write([]byte(s))
			if got, want := digest.Mac(key, s), reference.Sum(nil); got != string(want) {
				t.Errorf("Mac of a key of %d bytes and %.20q: %x, want %x", len(key), s, got, want)
			}
		}
	}
}

// slowCrc is the definition.
func slowCrc(s string) int {
	register := 1<<32 - 1
	for i := range len(s) {
		register ^= int(s[i])
		for range 8 {
			if register%2 == 1 {
				register = register/2 ^ 3988292384
			} else {
				register /= 2
			}
		}
	}
	return register ^ (1<<32 - 1)
}

func TestCrc(t *testing.T) { // P3.4
	for s, want := range map[string]int{"": 0, "123456789": 3421780262, "a": 0xe8b7be43, "\x00": 0xd202ef8d, "\x00\x00\x00\x00": 0x2144df1c, "\xff\xff\xff\xff": 0xffffffff} {
		if got := digest.Crc(s); got != want {
			t.Errorf("Crc(%q) = %x", s, got)
		}
	}
	texts := append(someTexts(300), allBytes(), strings.Repeat(allBytes(), 300))
	for i := range 256 {
		texts = append(texts, string([]byte{byte(i)}), string([]byte{'x', byte(i)}))
	}
	for _, s := range texts {
		got := digest.Crc(s)
		if got != slowCrc(s) || got != int(crc32.ChecksumIEEE([]byte(s))) {
			t.Errorf("Crc of %d bytes %.20q: %x", len(s), s, got)
		}
	}
}

func TestHex(t *testing.T) { // P3.5
	for s, want := range map[string]string{"": "", "\n": "0a", "\x00": "00", "\xff": "ff", "az": "617a", "\x01\x23\x45\x67\x89\xab\xcd\xef": "0123456789abcdef"} {
		if got := digest.Hex(s); got != want {
			t.Errorf("Hex(%q) = %q", s, got)
		}
	}
	for _, s := range append(someTexts(100), allBytes(), strings.Repeat("\xfe\x01", 1<<16)) {
		got := digest.Hex(s)
		if got != hex.EncodeToString([]byte(s)) {
			t.Errorf("Hex(%.20q) = %.40q", s, got)
		}
		if back, ok := digest.Unhex(got); back != s || !ok {
			t.Errorf("Unhex(%.40q) = %.20q, %v", got, back, ok)
		}
	}
}

func TestUnhex(t *testing.T) { // P3.5
	pairs := map[string]string{} // of each byte
	for i := range 256 {
		s := string([]byte{byte(i)})
		pairs[digest.Hex(s)] = s
	}
	upTo(2, allBytes(), func(s string) {
		want, exists := pairs[s]
		exists = exists || s == ""
		if got, ok := digest.Unhex(s); got != want || ok != exists {
			t.Errorf("Unhex(%q) = %q, %v", s, got, ok)
		}
	})
	const valid = "00ff7e80"
	for i := range len(valid) {
		if got, ok := digest.Unhex(valid[:i]); ok != (i%2 == 0) || len(got) != 0 && !ok {
			t.Errorf("Unhex(%q) = %q, %v", valid[:i], got, ok)
		}
		for _, c := range []byte("ABFGg/:` \n\x00\xff") {
			s := replaced(valid, i, c)
			if got, ok := digest.Unhex(s); got != "" || ok {
				t.Errorf("Unhex(%q) = %q, %v", s, got, ok)
			}
		}
	}
	for _, s := range []string{"0A", "0x0a", " 0a", "0a ", "0a\n", "0a0", "-1", "0a0A", "00é"} {
		if got, ok := digest.Unhex(s); got != "" || ok {
			t.Errorf("Unhex(%q) = %q, %v", s, got, ok)
		}
	}
	if got, ok := digest.Unhex("0a"); got != "\n" || !ok {
		t.Errorf("Unhex(0a) = %q, %v", got, ok)
	}
}

func TestBase32(t *testing.T) { // P3.6
	for s, want := range map[string]string{
		"": "", "f": "my", "fo": "mzxq", "foo": "mzxw6", "foob": "mzxw6yq", "fooba": "mzxw6ytb", "foobar": "mzxw6ytboi",
		"\x00": "aa", "\xff": "74", "\x00\x00\x00\x00\x00": "aaaaaaaa", "\xff\xff\xff\xff\xff": "77777777", "\x08\x42": "bbba",
		"\x00\x44\x32\x14\xc7\x42\x54\xb6\x35\xcf\x84\x65\x3a\x56\xd7\xc6\x75\xbe\x77\xdf": letters,
	} {
		if got := digest.Base32(s); got != want {
			t.Errorf("Base32(%q) = %q", s, got)
		}
	}
	reference := base32.NewEncoding(letters).WithPadding(base32.NoPadding)
	for _, s := range append(someTexts(100), allBytes(), strings.Repeat("\xfe\x01\x80", 1<<16)) {
		got := digest.Base32(s)
		if got != reference.EncodeToString([]byte(s)) {
			t.Errorf("Base32(%.20q) = %.40q", s, got)
		}
		if back, ok := digest.Unbase32(got); back != s || !ok {
			t.Errorf("Unbase32(%.40q) = %.20q, %v", got, back, ok)
		}
	}
}

func TestUnbase32(t *testing.T) { // P3.6: exactly what Base32 writes is read
	encodings := map[string]string{}
	upTo(2, allBytes(), func(s string) { encodings[digest.Base32(s)] = s })
	found := 0
	upTo(4, letters, func(s string) {
		want, exists := encodings[s]
		if exists {
			found++
		}
		if got, ok := digest.Unbase32(s); got != want || ok != exists {
			t.Fatalf("Unbase32(%q) = %q, %v", s, got, ok)
		}
	})
	if found != 1+256+65536 || found != len(encodings) {
		t.Errorf("%d of %d encodings were found", found, len(encodings))
	}
	for i := range 256 {
		c := byte(i)
		got, ok := digest.Unbase32(replaced("mzxw6ytb", i%8, c))
		if known := strings.IndexByte(letters, c) >= 0; ok != known || (got != "") != known {
			t.Errorf("Unbase32 with %q: %q, %v", c, got, ok)
		}
	}
}

func TestUnbase32Ends(t *testing.T) { // P3.6: the last group, in strings of all lengths
	random := rand.New(rand.NewSource(5))
	for n := range 41 {
		for range 100 {
			b := make([]byte, n)
			for i := range b {
				b[i] = letters[random.Intn(32)]
			}
			for i := range 32 {
				if n > 0 {
					b[n-1] = letters[i]
				}
				size := 5 * n / 8 // the bytes that have all their bits
				free := 5*n - 8*size
				exists := free < 5 && (n == 0 || i%(1<<free) == 0)
				got, ok := digest.Unbase32(string(b))
				if ok != exists || !ok && got != "" || ok && (len(got) != size || digest.Base32(got) != string(b)) {
					t.Fatalf("Unbase32(%q) = %q, %v", b, got, ok)
				}
			}
		}
	}
	for _, s := range []string{"mz", "a", "aaa", "aaaaaa", "ab", "7", "MY", "my======", "my=", "m y", "my\n", "0a", "1a", "8a", "9a", "mé", "\x00\x00", "mzxw6ytboj", "mzxw6ytb="} {
		if got, ok := digest.Unbase32(s); got != "" || ok {
			t.Errorf("Unbase32(%q) = %q, %v", s, got, ok)
		}
	}
}

// results are the results of all functions for one string.
type results struct {
	sum, mac, hex, base32, unhex, unbase32 string
	short, crc                             int
	isHex, isBase32                        bool
}

func resultsOf(s string) results {
	r := results{sum: digest.Sum(s), mac: digest.Mac(s, s), hex: digest.Hex(s), base32: digest.Base32(s), short: digest.Short(s), crc: digest.Crc(s)}
	r.unhex, r.isHex = digest.Unhex(s)
	r.unbase32, r.isBase32 = digest.Unbase32(s)
	return r
}

func TestPure(t *testing.T) { // P3.7
	texts := append(someTexts(130), "0a", "0A", "my", "mz", strings.Repeat("ab", 5000))
	want := map[string]results{}
	for _, s := range texts {
		want[s] = resultsOf(s)
	}
	for i := len(texts) - 1; i >= 0; i-- {
		if resultsOf(texts[i]) != want[texts[i]] {
			t.Errorf("other results for %.20q after other calls", texts[i])
		}
	}
	var all sync.WaitGroup
	for range 4 {
		all.Go(func() {
			for _, s := range texts {
				if resultsOf(s) != want[s] {
					t.Errorf("other results for %.20q beside other calls", s)
				}
			}
		})
	}
	all.Wait()
}

func TestCrcBehind(t *testing.T) { // P3.8
	for _, s := range append(someTexts(200), allBytes(), strings.Repeat("row", 10000)) {
		crc := digest.Crc(s)
		if crc < 0 || crc >= 1<<32 {
			t.Errorf("Crc of %.20q: %d", s, crc)
		}
		if got := digest.Crc(s + string([]byte{byte(crc), byte(crc >> 8), byte(crc >> 16), byte(crc >> 24)})); got != 558161692 {
			t.Errorf("Crc of %.20q and its Crc: %d", s, got)
		}
	}
}

// exclusiveOr returns the bytewise exclusive or of strings of the same length.
func exclusiveOr(a, b string) string {
	out := []byte(a)
	for i := range out {
		out[i] ^= b[i]
	}
	return string(out)
}

func TestCrcOfThree(t *testing.T) { // P3.8
	random := rand.New(rand.NewSource(8))
	for n := range 200 {
		a, b, c := randomText(random, n), randomText(random, n), strings.Repeat("\x00", n)
		for range 3 {
			if got, want := digest.Crc(exclusiveOr(a, exclusiveOr(b, c))), digest.Crc(a)^digest.Crc(b)^digest.Crc(c); got != want {
				t.Errorf("Crc of the exclusive or of %q, %q and %q: %x, want %x", a, b, c, got, want)
			}
			c = randomText(random, n)
		}
	}
}

// flip returns s with the bits changed that pattern has from bit at on, the bits of a byte counted from the least significant one on.
func flip(s string, at int, pattern uint32) string {
	b := []byte(s)
	for i := range 32 {
		if pattern>>i&1 != 0 {
			b[(at+i)/8] ^= 1 << ((at + i) % 8)
		}
	}
	return string(b)
}

func TestCrcOfChanges(t *testing.T) { // P3.8
	random := rand.New(rand.NewSource(9))
	for _, n := range []int{1, 2, 3, 4, 5, 8, 16, 33, 64, 100, 300} {
		s := randomText(random, n)
		crc := digest.Crc(s)
		for at := range 8 * n {
			if digest.Crc(flip(s, at, 1)) == crc {
				t.Errorf("bit %d of %d bytes changes nothing", at, n)
			}
			for range 20 {
				pattern := random.Uint32() | 1
				if left := 8*n - at; left < 32 {
					pattern &= 1<<left - 1
				}
				if digest.Crc(flip(s, at, pattern)) == crc {
					t.Errorf("the bits %x from bit %d of %d bytes on change nothing", pattern, at, n)
				}
			}
		}
	}
	// The polynomial itself is the shortest change that is not seen: it has 33 bits.
	if s := "long enough"; digest.Crc(flip(flip(s, 8, 0xdb710641), 40, 1)) != digest.Crc(s) {
		t.Error("the change by the polynomial is seen")
	}
}

func TestCrcOfShortChanges(t *testing.T) { // P3.8: any two bytes instead of two others
	seen := map[int]string{}
	upTo(2, allBytes(), func(s string) {
		if len(s) < 2 {
			return
		}
		crc := digest.Crc("before " + s + " behind")
		if other, ok := seen[crc]; ok {
			t.Errorf("%q and %q have the same Crc", s, other)
		}
		seen[crc] = s
	})
	if len(seen) != 1<<16 {
		t.Errorf("%d Crcs", len(seen))
	}
}

func TestSameKeys(t *testing.T) { // P3.9
	random := rand.New(rand.NewSource(10))
	for n := range 200 {
		for _, key := range []string{randomText(random, n), strings.Repeat("\x00", n), strings.Repeat("k", n)} {
			for _, s := range []string{"", "a", randomText(random, n), strings.Repeat("\x00", 100)} {
				mac := digest.Mac(key, s)
				if same := mac == digest.Mac(key+"\x00", s); same != (n < 64) {
					t.Errorf("a key of %d bytes and a byte 0: the same HMAC is %v", n, same)
				}
				if same := mac == digest.Mac(digest.Sum(key), s); same != (n > 64) {
					t.Errorf("the digest of a key of %d bytes: the same HMAC is %v", n, same)
				}
			}
		}
	}
}
