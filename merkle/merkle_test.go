package merkle_test

import (
	"crypto/sha256"
	"encoding/hex"
	"math"
	"math/bits"
	"math/rand"
	"slices"
	"strconv"
	"strings"
	"sync"
	"testing"

	"missive/digest"
	"missive/merkle"
)

// sum is Go's SHA-256.
func sum(parts ...string) string {
	h := sha256.Sum256([]byte(strings.Join(parts, "")))
	return string(h[:])
}

// unhex returns the hashes of their hexadecimal digits.
func unhex(digits ...string) []string {
	var out []string
	for _, s := range digits {
		b, err := hex.DecodeString(s)
		if err != nil {
			panic(err)
		}
		out = append(out, string(b))
	}
	return out
}

// someHashes returns n different hashes, other ones for each name.
func someHashes(name string, n int) []string {
	out := make([]string, n)
	for i := range out {
		out[i] = sum(name, strconv.Itoa(i))
	}
	return out
}

// strange are numbers that are no length or index of the lists in these tests.
func strange() []int {
	return []int{math.MinInt, math.MinInt + 1, -1 << 32, -2, -1, 1 << 31, 1 << 32, 1 << 62, math.MaxInt - 1, math.MaxInt}
}

// levels returns the tree above leaves from below: each level joins the pairs of the one before and takes over an element without a partner.
func levels(leaves []string) [][]string {
	out := [][]string{leaves}
	for len(leaves) > 1 {
		var above []string
		for i := 0; i < len(leaves); i += 2 {
			if i+1 < len(leaves) {
				above = append(above, sum("\x01", leaves[i], leaves[i+1]))
			} else {
				above = append(above, leaves[i])
			}
		}
		leaves = above
		out = append(out, leaves)
	}
	return out
}

// rootOf is the root of leaves, computed from below.
func rootOf(leaves []string) string {
	if len(leaves) == 0 {
		return sum()
	}
	all := levels(leaves)
	return all[len(all)-1][0]
}

// pathOf is the path of i in leaves, computed from below: the partners of the nodes above i.
func pathOf(leaves []string, i int) []string {
	var out []string
	for _, level := range levels(leaves) {
		if i^1 < len(level) {
			out = append(out, level[i^1])
		}
		i /= 2
	}
	return out
}

// growthOf is the growth of leaves from the first m: the roots of the ranges that the definition names, the last one first.
func growthOf(leaves []string, m int) []string {
	var out []string
	known := true
	for m < len(leaves) {
		k := 1
		for 2*k < len(leaves) {
			k *= 2
		}
		if m <= k {
			out = append(out, rootOf(leaves[k:]))
			leaves = leaves[:k]
		} else {
			out = append(out, rootOf(leaves[:k]))
			leaves, m, known = leaves[k:], m-k, false
		}
	}
	if !known {
		out = append(out, rootOf(leaves))
	}
	slices.Reverse(out)
	return out
}

// rootBy is the root by a path for n and i, by the loop of RFC 9162 (2.1.3.2), and whether it exists.
func rootBy(n, i int, leaf string, path []string) (string, bool) {
	at, last := i, n-1
	r := leaf
	for _, x := range path {
		if last == 0 {
			return "", false
		}
		if at%2 == 1 || at == last {
			r = sum("\x01", x, r)
			for at%2 == 0 && at != 0 {
				at, last = at/2, last/2
			}
		} else {
			r = sum("\x01", r, x)
		}
		at, last = at/2, last/2
	}
	return r, last == 0
}

// pathLength is the number of elements of the path for n and i.
func pathLength(n, i int) int {
	out := 0
	for last := n - 1; last > 0; i, last = i/2, last/2 {
		if i%2 == 1 || i < last {
			out++
		}
	}
	return out
}

// rootsBy are the roots by a growth for 0 < m <= n, by the loop of RFC 9162 (2.1.4.2), and whether they exist.
func rootsBy(old string, m, n int, path []string) (string, string, bool) {
	if m == n {
		return old, old, len(path) == 0
	}
	if len(path) == 0 {
		return "", "", false
	}
	if bits.OnesCount(uint(m)) == 1 {
		path = slices.Insert(slices.Clone(path), 0, old)
	}
	at, last := m-1, n-1
	for at%2 == 1 {
		at, last = at/2, last/2
	}
	a, b := path[0], path[0]
	for _, x := range path[1:] {
		if last == 0 {
			return "", "", false
		}
		if at%2 == 1 || at == last {
			a, b = sum("\x01", x, a), sum("\x01", x, b)
			for at%2 == 0 && at != 0 {
				at, last = at/2, last/2
			}
		} else {
			b = sum("\x01", b, x)
		}
		at, last = at/2, last/2
	}
	return a, b, last == 0
}

// growthLength is the number of elements of the growth of n elements from m.
func growthLength(m, n int) int {
	if m == n {
		return 0
	}
	out := pathLength(n, m-1)
	for at, last := m-1, n-1; at%2 == 1; at, last = at/2, last/2 {
		out-- // the parts of the first m elements that have one root
	}
	if bits.OnesCount(uint(m)) != 1 {
		out++
	}
	return out
}

// wantCheck is what P4.2 says of Check.
func wantCheck(root string, n, i int, leaf string, path []string) bool {
	if i < 0 || i >= n || !areHashes(append([]string{root, leaf}, path...)) {
		return false
	}
	r, ok := rootBy(n, i, leaf, path)
	return ok && r == root
}

// wantCheckGrown is what P4.3 says of CheckGrown.
func wantCheckGrown(old string, m int, root string, n int, path []string) bool {
	if m < 0 || m > n || !areHashes(append([]string{old, root}, path...)) {
		return false
	}
	if m == 0 {
		return old == sum() && len(path) == 0
	}
	a, b, ok := rootsBy(old, m, n, path)
	return ok && a == old && b == root
}

func areHashes(l []string) bool {
	return !slices.ContainsFunc(l, func(s string) bool { return len(s) != 32 })
}

// spoilt calls visit with paths that are like path but for one element, which is changed, missing, there twice, added, or on another place.
func spoilt(path []string, visit func([]string)) {
	stranger := sum("stranger")
	for i := range len(path) + 1 {
		visit(slices.Insert(slices.Clone(path), i, stranger))
		visit(slices.Insert(slices.Clone(path), i, ""))
	}
	for i, x := range path {
		visit(slices.Delete(slices.Clone(path), i, i+1))
		visit(slices.Insert(slices.Clone(path), i, x))
		for _, y := range []string{stranger, "", x[:31], x + "\x00", "\x00" + x, flipBit(x, i), strings.ToUpper(hex.EncodeToString([]byte(x)))} {
			changed := slices.Clone(path)
			changed[i] = y
			visit(changed)
		}
		if i > 0 && x != path[i-1] {
			changed := slices.Clone(path)
			changed[i], changed[i-1] = changed[i-1], changed[i]
			visit(changed)
		}
	}
}

// flipBit returns a hash with one bit changed.
func flipBit(s string, i int) string {
	b := []byte(s)
	b[i%len(b)] ^= 1 << (i % 8)
	return string(b)
}

// lists calls visit with all lists of at most n elements of pool.
func lists(n int, pool []string, visit func([]string)) {
	var l []string
	var extend func()
	extend = func() {
		visit(l)
		if len(l) == n {
			return
		}
		for _, x := range pool {
			l = append(l, x)
			extend()
			l = l[:len(l)-1]
		}
	}
	extend()
}

// The tree of RFC 6962 that its other implementations are tested with: its strings, the roots of the first ones, and some nodes.
func knownStrings() []string {
	return unhex("", "00", "10", "2021", "3031", "40414243", "5051525354555657", "606162636465666768696a6b6c6d6e6f")
}

func knownLeaves() []string {
	var out []string
	for _, s := range knownStrings() {
		out = append(out, merkle.Leaf(s))
	}
	return out
}

func knownRoots() []string {
	return unhex(
		"e3b0c44298fc1c149afbf4c8996fb92427ae41e4649b934ca495991b7852b855",
		"6e340b9cffb37a989ca544e6bb780a2c78901d3fb33738768511a30617afa01d",
		"fac54203e7cc696cf0dfcb42c92a1d9dbaf70ad9e621f4bd8d98662f00e3c125",
		"aeb6bcfe274b70a14fb067a5e5578264db0fa9b51af5e0ba159158f329e06e77",
		"d37ee418976dd95753c1c73862b9398fa2a2cf9b4ff0fdfe8b30cd95209614b7",
		"4e3bbb1f7b478dcfe71fb631631519a3bca12c9aefca1612bfce4c13a86264d4",
		"76e67dadbcdf1e10e1b74ddc608abd2f98dfb16fbce75277b5232a127f2087ef",
		"ddb89be403809e325750d3d263cd78929c2942b7942a34b77e122c9594a74c8c",
		"5dc9da79a70659a9ad559cb701ded9a2ab9d823aad2f4960cfe370eff4604328",
	)
}

const (
	leaf0      = "6e340b9cffb37a989ca544e6bb780a2c78901d3fb33738768511a30617afa01d"
	leaf1      = "96a296d224f285c67bee93c30f8a309157f0daa35dc5b87e410b78630a09cfc7"
	leaf4      = "bc1a0643b12e4d2d7c77918f44e0f4f79a838b6cf9ec5b5c283e1f4d88599e6b"
	joined0To1 = "fac54203e7cc696cf0dfcb42c92a1d9dbaf70ad9e621f4bd8d98662f00e3c125"
	joined2To3 = "5f083f0a1a33ca076a95279832580db3e0ef4584bdff1f54c8a360f50de3031e"
	joined4To5 = "0ebc5d3437fbe2db158b9f126a1d118e308181031d0a949f8dededebc558ef6a"
	joined6To7 = "ca854ea128ed050b41b35ffc1b87b8eb2bde461e9e3b5596ece6b9d5975a0ae0"
	joined0To3 = "d37ee418976dd95753c1c73862b9398fa2a2cf9b4ff0fdfe8b30cd95209614b7"
	joined4To7 = "6b47aaf29ee3c2af9af889bc1fb9254dabd31177f16232dd6aab035ca39bf6e4"
)

func TestLeafAndJoin(t *testing.T) { // P4.1
	texts := []string{"", "\x00", "\x01", "a", "ab", "\xff\xfe", sum(), strings.Repeat("x", 31), strings.Repeat("y", 64), strings.Repeat("line\n", 5000)}
	for n := range 140 { // around the ends of the blocks of SHA-256
		texts = append(texts, strings.Repeat("é", n)[:n])
	}
	for _, a := range texts {
		if got := merkle.Leaf(a); got != sum("\x00", a) {
			t.Errorf("Leaf(%.20q) = %x", a, got)
		}
		for _, b := range texts {
			if got := merkle.Join(a, b); got != sum("\x01", a, b) {
				t.Errorf("Join(%.20q, %.20q) = %x", a, b, got)
			}
		}
	}
	if got := digest.Hex(merkle.Leaf("")); got != leaf0 {
		t.Errorf("Leaf of nothing: %s", got)
	}
	if got := digest.Hex(merkle.Join(merkle.Leaf(""), merkle.Leaf("\x00"))); got != joined0To1 {
		t.Errorf("Join of two leaves: %s", got)
	}
}

func TestRoot(t *testing.T) { // P4.1
	leaves := knownLeaves()
	for n, want := range knownRoots() {
		if got := merkle.Root(leaves[:n]); got != want {
			t.Errorf("Root of %d leaves: %x", n, got)
		}
	}
	a, b, c, d, e := "a", "b", "c", "d", "e"
	join := merkle.Join
	for _, x := range []struct {
		leaves []string
		want   string
	}{
		{nil, digest.Sum("")},
		{[]string{}, digest.Sum("")},
		{[]string{""}, ""},
		{[]string{a}, a},
		{[]string{strings.Repeat("long", 100)}, strings.Repeat("long", 100)},
		{[]string{a, b}, join(a, b)},
		{[]string{b, a}, join(b, a)},
		{[]string{"", ""}, join("", "")},
		{[]string{a, b, c}, join(join(a, b), c)},
		{[]string{a, b, c, d}, join(join(a, b), join(c, d))},
		{[]string{a, b, c, d, e}, join(join(join(a, b), join(c, d)), e)},
		{[]string{a, b, c, d, e, e}, join(join(join(a, b), join(c, d)), join(e, e))},
	} {
		if got := merkle.Root(x.leaves); got != x.want {
			t.Errorf("Root(%q) = %x", x.leaves, got)
		}
	}
	many := someHashes("root", 1100)
	for n := range many {
		if got := merkle.Root(many[:n]); got != rootOf(many[:n]) {
			t.Errorf("Root of %d leaves: %x", n, got)
		}
	}
}

func TestRootOfMany(t *testing.T) { // P4.1: long lists, and elements that are no hashes
	for _, n := range []int{1<<15 - 1, 1 << 15, 1<<15 + 1, 100000} {
		leaves := make([]string, n)
		for i := range leaves {
			leaves[i] = strings.Repeat("x", i%70)
		}
		if got := merkle.Root(leaves); got != rootOf(leaves) {
			t.Errorf("Root of %d leaves: %x", n, got)
		}
	}
}

func TestPath(t *testing.T) { // P4.2
	leaves := knownLeaves()
	for _, x := range []struct {
		n, i int
		want []string
	}{
		{1, 0, nil},
		{8, 0, unhex(leaf1, joined2To3, joined4To7)},
		{8, 5, unhex(leaf4, joined6To7, joined0To3)},
		{3, 2, unhex(joined0To1)},
		{5, 1, unhex(leaf0, joined2To3, leaf4)},
		{5, 4, unhex(joined0To3)},
		{7, 6, unhex(joined4To5, joined0To3)},
	} {
		if got := merkle.Path(leaves[:x.n], x.i); !slices.Equal(got, x.want) {
			t.Errorf("path of %d of %d: %x", x.i, x.n, got)
		}
	}
	abc := []string{"a", "b", "c"}
	if got := merkle.Path(abc, 2); !slices.Equal(got, []string{merkle.Join("a", "b")}) {
		t.Errorf("path of c: %q", got)
	}
	if got := merkle.Path(abc, 0); !slices.Equal(got, []string{"b", "c"}) {
		t.Errorf("path of a: %q", got)
	}
	many := append(someHashes("path", 67), "", "no hash")
	for n := range len(many) + 1 {
		for i := range n {
			if got := merkle.Path(many[:n], i); !slices.Equal(got, pathOf(many[:n], i)) {
				t.Errorf("path of %d of %d: %x", i, n, got)
			}
		}
	}
}

func TestPathOfNoIndex(t *testing.T) { // P4.2
	many := someHashes("path", 40)
	for n := range len(many) {
		for _, i := range append(strange(), n, n+1, 2*n, 64, -n, -n-1) {
			if i >= 0 && i < n {
				continue
			}
			if got := merkle.Path(many[:n], i); len(got) != 0 {
				t.Errorf("path of %d of %d: %x", i, n, got)
			}
		}
	}
	if got := merkle.Path(nil, 0); len(got) != 0 {
		t.Errorf("path in nothing: %x", got)
	}
}

func TestCheck(t *testing.T) { // P4.2
	leaves, roots := knownLeaves(), knownRoots()
	if !merkle.Check(roots[8], 8, 5, leaves[5], unhex(leaf4, joined6To7, joined0To3)) {
		t.Error("5 of 8 is not accepted")
	}
	if !merkle.Check(roots[5], 5, 4, leaves[4], unhex(joined0To3)) || !merkle.Check(roots[1], 1, 0, leaves[0], nil) || !merkle.Check(roots[1], 1, 0, leaves[0], []string{}) {
		t.Error("the last element is not accepted")
	}
	if merkle.Check(roots[8], 8, 5, leaves[5], unhex(joined0To3, joined6To7, leaf4)) || merkle.Check(roots[1], 1, 0, leaves[1], nil) {
		t.Error("a wrong path or leaf is accepted")
	}
	const most = 20
	for n := range most {
		l := someHashes("check", n)
		root := merkle.Root(l)
		for i, leaf := range l {
			path := merkle.Path(l, i)
			for otherN := -1; otherN < most+14; otherN++ { // with other lengths and indices
				for otherI := -1; otherI < most+14; otherI++ {
					want := wantCheck(root, otherN, otherI, leaf, path)
					if got := merkle.Check(root, otherN, otherI, leaf, path); got != want {
						t.Fatalf("the path of %d of %d, for %d of %d: %v", i, n, otherI, otherN, got)
					}
				}
			}
		}
	}
}

func TestCheckOfNoIndex(t *testing.T) { // P4.2
	h := sum("h")
	for _, path := range [][]string{nil, {h}, {h, h}, slices.Repeat([]string{h}, 62), slices.Repeat([]string{h}, 63), slices.Repeat([]string{h}, 64)} {
		for _, n := range append(strange(), 0, 1, 2, 3) {
			for _, i := range append(strange(), -3, 0, 1, 2, 3) {
				root, exists := h, false
				if i >= 0 && i < n {
					root, exists = rootBy(n, i, h, path)
				}
				if !exists {
					root = h
				}
				if got := merkle.Check(root, n, i, h, path); got != exists {
					t.Errorf("%d of %d with a path of %d: %v", i, n, len(path), got)
				}
			}
		}
	}
}

func TestCheckOfNoHashes(t *testing.T) { // P4.2: all that belongs together, but for the lengths
	good := sum("good")
	for _, size := range []int{0, 1, 31, 33, 64, 1000} {
		bad := strings.Repeat("b", size)
		if merkle.Check(bad, 1, 0, bad, nil) {
			t.Errorf("a leaf and root of %d bytes are accepted", size)
		}
		if merkle.Check(merkle.Join(bad, good), 2, 0, bad, []string{good}) {
			t.Errorf("a leaf of %d bytes is accepted", size)
		}
		if merkle.Check(merkle.Join(good, bad), 2, 0, good, []string{bad}) {
			t.Errorf("an element of %d bytes is accepted", size)
		}
		if merkle.Check(merkle.Join(merkle.Join(good, bad), good), 3, 0, good, []string{bad, good}) {
			t.Errorf("a first element of %d bytes is accepted", size)
		}
		if merkle.Check(merkle.Join(merkle.Join(good, good), bad), 3, 0, good, []string{good, bad}) {
			t.Errorf("a last element of %d bytes is accepted", size)
		}
		if merkle.Check(bad, 2, 0, good, []string{good}) || merkle.Check(bad, 1, 0, good, nil) || merkle.Check(good, 1, 0, bad, nil) {
			t.Errorf("a root or leaf of %d bytes is accepted", size)
		}
	}
	both := sum("a") + sum("b")
	if merkle.Check(merkle.Join(both[:32], both[32:]), 2, 0, both[:31], []string{both[31:]}) {
		t.Error("a leaf without its last byte is accepted")
	}
}

// aboutSizes returns numbers around the powers of 2, and random ones, all from 1 to the greatest int.
func aboutSizes(random *rand.Rand) []int {
	out := []int{math.MaxInt, math.MaxInt - 1}
	for shift := range 63 {
		for _, n := range []int{1<<shift - 1, 1 << shift, 1<<shift + 1, 1<<shift + random.Intn(1<<shift)} {
			if n > 0 {
				out = append(out, n)
			}
		}
	}
	return out
}

func TestCheckOfMany(t *testing.T) { // P4.2: lists of any length that a number can have
	random := rand.New(rand.NewSource(42))
	pool, leaf := someHashes("many", 70), sum("leaf")
	for _, n := range aboutSizes(random) {
		for _, i := range []int{0, n - 1, n / 2, (n - 1) / 2, random.Intn(n), 1 << bits.Len(uint(n/2)), 1<<bits.Len(uint(n/2)) - 1} {
			if i < 0 || i >= n {
				continue
			}
			path := pool[:pathLength(n, i)]
			root, ok := rootBy(n, i, leaf, path)
			if !ok || !merkle.Check(root, n, i, leaf, path) {
				t.Fatalf("%d of %d is not accepted", i, n)
			}
			for _, wrong := range [][]string{pool[:len(path)+1], path[:max(0, len(path)-1)], nil, pool} {
				if len(wrong) != len(path) && merkle.Check(root, n, i, leaf, wrong) {
					t.Errorf("%d of %d with %d elements is accepted", i, n, len(wrong))
				}
			}
			if merkle.Check(root, n, n-1-i, leaf, path) && i != n-1-i {
				t.Errorf("%d of %d is accepted as %d", i, n, n-1-i)
			}
		}
	}
}

func TestGrown(t *testing.T) { // P4.3
	leaves := knownLeaves()
	for _, x := range []struct {
		m, n int
		want []string
	}{
		{1, 1, nil},
		{8, 8, nil},
		{1, 8, unhex(leaf1, joined2To3, joined4To7)},
		{6, 8, unhex(joined4To5, joined6To7, joined0To3)},
		{2, 5, unhex(joined2To3, leaf4)},
		{4, 8, unhex(joined4To7)},
		{5, 6, unhex(leaf4, digest.Hex(leaves[5]), joined0To3)},
	} {
		if got := merkle.Grown(leaves[:x.n], x.m); !slices.Equal(got, x.want) {
			t.Errorf("growth of %d from %d: %x", x.n, x.m, got)
		}
	}
	abc := []string{"a", "b", "c"}
	if got := merkle.Grown(abc, 2); !slices.Equal(got, []string{"c"}) {
		t.Errorf("growth from 2: %q", got)
	}
	if got := merkle.Grown(abc, 1); !slices.Equal(got, []string{"b", "c"}) {
		t.Errorf("growth from 1: %q", got)
	}
	many := append(someHashes("grown", 67), "", "no hash")
	for n := range len(many) + 1 {
		for m := 1; m <= n; m++ {
			if got := merkle.Grown(many[:n], m); !slices.Equal(got, growthOf(many[:n], m)) {
				t.Errorf("growth of %d from %d: %x", n, m, got)
			}
		}
	}
}

func TestGrownFromNoPart(t *testing.T) { // P4.3
	many := someHashes("grown", 40)
	for n := range len(many) {
		for _, m := range append(strange(), 0, n, n+1, 2*n+1, 64, -n-1) {
			if m >= 1 && m < n {
				continue
			}
			if got := merkle.Grown(many[:n], m); len(got) != 0 {
				t.Errorf("growth of %d from %d: %x", n, m, got)
			}
		}
	}
	if got := merkle.Grown(nil, 0); len(got) != 0 {
		t.Errorf("growth of nothing: %x", got)
	}
}

func TestCheckGrown(t *testing.T) { // P4.3
	roots := knownRoots()
	if !merkle.CheckGrown(roots[6], 6, roots[8], 8, unhex(joined4To5, joined6To7, joined0To3)) || !merkle.CheckGrown(roots[2], 2, roots[5], 5, unhex(joined2To3, leaf4)) {
		t.Error("a growth is not accepted")
	}
	if !merkle.CheckGrown(roots[8], 8, roots[8], 8, nil) || !merkle.CheckGrown(roots[1], 1, roots[1], 1, []string{}) {
		t.Error("no growth is not accepted")
	}
	if merkle.CheckGrown(roots[6], 6, roots[7], 8, unhex(joined4To5, joined6To7, joined0To3)) || merkle.CheckGrown(roots[7], 8, roots[8], 8, nil) || merkle.CheckGrown(roots[8], 8, roots[8], 8, roots[8:]) {
		t.Error("a wrong growth is accepted")
	}
	const most = 20
	for n := range most {
		l := someHashes("check", n)
		root := merkle.Root(l)
		for m := range n + 1 {
			old, path := merkle.Root(l[:m]), merkle.Grown(l, m)
			for otherN := -1; otherN < most+14; otherN++ { // with other lengths
				for otherM := -1; otherM < most+14; otherM++ {
					want := wantCheckGrown(old, otherM, root, otherN, path)
					if got := merkle.CheckGrown(old, otherM, root, otherN, path); got != want {
						t.Fatalf("the growth of %d from %d, for %d from %d: %v", n, m, otherN, otherM, got)
					}
				}
			}
		}
	}
}

func TestCheckGrownFromNothing(t *testing.T) { // P4.3: m = 0
	empty, h := digest.Sum(""), sum("h")
	for _, n := range []int{0, 1, 2, 3, 8, 1000, math.MaxInt} {
		for _, root := range []string{empty, h} {
			if !merkle.CheckGrown(empty, 0, root, n, nil) || !merkle.CheckGrown(empty, 0, root, n, []string{}) {
				t.Errorf("growth of %d from nothing is not accepted", n)
			}
			if merkle.CheckGrown(h, 0, root, n, nil) || merkle.CheckGrown(empty, 0, root, n, []string{h}) || merkle.CheckGrown(empty, 0, root, n, []string{root, root}) {
				t.Errorf("a wrong growth of %d from nothing is accepted", n)
			}
		}
		if merkle.CheckGrown(empty, 0, "", n, nil) || merkle.CheckGrown("", 0, h, n, nil) || merkle.CheckGrown(empty, 0, h+"x", n, nil) {
			t.Errorf("no hash is accepted as a root of %d", n)
		}
	}
	for _, n := range []int{-1, -2, math.MinInt} {
		if merkle.CheckGrown(empty, 0, empty, n, nil) {
			t.Errorf("growth of %d from nothing is accepted", n)
		}
	}
}

func TestCheckGrownFromNoPart(t *testing.T) { // P4.3
	h := sum("h")
	for _, path := range [][]string{nil, {h}, {h, h}, slices.Repeat([]string{h}, 63), slices.Repeat([]string{h}, 64)} {
		for _, n := range append(strange(), 0, 1, 2, 3) {
			for _, m := range append(strange(), -3, 1, 2, 3, 4) {
				old, root, exists := h, h, false
				if m >= 1 && m <= n {
					old, root, exists = rootsBy(h, m, n, path)
				}
				if !exists {
					old, root = h, h
				}
				want := wantCheckGrown(old, m, root, n, path)
				if got := merkle.CheckGrown(old, m, root, n, path); got != want {
					t.Errorf("%d from %d with a path of %d: %v", n, m, len(path), got)
				}
			}
		}
	}
	if merkle.CheckGrown(h, -1, h, -1, nil) || merkle.CheckGrown(h, math.MinInt, h, math.MinInt, nil) || merkle.CheckGrown(h, 2, h, 1, nil) || merkle.CheckGrown(h, 1, h, 0, nil) || merkle.CheckGrown(h, math.MaxInt, h, -1, nil) {
		t.Error("a part that is none is accepted")
	}
	if !merkle.CheckGrown(h, math.MaxInt, h, math.MaxInt, nil) {
		t.Error("the longest list is not accepted")
	}
}

func TestCheckGrownOfNoHashes(t *testing.T) { // P4.3: all that belongs together, but for the lengths
	good := sum("good")
	join := merkle.Join
	for _, size := range []int{0, 1, 31, 33, 64, 1000} {
		bad := strings.Repeat("b", size)
		if merkle.CheckGrown(bad, 1, bad, 1, nil) || merkle.CheckGrown(bad, 7, bad, 7, nil) {
			t.Errorf("roots of %d bytes are accepted", size)
		}
		if merkle.CheckGrown(bad, 1, join(bad, good), 2, []string{good}) || merkle.CheckGrown(good, 1, bad, 2, []string{good}) {
			t.Errorf("a root of %d bytes is accepted", size)
		}
		if merkle.CheckGrown(good, 1, join(good, bad), 2, []string{bad}) {
			t.Errorf("an element of %d bytes is accepted", size)
		}
		old := join(join(good, good), bad)
		if merkle.CheckGrown(old, 3, join(join(good, good), join(bad, good)), 4, []string{bad, good, join(good, good)}) {
			t.Errorf("a first element of %d bytes is accepted", size)
		}
		if merkle.CheckGrown(join(bad, good), 2, join(join(bad, good), bad), 3, []string{bad}) || merkle.CheckGrown(good, 1, join(join(good, good), bad), 3, []string{good, bad}) {
			t.Errorf("a last element of %d bytes is accepted", size)
		}
	}
	both := sum("a") + sum("b")
	if merkle.CheckGrown(both[:31], 1, join(both[:32], both[32:]), 2, []string{both[31:]}) {
		t.Error("a root without its last byte is accepted")
	}
}

func TestCheckGrownOfMany(t *testing.T) { // P4.3: lists of any length that a number can have
	random := rand.New(rand.NewSource(43))
	pool, start := someHashes("many", 70), sum("start")
	for _, n := range aboutSizes(random) {
		for _, m := range []int{1, 2, 3, n, n - 1, n / 2, n/2 + 1, 1 + random.Intn(n), 1 << bits.Len(uint(n/2)), 1<<bits.Len(uint(n/2)) - 1} {
			if m < 1 || m > n {
				continue
			}
			path := pool[:growthLength(m, n)]
			old, root, ok := rootsBy(start, m, n, path)
			if !ok || !merkle.CheckGrown(old, m, root, n, path) {
				t.Fatalf("%d from %d is not accepted", n, m)
			}
			for _, wrong := range [][]string{pool[:len(path)+1], path[:max(0, len(path)-1)], nil, pool} {
				if len(wrong) != len(path) && merkle.CheckGrown(old, m, root, n, wrong) {
					t.Errorf("%d from %d with %d elements is accepted", n, m, len(wrong))
				}
			}
			if m < n && (merkle.CheckGrown(root, m, root, n, path) || merkle.CheckGrown(old, m, old, n, path)) {
				t.Errorf("%d from %d is accepted with one root twice", n, m)
			}
		}
	}
}

func TestArgumentsStay(t *testing.T) { // P4.4
	for n := range 20 {
		whole := append(someHashes("given", n), "behind", "further behind")
		kept := slices.Clone(whole)
		leaves := whole[:n] // with room behind it
		merkle.Root(leaves)
		for i := range n + 2 {
			path := append(merkle.Path(leaves, i), "behind")
			growth := append(merkle.Grown(leaves, i), "behind")
			keptPath, keptGrowth := slices.Clone(path), slices.Clone(growth)
			merkle.Check(sum(), n, i, sum(), path[:len(path)-1])
			merkle.CheckGrown(sum(), i, sum(), n, growth[:len(growth)-1])
			if !slices.Equal(path, keptPath) || !slices.Equal(growth, keptGrowth) {
				t.Fatalf("a path for %d of %d was modified", i, n)
			}
		}
		if !slices.Equal(whole, kept) {
			t.Fatalf("a list of %d was modified", n)
		}
	}
}

func TestResultsAreFresh(t *testing.T) { // P4.4
	for n := 1; n < 20; n++ {
		leaves := someHashes("fresh", n)
		kept := slices.Clone(leaves)
		for i := range n {
			for _, f := range []func([]string, int) []string{merkle.Path, merkle.Grown} {
				first, second := f(leaves, i), f(leaves, i)
				want := slices.Clone(first)
				for j := range first[:cap(first)] {
					first[:cap(first)][j] = "overwritten"
				}
				if !slices.Equal(second, want) || !slices.Equal(f(leaves, i), want) || !slices.Equal(leaves, kept) {
					t.Fatalf("a result for %d of %d shares memory", i, n)
				}
				for j := range leaves {
					leaves[j] = "changed"
				}
				if !slices.Equal(second, want) {
					t.Fatalf("a result for %d of %d shares memory with the list", i, n)
				}
				copy(leaves, kept)
			}
		}
	}
}

func TestOneLeafAndPath(t *testing.T) { // P4.5: for each index its leaf and path are accepted
	for n := 1; n <= 40; n++ {
		l := someHashes("member", n)
		root := merkle.Root(l)
		for i, leaf := range l {
			path := merkle.Path(l, i)
			if !merkle.Check(root, n, i, leaf, path) {
				t.Fatalf("%d of %d is not accepted", i, n)
			}
			for j, other := range append(slices.Clone(l), root, sum(), "", leaf[:31], leaf+"\x00", flipBit(leaf, i)) {
				if j != i && other != leaf && merkle.Check(root, n, i, other, path) {
					t.Errorf("%x is accepted as %d of %d", other, i, n)
				}
			}
			for j := range l {
				if j != i && merkle.Check(root, n, j, leaf, path) {
					t.Errorf("%d of %d is accepted as %d", i, n, j)
				}
			}
			spoilt(path, func(wrong []string) {
				if merkle.Check(root, n, i, leaf, wrong) {
					t.Errorf("%d of %d: %x is accepted", i, n, wrong)
				}
			})
			for _, wrong := range []string{sum(), "", root[:31], root + "\x00", flipBit(root, i)} {
				if merkle.Check(wrong, n, i, leaf, path) {
					t.Errorf("%d of %d: %x is accepted as the root", i, n, wrong)
				}
			}
		}
	}
}

// nodes returns the hashes that occur in the tree above l, and one that does not.
func nodes(l []string) []string {
	out := []string{sum()}
	for _, level := range levels(l) {
		out = append(out, level...)
	}
	slices.Sort(out)
	return slices.Compact(out)
}

func TestNoOtherLeafOrPath(t *testing.T) { // P4.5: among all that consist of the nodes of a tree
	equal := slices.Repeat(someHashes("equal", 1), 4)
	for _, all := range [][]string{someHashes("member", 5), equal} {
		for n := 1; n <= len(all); n++ {
			l := all[:n]
			root, pool := merkle.Root(l), nodes(l)
			for i := range l {
				path, found := merkle.Path(l, i), 0
				lists(min(len(path)+1, 4), pool, func(wrong []string) {
					for _, leaf := range pool {
						if merkle.Check(root, n, i, leaf, wrong) {
							found++
							if leaf != l[i] || !slices.Equal(wrong, path) {
								t.Errorf("%d of %d: another leaf or path is accepted", i, n)
							}
						}
					}
				})
				if found != 1 {
					t.Errorf("%d of %d: %d leaves and paths are accepted", i, n, found)
				}
			}
		}
	}
}

func TestOneOldRoot(t *testing.T) { // P4.6: for each part its root is accepted
	for n := range 41 {
		l := someHashes("growing", n)
		root := merkle.Root(l)
		for m := range n + 1 {
			old, path := merkle.Root(l[:m]), merkle.Grown(l, m)
			if !merkle.CheckGrown(old, m, root, n, path) {
				t.Fatalf("%d from %d is not accepted", n, m)
			}
			others := []string{sum("stranger"), "", old[:31], old + "\x00", flipBit(old, m)}
			for k := range n + 1 {
				others = append(others, merkle.Root(l[:k]))
			}
			for _, other := range append(others, l...) {
				if other != old && merkle.CheckGrown(other, m, root, n, path) {
					t.Errorf("%d from %d: %x is accepted as the old root", n, m, other)
				}
				if m > 0 && other != root && merkle.CheckGrown(old, m, other, n, path) {
					t.Errorf("%d from %d: %x is accepted as the root", n, m, other)
				}
			}
			spoilt(path, func(wrong []string) {
				if merkle.CheckGrown(old, m, root, n, wrong) {
					t.Errorf("%d from %d: %x is accepted", n, m, wrong)
				}
			})
		}
	}
}

func TestNoOtherOldRoot(t *testing.T) { // P4.6: among all paths that consist of the nodes of a tree
	equal := slices.Repeat(someHashes("equal", 1), 4)
	for _, all := range [][]string{someHashes("growing", 5), equal} {
		for n := range len(all) + 1 {
			l := all[:n]
			root, pool := merkle.Root(l), nodes(l)
			for m := range n + 1 {
				candidates := slices.Clone(pool)
				for k := range n {
					candidates = append(candidates, merkle.Root(l[:k]))
				}
				slices.Sort(candidates)
				candidates = slices.Compact(candidates)
				old, found := merkle.Root(l[:m]), 0
				lists(min(len(merkle.Grown(l, m))+1, 4), pool, func(path []string) {
					for _, other := range candidates {
						if merkle.CheckGrown(other, m, root, n, path) {
							found++
							if other != old {
								t.Errorf("%d from %d: another old root is accepted", n, m)
							}
						}
					}
				})
				if found == 0 {
					t.Errorf("%d from %d: no old root is accepted", n, m)
				}
			}
		}
	}
}

func TestSameRoots(t *testing.T) { // P4.7
	a, b := sum("a"), sum("b")
	pool := []string{a, b, sum(), merkle.Join(a, b), merkle.Join(b, a), merkle.Leaf(a)}
	var known [6]map[string]bool // by the length, the roots of the lists of it
	for n := range known {
		known[n] = map[string]bool{}
	}
	lists(5, pool, func(l []string) {
		root := merkle.Root(l)
		if len(root) != 32 || known[len(l)][root] {
			t.Fatalf("the root of %x is that of another list as well", l)
		}
		known[len(l)][root] = true
	})
	for n := 1; n <= 70; n++ {
		l := someHashes("same", n)
		root := merkle.Root(l)
		for i := range l {
			changed := slices.Clone(l)
			changed[i] = flipBit(changed[i], i)
			if merkle.Root(changed) == root {
				t.Errorf("element %d of %d does not change the root", i, n)
			}
			if j := (i + 1) % n; i != j {
				changed = slices.Clone(l)
				changed[i], changed[j] = changed[j], changed[i]
				if merkle.Root(changed) == root {
					t.Errorf("the elements %d and %d of %d can be exchanged", i, j, n)
				}
			}
		}
	}
}

func TestSameResults(t *testing.T) { // P4 of DOC.md: no results of earlier calls or of calls beside them
	leaves := someHashes("pure", 30)
	root := merkle.Root(leaves)
	var all sync.WaitGroup
	for range 4 {
		all.Go(func() {
			for i := range leaves {
				path, growth := merkle.Path(leaves, i), merkle.Grown(leaves, i+1)
				if merkle.Root(leaves) != root || !slices.Equal(path, pathOf(leaves, i)) || !slices.Equal(growth, growthOf(leaves, i+1)) {
					t.Errorf("other results for %d", i)
				}
				if !merkle.Check(root, 30, i, leaves[i], path) || !merkle.CheckGrown(rootOf(leaves[:i+1]), i+1, root, 30, growth) {
					t.Errorf("the results for %d are not accepted", i)
				}
			}
		})
	}
	all.Wait()
}
