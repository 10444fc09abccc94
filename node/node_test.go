package node

import (
	"crypto/sha256"
	"encoding/hex"
	"math"
	"slices"
	"strings"
	"testing"
	"unsafe"

	"pharos/api"
)

// kinds as numbers.
const leafKind, extKind, branchKind = 1, 2, 3

// sumOf is 32 bytes, unlike ones for each place.
func sumOf(place int) string {
	b := make([]byte, 32)
	for i := range b {
		b[i] = byte(17*place + 7*i)
	}
	return string(b)
}

// half is so many half bytes, from the one on.
func half(from, count int) string {
	b := make([]byte, count)
	for i := range b {
		b[i] = byte((from + i) % 16)
	}
	return string(b)
}

// leafOf is a leaf.
func leafOf(path, value string) api.Node {
	return api.Node{Kind: leafKind, Path: path, Value: value}
}

// extOf is an extension.
func extOf(path, kid string) api.Node {
	return api.Node{Kind: extKind, Path: path, Kids: [16]string{kid}}
}

// branchOf is a branch with kids at these places.
func branchOf(value string, places ...int) api.Node {
	n := api.Node{Kind: branchKind, Value: value}
	for _, i := range places {
		n.Kids[i] = sumOf(i)
	}
	return n
}

// withKid is n with this kid at a place.
func withKid(n api.Node, place int, kid string) api.Node {
	n.Kids[place] = kid
	return n
}

// allPlaces is the sixteen.
func allPlaces() []int {
	return []int{0, 1, 2, 3, 4, 5, 6, 7, 8, 9, 10, 11, 12, 13, 14, 15}
}

// pathsThatMayBe is paths of at most 16 half bytes.
func pathsThatMayBe() []string {
	return []string{"", "\x00", "\x0f", "\x04\x01", "\x00\x00", "\x05\x0a\x0b", half(9, 15), half(0, 16), strings.Repeat("\x0f", 15), strings.Repeat("\x0f", 16), strings.Repeat("\x00", 16)}
}

// pathsThatMayNotBe is texts that are no such paths.
func pathsThatMayNotBe() []string {
	return []string{half(0, 17), half(0, 18), strings.Repeat("\x00", 17), half(0, 1<<16), "\x10", "\x80", "\xff", "\x04\x10", "\x10\x04", "\x04\x01\xff", half(0, 15) + "\x10", "\x10" + half(0, 15), half(0, 16) + "\x10", "A1"}
}

// valuesThatMayBe is values of 1 to 32 bytes.
func valuesThatMayBe() []string {
	return []string{"v", "\x00", "\x80", "\xff", "ab", "\u00e9\u4e16\u754c", strings.Repeat("v", 31), strings.Repeat("v", 32), strings.Repeat("\xff", 32), strings.Repeat("\x00", 32), sumOf(3)}
}

// valuesTooLong is values of more.
func valuesTooLong() []string {
	return []string{strings.Repeat("v", 33), strings.Repeat("\u00e9", 17), sumOf(0) + sumOf(1), strings.Repeat("v", 256+1), strings.Repeat("v", 1<<16)}
}

// wrongKids is texts that are neither empty nor of 32 bytes.
func wrongKids() []string {
	return []string{"k", "\x00", sumOf(2)[:31], sumOf(2) + "k", sumOf(2) + sumOf(2), strings.Repeat("\u00e9", 32), strings.Repeat("k", 256+32), hex.EncodeToString([]byte(sumOf(2)))}
}

// otherKinds is numbers that are no kind.
func otherKinds() []int {
	return []int{0, 4, 5, 255, -1, -2, -3, 256, 256 + 1, 256 + 2, 256 + 3, 1<<32 + 1, 1<<32 + 2, 1<<32 + 3, math.MaxInt, math.MinInt, math.MinInt + 1, math.MinInt + 3}
}

// nodesThatMayBe is some of each kind.
func nodesThatMayBe() []api.Node {
	var l []api.Node
	for _, path := range pathsThatMayBe() {
		l = append(l, leafOf(path, "v"), leafOf(path, sumOf(9)))
		if path != "" {
			l = append(l, extOf(path, sumOf(0)), extOf(path, sumOf(5)))
		}
	}
	for _, value := range valuesThatMayBe() {
		l = append(l, leafOf("\x04\x01", value), branchOf(value, 0), branchOf(value, 7, 8), branchOf(value, allPlaces()...))
	}
	for i := range 16 {
		l = append(l, branchOf("\x01", i), branchOf("", i, (i+1)%16), branchOf("", i, (i+8)%16), branchOf("", slices.Delete(allPlaces(), i, i+1)...))
	}
	return append(l, branchOf("", allPlaces()...), withKid(branchOf("", 3), 4, sumOf(3))) // one sum at two places, too
}

// nodesThatMayNotBe is others.
func nodesThatMayNotBe() []api.Node {
	l := []api.Node{{}, {Kind: leafKind}, {Kind: extKind}, {Kind: branchKind}, leafOf("\x04", ""), leafOf(half(0, 16), ""), extOf("", sumOf(0)), extOf("\x04", ""), branchOf("v"), branchOf(sumOf(0))}
	for _, path := range pathsThatMayNotBe() {
		l = append(l, leafOf(path, "v"), extOf(path, sumOf(0)))
	}
	for _, value := range valuesTooLong() {
		l = append(l, leafOf("\x04", value), branchOf(value, 1), branchOf(value, 1, 2), branchOf(value))
	}
	for i := range 16 {
		l = append(l, branchOf("", i), withKid(leafOf("\x04", "v"), i, sumOf(i)), withKid(leafOf("", "v"), i, "k"))
		if i > 0 {
			l = append(l, withKid(extOf("\x04", sumOf(0)), i, sumOf(i)), withKid(extOf("\x04", ""), i, sumOf(i)), withKid(extOf("\x04", sumOf(0)), i, "k"))
		}
		for _, kid := range wrongKids() {
			l = append(l, withKid(branchOf("v", 0, 15), i, kid), withKid(branchOf("", 4, 5, 6), i, kid), withKid(branchOf("v"), i, kid), withKid(extOf("\x04", sumOf(0)), i, kid))
		}
	}
	for _, n := range []api.Node{extOf("\x04", sumOf(0)), extOf(half(0, 16), sumOf(1))} {
		n.Value = "v"
		l = append(l, n)
	}
	for _, path := range append(pathsThatMayBe()[1:], pathsThatMayNotBe()...) {
		n := branchOf("v", 1, 2)
		n.Path = path
		l = append(l, n)
	}
	for _, kind := range otherKinds() {
		for _, n := range []api.Node{leafOf("\x04", "v"), extOf("\x04", sumOf(0)), branchOf("v", 1, 2), {}} {
			n.Kind = kind
			l = append(l, n)
		}
	}
	return l
}

// plainPath tells whether a path may be a node's, as the words say it.
func plainPath(path string) bool {
	return len(path) <= 16 && strings.Trim(path, "\x00\x01\x02\x03\x04\x05\x06\x07\x08\x09\x0a\x0b\x0c\x0d\x0e\x0f") == ""
}

// plainMay tells whether a node may be, as the words say it.
func plainMay(n api.Node) bool {
	empty, whole := 0, 0
	for _, k := range n.Kids {
		switch len(k) {
		case 0:
			empty++
		case 32:
			whole++
		}
	}
	switch n.Kind {
	case leafKind:
		return plainPath(n.Path) && len(n.Value) >= 1 && len(n.Value) <= 32 && empty == 16
	case extKind:
		return plainPath(n.Path) && len(n.Path) >= 1 && n.Value == "" && len(n.Kids[0]) == 32 && empty == 15
	case branchKind:
		return n.Path == "" && empty+whole == 16 && len(n.Value) <= 32 && (whole >= 2 || whole == 1 && n.Value != "")
	}
	return false
}

// plainNum is a number up to 65535 as bytes.
func plainNum(n int) string {
	switch {
	case n == 0:
		return "\x00"
	case n < 256:
		return string([]byte{1, byte(n)})
	}
	return string([]byte{2, byte(n / 256), byte(n % 256)})
}

// plainText is a text as bytes.
func plainText(s string) string {
	return plainNum(len(s)) + s
}

// plainPack is a path, packed; of half bytes above 15 the lower half is taken.
func plainPack(path string, leaf bool) string {
	const digits = "0123456789abcdef"
	h := []byte{'0'}
	if leaf {
		h[0] = '2'
	}
	if len(path)%2 == 1 {
		h[0]++
	} else {
		h = append(h, '0')
	}
	for _, b := range []byte(path) {
		h = append(h, digits[b%16])
	}
	s, err := hex.DecodeString(string(h))
	if err != nil {
		panic(err)
	}
	return string(s)
}

// plainBytes is n as bytes, whether it may be or not, as far as its kind has it.
func plainBytes(n api.Node) string {
	switch n.Kind {
	case leafKind:
		return "\x01" + plainText(plainPack(n.Path, true)) + plainText(n.Value)
	case extKind:
		return "\x02" + plainText(plainPack(n.Path, false)) + n.Kids[0]
	}
	b := []byte{byte(n.Kind), 0, 0}
	s := ""
	for i, k := range n.Kids {
		if k != "" {
			b[1+i/8] |= 128 >> (i % 8)
			s += k
		}
	}
	return string(b) + s + plainText(n.Value)
}

// plainShort is the text of at most 255 bytes with which s begins, and what is behind it.
func plainShort(s string) (text, rest string, ok bool) {
	if s != "" && s[0] == 0 {
		return "", s[1:], true
	}
	if len(s) < 2 || s[0] != 1 || s[1] == 0 || len(s) < 2+int(s[1]) {
		return "", "", false
	}
	end := 2 + int(s[1])
	return s[2:end], s[end:], true
}

// plainUnpack is the path of a leaf, or of another one, that s packs.
func plainUnpack(s string, leaf bool) (string, bool) {
	h := hex.EncodeToString([]byte(s))
	lead := []string{"00", "1"}
	if leaf {
		lead = []string{"20", "3"}
	}
	for _, l := range lead {
		if strings.HasPrefix(h, l) {
			b := []byte(h[len(l):])
			for i, c := range b {
				b[i] = byte(strings.IndexByte("0123456789abcdef", c))
			}
			return string(b), true
		}
	}
	return "", false
}

// plainKids is the kids with which the bytes of a branch go on behind its kind, and what is behind them.
func plainKids(s string) (kids [16]string, rest string, ok bool) {
	if len(s) < 2 {
		return kids, "", false
	}
	bits, rest := s[:2], s[2:]
	for i := range kids {
		if bits[i/8]&(128>>(i%8)) == 0 {
			continue
		}
		if len(rest) < 32 {
			return kids, "", false
		}
		kids[i], rest = rest[:32], rest[32:]
	}
	return kids, rest, true
}

// plainDecode is the node that may be of which s is just the bytes.
func plainDecode(s string) (api.Node, bool) {
	if s == "" || s[0] < 1 || s[0] > 3 {
		return api.Node{}, false
	}
	n, rest, ok := api.Node{Kind: int(s[0])}, s[1:], false
	if n.Kind == branchKind {
		n.Kids, rest, ok = plainKids(rest)
	} else if n.Path, rest, ok = plainShort(rest); ok {
		n.Path, ok = plainUnpack(n.Path, n.Kind == leafKind)
	}
	if !ok {
		return api.Node{}, false
	}
	if n.Kind == extKind {
		n.Kids[0], rest = rest, ""
	} else if n.Value, rest, ok = plainShort(rest); !ok {
		return api.Node{}, false
	}
	if rest != "" || !plainMay(n) {
		return api.Node{}, false
	}
	return n, true
}

// plainDigest is the sum of a node's bytes, by Go's own library.
func plainDigest(n api.Node) string {
	s := sha256.Sum256([]byte("\x01" + plainBytes(n)))
	return string(s[:])
}

// wantNode holds all calls to their words for a node that may be.
func wantNode(t *testing.T, n api.Node) {
	t.Helper()
	if e := Check(n); e != api.OK || !plainMay(n) {
		t.Fatalf("Check(%#v) = %d, by the words it may be: %v", n, e, plainMay(n))
	}
	want := plainBytes(n)
	s, e := Encode(n)
	if s != want || e != api.OK {
		t.Errorf("Encode(%#v) = %#v, %d, want %#v", n, s, e, want)
	}
	if m, e := Decode(want); m != n || e != api.OK {
		t.Errorf("Decode(%#v) = %#v, %d, want %#v", want, m, e, n)
	}
	if d := Digest(n); d != plainDigest(n) {
		t.Errorf("Digest(%#v) = %#v, want %#v", n, d, plainDigest(n))
	}
	wantKids(t, n)
}

// wantNoNode holds all calls to their words for a node that may not be.
func wantNoNode(t *testing.T, n api.Node) {
	t.Helper()
	if e := Check(n); e != api.ErrNode || plainMay(n) {
		t.Errorf("Check(%#v) = %d, by the words it may be: %v", n, e, plainMay(n))
	}
	if s, e := Encode(n); s != "" || e != api.ErrNode {
		t.Errorf("Encode(%#v) = %#v, %d", n, s, e)
	}
	if d := Digest(n); d != "" {
		t.Errorf("Digest(%#v) = %#v", n, d)
	}
	wantKids(t, n)
}

// wantLooked holds all calls to their words for any node.
func wantLooked(t *testing.T, n api.Node) {
	t.Helper()
	if plainMay(n) {
		wantNode(t, n)
	} else {
		wantNoNode(t, n)
	}
}

// wantKids holds Kids to its words, for any node.
func wantKids(t *testing.T, n api.Node) {
	t.Helper()
	want := slices.DeleteFunc(slices.Clone(n.Kids[:]), func(k string) bool { return k == "" })
	if l := Kids(n); !slices.Equal(l, want) {
		t.Errorf("Kids(%#v) = %#v, want %#v", n, l, want)
	}
}

// wantNoBytes holds Decode to refusing s.
func wantNoBytes(t *testing.T, s string) {
	t.Helper()
	if n, e := Decode(s); n != (api.Node{}) || e != api.ErrNode {
		t.Errorf("Decode(%#v) = %#v, %d", s, n, e)
	}
	if n, ok := plainDecode(s); ok {
		t.Errorf("by the words %#v is the bytes of %#v", s, n)
	}
}

// wantDecoded holds Decode to its words, and what it answers to being of these bytes alone.
func wantDecoded(t *testing.T, s string) {
	t.Helper()
	n, ok := plainDecode(s)
	if !ok {
		wantNoBytes(t, s)
		return
	}
	if m, e := Decode(s); m != n || e != api.OK {
		t.Errorf("Decode(%#v) = %#v, %d, want %#v", s, m, e, n)
	}
	if back, e := Encode(n); back != s || e != api.OK {
		t.Errorf("Encode(%#v) = %#v, %d, want %#v", n, back, e, s)
	}
}

func TestExamples(t *testing.T) {
	n, s := leafOf("\x04\x01", "v"), "\x01"+"\x01\x02\x20\x41"+"\x01\x01v"
	if b, e := Encode(n); b != s || e != api.OK {
		t.Errorf("Encode(%#v) = %#v, %d, want %#v", n, b, e, s)
	}
	if m, e := Decode(s); m != n || e != api.OK {
		t.Errorf("Decode(%#v) = %#v, %d, want %#v", s, m, e, n)
	}
	wantNode(t, n)
	wantNoNode(t, api.Node{Kind: api.NBranch, Value: "v"})
	wantNoBytes(t, "\x03\x00\x00\x01\x01v")
}

func TestNodesThatMayBe(t *testing.T) {
	for _, n := range nodesThatMayBe() {
		wantNode(t, n)
	}
}

func TestNodesThatMayNotBe(t *testing.T) {
	for _, n := range nodesThatMayNotBe() {
		wantNoNode(t, n)
	}
}

// TestNodesOfAllFields holds nodes of every kind with every path, value and some kids to the words.
func TestNodesOfAllFields(t *testing.T) {
	values := append(append([]string{""}, valuesThatMayBe()...), valuesTooLong()[:3]...)
	kids := [][16]string{{}, branchOf("", 0).Kids, branchOf("", 1).Kids, branchOf("", 15).Kids, branchOf("", 0, 1).Kids, branchOf("", 0, 15).Kids, branchOf("", 14, 15).Kids, branchOf("", allPlaces()...).Kids}
	for _, k := range wrongKids() {
		kids = append(kids, [16]string{k}, [16]string{15: k}, [16]string{sumOf(0), k}, [16]string{k, sumOf(1)}, [16]string{sumOf(0), sumOf(1), k})
	}
	for _, kind := range append(otherKinds(), leafKind, extKind, branchKind) {
		for _, path := range append(pathsThatMayBe(), pathsThatMayNotBe()...) {
			for _, value := range values {
				for _, k := range kids {
					wantLooked(t, api.Node{Kind: kind, Path: path, Value: value, Kids: k})
				}
			}
		}
	}
}

func TestPathsOfAllLengths(t *testing.T) {
	for count := range 40 {
		for from := range 16 {
			path := half(from, count)
			wantLooked(t, leafOf(path, "v"))
			wantLooked(t, extOf(path, sumOf(from)))
			for i := range count {
				for _, h := range []string{"\x10", "\x80", "\xff"} {
					wantNoNode(t, leafOf(path[:i]+h+path[i+1:], "v"))
					wantNoNode(t, extOf(path[:i]+h+path[i+1:], sumOf(0)))
				}
			}
		}
	}
}

// TestPathsOfAllHalfBytes holds each byte, at each place of a path, to being a half byte or none.
func TestPathsOfAllHalfBytes(t *testing.T) {
	for b := range 256 {
		for count := 1; count <= 4; count++ {
			for i := range count {
				path := []byte(half(3, count))
				path[i] = byte(b)
				wantLooked(t, leafOf(string(path), "v"))
				wantLooked(t, extOf(string(path), sumOf(0)))
			}
		}
	}
}

func TestValuesOfAllLengths(t *testing.T) {
	for count := range 300 {
		value := strings.Repeat("\xf0", count)
		wantLooked(t, leafOf("\x04", value))
		wantLooked(t, branchOf(value, 3))
		wantLooked(t, branchOf(value, 3, 4))
		n := extOf("\x04", sumOf(0))
		n.Value = value
		wantLooked(t, n)
	}
}

// TestKidsOfAllLengths holds kids of every length at every place to the words.
func TestKidsOfAllLengths(t *testing.T) {
	for i := range 16 {
		for _, count := range []int{0, 1, 2, 16, 30, 31, 32, 33, 34, 63, 64, 65, 256, 256 + 32, 1 << 16, 1<<16 + 32} {
			kid := strings.Repeat("\xe9", count)
			for _, n := range []api.Node{leafOf("\x04", "v"), extOf("\x04", sumOf(0)), extOf("\x04", ""), branchOf(""), branchOf("v"), branchOf("", (i+1)%16), branchOf("v", (i+5)%16), branchOf("", allPlaces()...)} {
				wantLooked(t, withKid(n, i, kid))
			}
		}
	}
}

// TestEveryChoiceOfKids holds branches with a kid or none at each place, with a value and without, to the words.
func TestEveryChoiceOfKids(t *testing.T) {
	for bits := range 1 << 16 {
		var places []int
		for i := range 16 {
			if bits>>i&1 == 1 {
				places = append(places, i)
			}
		}
		wantLooked(t, branchOf("", places...))
		wantLooked(t, branchOf("\xff", places...))
	}
}

func TestBytesWrittenDown(t *testing.T) {
	a, b, all := strings.Repeat("a", 32), strings.Repeat("\xff", 32), ""
	for i := range 16 {
		all += sumOf(i)
	}
	for _, c := range []struct {
		n api.Node
		s string
	}{
		{leafOf("", "v"), "\x01" + "\x01\x01\x20" + "\x01\x01v"},
		{leafOf("\x00", "v"), "\x01" + "\x01\x01\x30" + "\x01\x01v"},
		{leafOf("\x0f", "\xff"), "\x01" + "\x01\x01\x3f" + "\x01\x01\xff"},
		{leafOf("\x06\x0b", "\x00"), "\x01" + "\x01\x02\x20\x6b" + "\x01\x01\x00"},
		{leafOf("\x05\x0a\x0b", a), "\x01" + "\x01\x02\x35\xab" + "\x01\x20" + a},
		{leafOf(half(0, 15), "v"), "\x01" + "\x01\x08\x30\x12\x34\x56\x78\x9a\xbc\xde" + "\x01\x01v"},
		{leafOf(half(0, 16), "v"), "\x01" + "\x01\x09\x20\x01\x23\x45\x67\x89\xab\xcd\xef" + "\x01\x01v"},
		{extOf("\x05", a), "\x02" + "\x01\x01\x15" + a},
		{extOf("\x05\x0a\x0b", b), "\x02" + "\x01\x02\x15\xab" + b},
		{extOf("\x00\x00", a), "\x02" + "\x01\x02\x00\x00" + a},
		{extOf(half(0, 16), b), "\x02" + "\x01\x09\x00\x01\x23\x45\x67\x89\xab\xcd\xef" + b},
		{withKid(branchOf("v"), 0, a), "\x03\x80\x00" + a + "\x01\x01v"},
		{withKid(branchOf("v"), 7, a), "\x03\x01\x00" + a + "\x01\x01v"},
		{withKid(branchOf("v"), 8, a), "\x03\x00\x80" + a + "\x01\x01v"},
		{withKid(branchOf("v"), 15, a), "\x03\x00\x01" + a + "\x01\x01v"},
		{withKid(withKid(branchOf(""), 9, a), 1, b), "\x03\x40\x40" + b + a + "\x00"},
		{withKid(withKid(branchOf(a), 6, a), 5, a), "\x03\x06\x00" + a + a + "\x01\x20" + a},
		{branchOf("", allPlaces()...), "\x03\xff\xff" + all + "\x00"},
	} {
		if s, e := Encode(c.n); s != c.s || e != api.OK {
			t.Errorf("Encode(%#v) = %#v, %d, want %#v", c.n, s, e, c.s)
		}
		if n, e := Decode(c.s); n != c.n || e != api.OK {
			t.Errorf("Decode(%#v) = %#v, %d, want %#v", c.s, n, e, c.n)
		}
		wantNode(t, c.n)
	}
}

func TestSumsWrittenDown(t *testing.T) {
	a, b := strings.Repeat("a", 32), strings.Repeat("b", 32)
	for _, c := range []struct {
		n   api.Node
		sum string
	}{
		{leafOf("\x04\x01", "v"), "fe81ccf06b91b000d59ab5d624d481106ea7078c3e859c19f304d7ae9153d0a3"},
		{extOf("\x05", a), "ed5f216911e465c0901d0d689a8f7757d52a8aa0fdd52717f638fae9e911c6d3"},
		{withKid(withKid(branchOf("v"), 0, a), 9, b), "b3b510188e7e0a78030556aa500df38ed3debcfc094df7361912c28184c8e7cd"},
	} {
		if d := hex.EncodeToString([]byte(Digest(c.n))); d != c.sum {
			t.Errorf("Digest(%#v) = %s, want %s", c.n, d, c.sum)
		}
	}
}

func TestDecodeOfBytesCutOrGrown(t *testing.T) {
	for _, n := range nodesThatMayBe() {
		s := plainBytes(n)
		for i := range len(s) {
			wantNoBytes(t, s[:i])
			wantDecoded(t, s[i+1:])
			wantDecoded(t, s[:i]+s[i+1:])
		}
		for b := range 256 {
			wantNoBytes(t, s+string([]byte{byte(b)}))
			wantDecoded(t, string([]byte{byte(b)})+s)
		}
		wantNoBytes(t, s+s)
	}
}

// TestDecodeOfOneByteChanged holds Decode, and Encode of what it answers, to their words where one byte of a node's is another one.
func TestDecodeOfOneByteChanged(t *testing.T) {
	l := []api.Node{leafOf("", "v"), leafOf("\x0f", "\xff"), leafOf("\x04\x01", "ab"), leafOf("\x05\x0a\x0b", sumOf(9)), leafOf(half(0, 15), "v"), leafOf(half(0, 16), sumOf(4))}
	l = append(l, extOf("\x00", sumOf(0)), extOf("\x04\x01", sumOf(5)), extOf(half(9, 15), sumOf(1)), extOf(half(9, 16), sumOf(2)))
	l = append(l, branchOf("v", 0), branchOf("\xff", 7), branchOf("ab", 8), branchOf(sumOf(0), 15), branchOf("", 0, 15), branchOf("", 7, 8), branchOf("v", 3, 4, 9), branchOf("", allPlaces()...))
	for _, n := range l {
		b := []byte(plainBytes(n))
		for i, was := range b {
			for v := range 256 {
				b[i] = byte(v)
				wantDecoded(t, string(b))
				if m, e := Decode(string(b)); e == api.OK && (m == n) != (byte(v) == was) {
					t.Errorf("Decode(%q) = %#v, of the bytes of %#v", b, m, n)
				}
			}
			b[i] = was
		}
	}
}

// TestDecodeOfNodesThatMayNotBe lays the bytes of such ones before Decode, as far as their kind has them.
func TestDecodeOfNodesThatMayNotBe(t *testing.T) {
	for _, n := range nodesThatMayNotBe() {
		wantDecoded(t, plainBytes(n)) // some are another one's, that may be
	}
	a := sumOf(0)
	for _, n := range []api.Node{leafOf("\x04", ""), leafOf(half(0, 17), "v"), leafOf(half(0, 18), "v"), leafOf("", valuesTooLong()[0]), extOf("", a), extOf("\x04", ""), extOf("\x04", a[:31]), extOf("\x04", a+"k"), extOf(half(0, 17), a), extOf(half(0, 18), a), branchOf(""), branchOf("v"), branchOf("", 0), branchOf("", 15), branchOf(valuesTooLong()[0], 1, 2)} {
		wantNoBytes(t, plainBytes(n))
	}
}

func TestDecodeOfOtherKinds(t *testing.T) {
	for _, s := range []string{
		"",
		"\x00",
		"\x01",
		"\x02",
		"\x03",
		"\x04",
		"\x00" + "\x01\x02\x20\x41" + "\x01\x01v", // of no kind
		"\x04" + "\x01\x02\x20\x41" + "\x01\x01v",
		"\x81" + "\x01\x02\x20\x41" + "\x01\x01v",
		"\xff" + "\x01\x02\x20\x41" + "\x01\x01v",
		"\x01\x01" + "\x01\x02\x20\x41" + "\x01\x01v", // the kind as a number
	} {
		wantNoBytes(t, s)
	}
}

func TestDecodeOfOtherLeaves(t *testing.T) {
	a := strings.Repeat("a", 32)
	for _, s := range []string{
		"\x01" + "\x01\x02\x00\x41" + "\x01\x01v", // a leaf with an extension's path
		"\x01" + "\x01\x01\x15" + "\x01\x01v",
		"\x01" + "\x01\x01\x00" + "\x01\x01v",
		"\x01" + "\x01\x02\x24\x41" + "\x01\x01v", // an even path with a half byte in its first byte
		"\x01" + "\x01\x02\x40\x41" + "\x01\x01v", // no packed path
		"\x01" + "\x01\x02\xa0\x41" + "\x01\x01v",
		"\x01" + "\x00" + "\x01\x01v",
		"\x01" + "\x20\x41" + "\x01\x01v",             // the path is no text
		"\x01" + "\x01\x02\x04\x01" + "\x01\x01v",     // not packed
		"\x01" + "\x02\x00\x02\x20\x41" + "\x01\x01v", // 2 in two bytes
		"\x01" + "\x01\x02\x20\x41" + "\x02\x00\x01v", // 1 in two
		"\x01" + "\x01\x02\x20\x41" + "\x00",          // no value
		"\x01" + "\x01\x02\x20\x41" + "\x01\x00",      // the same, in a byte
		"\x01" + "\x01\x02\x20\x41" + "v",
		"\x01" + "\x01\x02\x20\x41" + "\x01\x02v",
		"\x01" + "\x01\x02\x20\x41" + "\x01\x01vv",
		"\x01" + "\x01\x02\x20\x41" + "\x01\x01v" + "\x00",
		"\x01" + "\x01\x0a\x20" + strings.Repeat("\x11", 9) + "\x01\x01v", // 18 half bytes
		"\x01" + "\x01\x09\x31" + strings.Repeat("\x11", 8) + "\x01\x01v", // 17
		"\x01" + "\x08\x7f\xff\xff\xff\xff\xff\xff\xff\x20\x41" + "\x01\x01v",
		"\x01" + "\x08\xff\xff\xff\xff\xff\xff\xff\xff\x20\x41" + "\x01\x01v",
		"\x01" + "\x05\x01\x00\x00\x00\x02\x20\x41" + "\x01\x01v", // 2, if only 32 bits are looked at
		"\x01" + "\x09\x20\x41" + "\x01\x01v",
		"\x01" + "\xff\x20\x41" + "\x01\x01v",
		"\x01" + "\x01\xff" + strings.Repeat("\x20", 256),
		"\x01" + "\x01\xff\x20" + strings.Repeat("\x11", 254) + "\x01\x01v",
		"\x01" + "\x01\x02\x20\x41" + "\x01\x21" + a + "v",
		"\x01" + "\x01\x02\x20\x41" + "\x08\x7f\xff\xff\xff\xff\xff\xff\xffv",
	} {
		wantNoBytes(t, s)
	}
}

func TestDecodeOfOtherExtensions(t *testing.T) {
	a := strings.Repeat("a", 32)
	for _, s := range []string{
		"\x02" + "\x01\x01\x35" + a, // an extension with a leaf's path
		"\x02" + "\x01\x02\x20\x41" + a,
		"\x02" + "\x01\x01\x20" + a,
		"\x02" + "\x01\x02\x05\x41" + a,
		"\x02" + "\x01\x02\x95\x41" + a,
		"\x02" + "\x00" + a,
		"\x02" + "\x01\x0a\x00" + strings.Repeat("\x11", 9) + a,
		"\x02" + "\x01\x09\x11" + strings.Repeat("\x11", 8) + a,
		"\x02" + "\x01\x01\x15",
		"\x02" + "\x01\x01\x15" + a[:31],
		"\x02" + "\x01\x01\x15" + a + "a",
		"\x02" + "\x01\x01\x15" + a + "\x00",     // an empty value behind
		"\x02" + "\x01\x01\x15" + "\x01\x20" + a, // the kid as a text
		"\x02" + "\x01\x01\x15" + "\x80\x00" + a, // and as a branch's
		"\x02" + "\x01\x01\x00" + a,              // no half byte
	} {
		wantNoBytes(t, s)
	}
}

func TestDecodeOfOtherBranches(t *testing.T) {
	a, b := strings.Repeat("a", 32), strings.Repeat("b", 32)
	for _, s := range []string{
		"\x03" + "\x80\x40" + a + b,                // no value at all
		"\x03" + "\x80\x40" + a + b[:31] + "\x00",  // 31 bytes
		"\x03" + "\x80\x40" + a + b + "b" + "\x00", // 33
		"\x03" + "\x80\x40" + a + "\x00",           // one kid less than it says
		"\x03" + "\x80\x00" + a + b + "\x00",       // one more
		"\x03" + "\x80\x00" + a + "\x00",           // one of Kids and Value
		"\x03" + "\x00\x00" + "\x01\x01v",          // likewise
		"\x03" + "\x00\x00" + "\x00",               // none
		"\x03" + "\x80\x40" + a + b + "\x01\x00",   // no value, in a byte
		"\x03" + "\x80\x40" + a + b + "\x02\x00\x01v",
		"\x03" + "\x80\x40" + a + b + "\x01\x21" + a + "v",
		"\x03" + "\x80" + a + b + "\x00",
		"\x03" + "\xc0" + a + b + "\x00",
		"\x03" + "\x00\x80\x40" + a + b + "\x00",
		"\x03" + "\x02\x80\x40" + a + b + "\x00", // the bits as a number
	} {
		wantNoBytes(t, s)
	}
}

// TestDecodeOfEveryShortBytes holds Decode to its words over all bytes of up to 8 of a few kinds.
func TestDecodeOfEveryShortBytes(t *testing.T) {
	const some = "\x00\x01\x02\x20\x3f"
	found := 0
	for size, texts := 0, 1; size <= 8; size, texts = size+1, texts*len(some) {
		for text := range texts {
			b := make([]byte, 0, 8)
			for rest := text; len(b) < size; rest /= len(some) {
				b = append(b, some[rest%len(some)])
			}
			wantDecoded(t, string(b))
			if _, ok := plainDecode(string(b)); ok {
				found++
			}
		}
	}
	// Leaves alone: of no half byte or one, with a value of 1 byte or 2; of two or three half bytes, with one of 1 byte.
	if want := 2*5 + 2*5*5 + 2*5*5; found != want {
		t.Errorf("%d nodes among them, want %d", found, want)
	}
}

// unlike is nodes that may be, each unlike n in one field alone, and more unlike ones.
func unlike(n api.Node) []api.Node {
	var l []api.Node
	add := func(m api.Node) {
		if m != n && plainMay(m) {
			l = append(l, m)
		}
	}
	for kind := range 5 {
		m := n
		m.Kind = kind
		add(m)
	}
	for _, path := range append(pathsThatMayBe(), n.Path+"\x00", n.Path+"\x01", "\x00"+n.Path, "\x01"+n.Path) {
		m := n
		m.Path = path
		add(m)
	}
	for _, value := range append(valuesThatMayBe(), "", n.Value+"\x00", n.Value+"v", "v"+n.Value) {
		m := n
		m.Value = value
		add(m)
	}
	for i := range 16 {
		for _, kid := range []string{"", sumOf(i), sumOf(i + 1), "\xff" + sumOf(i)[1:], sumOf(i)[:31] + "\x01"} {
			add(withKid(n, i, kid))
		}
		m := n
		m.Kids[i], m.Kids[(i+1)%16] = m.Kids[(i+1)%16], m.Kids[i]
		add(m)
	}
	return l
}

// TestOneFieldIsUnlike holds nodes that are the same but for one field to having unlike bytes and sums.
func TestOneFieldIsUnlike(t *testing.T) {
	for _, n := range nodesThatMayBe() {
		s, _ := Encode(n)
		sum, more := Digest(n), unlike(n)
		if len(more) < 10 {
			t.Errorf("%#v has %d unlike ones", n, len(more))
		}
		for _, m := range more {
			wantNode(t, m)
			if b, e := Encode(m); b == s || e != api.OK || Digest(m) == sum {
				t.Errorf("%#v and %#v have the bytes %#v and %#v", n, m, s, b)
			}
		}
	}
}

// TestBytesTellNodesApart holds all nodes at hand against each other: the same bytes, and sums, just if they are the same.
func TestBytesTellNodesApart(t *testing.T) {
	byBytes, bySum, count := map[string]api.Node{}, map[string]api.Node{}, map[api.Node]int{}
	for _, n := range nodesThatMayBe() {
		for _, m := range append(unlike(n), n) {
			s, _ := Encode(m)
			for _, was := range []api.Node{byBytes[s], bySum[Digest(m)]} {
				if was != m && was.Kind != 0 {
					t.Errorf("%#v and %#v have the bytes %#v", m, was, s)
				}
			}
			byBytes[s], bySum[Digest(m)] = m, m
			count[m]++
		}
	}
	if len(count) != len(byBytes) || len(count) != len(bySum) {
		t.Errorf("%d nodes, %d bytes, %d sums", len(count), len(byBytes), len(bySum))
	}
}

func TestTheSameIsTold(t *testing.T) {
	for _, n := range append(nodesThatMayBe(), nodesThatMayNotBe()...) {
		was := n
		for range 2 {
			wantLooked(t, n)
		}
		if n != was {
			t.Errorf("%#v was %#v", n, was)
		}
	}
}

func TestKidsOfNodesThatMayNotBe(t *testing.T) {
	n := api.Node{Kind: -7, Path: "\xff", Value: strings.Repeat("v", 99)}
	n.Kids[0], n.Kids[3], n.Kids[15] = "\xff", strings.Repeat("k", 99), "k"
	if l := Kids(n); !slices.Equal(l, []string{"\xff", n.Kids[3], "k"}) {
		t.Errorf("Kids(%#v) = %#v", n, l)
	}
	if l := Kids(api.Node{}); len(l) != 0 {
		t.Errorf("Kids of nothing = %q", l)
	}
}

// TestKidsAreNewLists changes lists that were handed out, their spare room too.
func TestKidsAreNewLists(t *testing.T) {
	for _, n := range nodesThatMayBe() {
		was := n
		one, two := Kids(n), Kids(n)
		want := slices.Clone(two)
		full := one[:cap(one)]
		for i := range full {
			full[i] = "!"
		}
		_ = append(one, "!")
		if n != was || !slices.Equal(two, want) {
			t.Errorf("%#v was %#v, another answer is %#v, was %#v", n, was, two, want)
		}
		wantNode(t, n)
	}
}

// TestTextsAreNotShared changes the bytes on which texts that were handed in lie: nothing else could tell.
func TestTextsAreNotShared(t *testing.T) {
	for _, n := range nodesThatMayBe() {
		s := plainBytes(n)
		lie := []byte(s + n.Path + n.Value + strings.Join(n.Kids[:], ""))
		at := 0
		next := func(size int) string {
			at += size
			return unsafe.String(unsafe.SliceData(lie[at-size:]), size)
		}
		text := next(len(s))
		m := api.Node{Kind: n.Kind, Path: next(len(n.Path)), Value: next(len(n.Value))}
		for i, k := range n.Kids {
			m.Kids[i] = next(len(k))
		}
		if m != n {
			t.Fatalf("%#v is laid as %#v", n, m)
		}
		want := slices.DeleteFunc(slices.Clone(n.Kids[:]), func(k string) bool { return k == "" })
		decoded, e := Decode(text)
		encoded, f := Encode(m)
		sum, kids := Digest(m), Kids(m)
		for i := range lie {
			lie[i] = '!'
		}
		if decoded != n || e != api.OK || encoded != s || f != api.OK || sum != plainDigest(n) || !slices.Equal(kids, want) {
			t.Errorf("Decode: %#v, %d, Encode: %#v, %d, Digest: %#v, Kids: %#v", decoded, e, encoded, f, sum, kids)
		}
	}
}

// TestTextsOfAnswersStandAlone looks at where the texts of answers lie.
func TestTextsOfAnswersStandAlone(t *testing.T) {
	for _, n := range nodesThatMayBe() {
		s := plainBytes(n)
		texts := append([]string{s, n.Path, n.Value}, n.Kids[:]...)
		for range 2 {
			m, _ := Decode(s)
			b, _ := Encode(n)
			texts = append(append(append(texts, m.Path, m.Value, b, Digest(n)), m.Kids[:]...), Kids(n)...)
		}
		ends := map[uintptr]int{}
		for i, a := range texts {
			if len(a) < 2 { // texts of one byte may lie where all of them do
				continue
			}
			p := uintptr(unsafe.Pointer(unsafe.StringData(a)))
			if j, ok := ends[p]; ok {
				if i >= 19 { // what was handed in may lie anywhere
					t.Errorf("%#v: the text %d lies where %d does", n, i, j)
				}
			}
			ends[p] = i
		}
	}
}

// nodeOf is any node out of a few numbers and texts.
func nodeOf(kind int, path, value, kids string, bits uint16) api.Node {
	n := api.Node{Kind: kind, Path: path, Value: value}
	for i := range n.Kids {
		if bits<<i&(1<<15) != 0 {
			size := min(32+int(bits>>12)*(int(bits)&1), len(kids))
			n.Kids[i], kids = kids[:size], kids[size:]
		}
	}
	return n
}

// FuzzDecode holds Decode to its words at any bytes.
func FuzzDecode(f *testing.F) {
	f.Add("")
	for _, n := range append(nodesThatMayBe(), nodesThatMayNotBe()[:40]...) {
		f.Add(plainBytes(n))
	}
	f.Fuzz(func(t *testing.T, s string) {
		wantDecoded(t, s)
		for kind := range 4 {
			wantDecoded(t, string([]byte{byte(kind)})+s)
		}
	})
}

// FuzzNode holds all calls to their words at any node.
func FuzzNode(f *testing.F) {
	for _, n := range append(nodesThatMayBe(), nodesThatMayNotBe()...) {
		bits := uint16(0)
		for i, k := range n.Kids {
			if k != "" {
				bits |= 1 << 15 >> i
			}
		}
		f.Add(n.Kind, n.Path, n.Value, strings.Join(n.Kids[:], ""), bits)
	}
	f.Fuzz(func(t *testing.T, kind int, path, value, kids string, bits uint16) {
		for _, k := range []int{kind, leafKind, extKind, branchKind} {
			wantLooked(t, nodeOf(k, path, value, kids, bits))
			wantLooked(t, nodeOf(k, path, value, "", 0))
			wantLooked(t, nodeOf(k, path, "", kids, 1<<15))
			wantLooked(t, nodeOf(k, "", value, kids, bits))
		}
	})
}
