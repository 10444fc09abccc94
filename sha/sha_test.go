package sha

import (
	"crypto/sha256"
	"encoding"
	"encoding/binary"
	"encoding/hex"
	"strings"
	"testing"
)

// edges is the lengths where the bytes behind a text just fit into a block or ask for one more, and what lies beside them.
func edges() []int {
	return []int{0, 1, 2, 3, 54, 55, 56, 57, 62, 63, 64, 65, 66, 118, 119, 120, 121, 127, 128, 129, 182, 183, 184, 191, 192, 193, 1000}
}

// text is n bytes, no two neighbours and no two blocks of them alike.
func text(n int) string {
	b := make([]byte, n)
	for i := range b {
		b[i] = byte(i*37 + i/64*11 + 5)
	}
	return string(b)
}

// library is the sum as Go's own library tells it.
func library(s string) string {
	sum := sha256.Sum256([]byte(s))
	return string(sum[:])
}

// hexOf is the text's bytes, each as two digits.
func hexOf(s string) string {
	return hex.EncodeToString([]byte(s))
}

// libraryBlock is Block as Go's own library tells it: by the state that it keeps a hash in (4 bytes of its own, the words, the open block, the count).
func libraryBlock(t *testing.T, h [8]uint32, b [64]byte) [8]uint32 {
	t.Helper()
	d := sha256.New()
	state, err := d.(encoding.BinaryMarshaler).MarshalBinary()
	if err != nil || len(state) != 4+32+64+8 {
		t.Fatalf("the library's state: %d bytes, %v", len(state), err)
	}
	for i, w := range h {
		binary.BigEndian.PutUint32(state[4+4*i:], w)
	}
	if err := d.(encoding.BinaryUnmarshaler).UnmarshalBinary(state); err != nil {
		t.Fatal(err)
	}
	d.Write(b[:])
	if state, err = d.(encoding.BinaryMarshaler).MarshalBinary(); err != nil {
		t.Fatal(err)
	}
	for i := range h {
		h[i] = binary.BigEndian.Uint32(state[4+4*i:])
	}
	return h
}

// same is a list of words that are all w.
func same(w uint32) [8]uint32 {
	return [8]uint32{w, w, w, w, w, w, w, w}
}

// blockOf is the first 64 bytes of s.
func blockOf(s string) [64]byte {
	return [64]byte([]byte(s))
}

// wantPieces holds a hash that is written the pieces to the sum of the whole.
func wantPieces(t *testing.T, pieces ...string) {
	t.Helper()
	h := New()
	for _, p := range pieces {
		h.Write(p)
	}
	if whole := strings.Join(pieces, ""); h.Sum() != library(whole) {
		t.Fatalf("%d pieces of %d bytes: %s, want %s", len(pieces), len(whole), hexOf(h.Sum()), hexOf(library(whole)))
	}
}

func TestFirst(t *testing.T) {
	want := [8]uint32{0x6a09e667, 0xbb67ae85, 0x3c6ef372, 0xa54ff53a, 0x510e527f, 0x9b05688c, 0x1f83d9ab, 0x5be0cd19}
	for range 2 {
		got := First()
		if got != want {
			t.Errorf("First() = %x", got)
		}
		got[0] = 0
	}
}

// padded is a block of a short text, with the bytes behind it laid by hand.
func padded(s string) [64]byte {
	var b [64]byte
	b[copy(b[:], s)] = 128
	b[63] = byte(8 * len(s))
	return b
}

func TestBlockByHand(t *testing.T) {
	for _, c := range []struct {
		s    string
		want [8]uint32
	}{
		{"abc", [8]uint32{0xba7816bf, 0x8f01cfea, 0x414140de, 0x5dae2223, 0xb00361a3, 0x96177a9c, 0xb410ff61, 0xf20015ad}},
		{"", [8]uint32{0xe3b0c442, 0x98fc1c14, 0x9afbf4c8, 0x996fb924, 0x27ae41e4, 0x649b934c, 0xa495991b, 0x7852b855}},
	} {
		if got := Block(First(), padded(c.s)); got != c.want {
			t.Errorf("Block of %q = %x, want %x", c.s, got, c.want)
		}
	}
}

func TestBlock(t *testing.T) {
	words := [][8]uint32{
		First(), same(0), same(1<<32 - 1), same(1), same(1 << 31), same(1<<31 - 1), same(0x55555555),
		{0, 1<<32 - 1, 0, 1<<32 - 1, 0, 1<<32 - 1, 0, 1<<32 - 1},
	}
	for i := range 8 { // each word tells on its own
		for _, w := range []uint32{1, 1 << 31, 1<<32 - 1} {
			var h [8]uint32
			h[i] = w
			words = append(words, h)
		}
	}
	blocks := [][64]byte{{}, blockOf(strings.Repeat("\xff", 64)), blockOf(text(64)), blockOf(text(128)[64:]), padded("abc"), padded("")}
	for i := range 64 { // each byte, too
		var b [64]byte
		b[i] = 1
		blocks = append(blocks, b)
		b[i] = 255
		blocks = append(blocks, b)
	}
	for _, h := range words {
		for _, b := range blocks {
			hWas, bWas := h, b
			got := Block(h, b)
			if want := libraryBlock(t, h, b); got != want {
				t.Errorf("Block(%x, %x) = %x, want %x", h, b, got, want)
			}
			if h != hWas || b != bWas || Block(h, b) != got {
				t.Errorf("Block(%x, %x) does not tell the same again", h, b)
			}
		}
	}
}

func TestSumsWrittenDown(t *testing.T) {
	for _, c := range []struct{ s, want string }{
		{"", "e3b0c44298fc1c149afbf4c8996fb92427ae41e4649b934ca495991b7852b855"},
		{"abc", "ba7816bf8f01cfea414140de5dae2223b00361a396177a9cb410ff61f20015ad"},
		{"a", "ca978112ca1bbdcafac231b39a23dc4da786eff8147c4e72b9807785afee48bb"},
		{"abcdbcdecdefdefgefghfghighijhijkijkljklmklmnlmnomnopnopq", "248d6a61d20638b8e5c026930c3e6039a33ce45964ff2167f6ecedd419db06c1"},
		{"abcdefghbcdefghicdefghijdefghijkefghijklfghijklmghijklmnhijklmnoijklmnopjklmnopqklmnopqrlmnopqrsmnopqrstnopqrstu", "cf5b16a778af8380036ce59e7b0492370b249b11e8f07a51afac45037afee9d1"},
		{strings.Repeat("\x00", 64), "f5a5fd42d16a20302798ef6ed309979b43003d2320d9f0e8ea9831a92759fb4b"},
		{strings.Repeat("a", 1000000), "cdc76e5c9914fb9281a1c7e284d73e67f1809a48a497200e046d39ccc7112cd0"},
	} {
		if got := hexOf(Sum(c.s)); got != c.want {
			t.Errorf("Sum of %d bytes = %s, want %s", len(c.s), got, c.want)
		}
		h := New()
		h.Write(c.s)
		if got := hexOf(h.Sum()); got != c.want {
			t.Errorf("a hash of %d bytes: %s, want %s", len(c.s), got, c.want)
		}
	}
}

func TestSumOfEachLength(t *testing.T) {
	lengths := append(edges(), 1<<16-1, 1<<16, 1<<16+1, 1<<20)
	for n := range 400 {
		lengths = append(lengths, n)
	}
	for _, n := range lengths {
		for _, s := range []string{text(n), strings.Repeat("\x00", n), strings.Repeat("\xff", n), strings.Repeat("\x80", n)} {
			got := Sum(s)
			if len(got) != 32 || got != library(s) {
				t.Errorf("Sum of %d bytes = %s, want %s", n, hexOf(got), hexOf(library(s)))
			}
		}
	}
}

func TestSumOfEachByte(t *testing.T) {
	for b := range 256 {
		one := string([]byte{byte(b)})
		for _, s := range []string{one, one + one, one + "\x00", "\x00" + one, text(63) + one, text(64) + one} {
			if got := Sum(s); got != library(s) {
				t.Errorf("Sum(%q) = %s, want %s", s, hexOf(got), hexOf(library(s)))
			}
		}
	}
}

// TestTail: texts of 2^32 bits and more are too long to sum in every run, so that the bytes behind them are asked alone.
func TestTail(t *testing.T) {
	for _, count := range []uint64{0, 1, 55, 56, 63, 64, 119, 120, 128, 1<<29 - 1, 1 << 29, 1<<29 + 56, 1<<31 - 1} {
		got := tail(count)
		if whole := count + uint64(len(got)); whole%64 != 0 || len(got) < 9 || len(got) > 72 {
			t.Fatalf("tail(%d): %d bytes", count, len(got))
		}
		want := append([]byte{128}, make([]byte, len(got)-9)...)
		want = binary.BigEndian.AppendUint64(want, 8*count)
		if got != string(want) {
			t.Errorf("tail(%d) = %x, want %x", count, got, want)
		}
	}
}

func TestHashWrittenNothing(t *testing.T) {
	h := New()
	for range 3 {
		if h.Sum() != library("") {
			t.Errorf("of nothing: %s", hexOf(h.Sum()))
		}
		h.Write("")
	}
}

func TestHashAskedTwiceAndWrittenOn(t *testing.T) {
	for _, n := range edges() {
		for _, more := range []string{"", "x", text(8), text(55), text(64), text(130)} {
			s := text(n)
			h := New()
			h.Write(s)
			for range 3 {
				if h.Sum() != library(s) {
					t.Fatalf("%d bytes, asked again: %s, want %s", n, hexOf(h.Sum()), hexOf(library(s)))
				}
			}
			h.Write(more)
			if h.Sum() != library(s+more) {
				t.Fatalf("%d bytes, asked, then %d more: %s, want %s", n, len(more), hexOf(h.Sum()), hexOf(library(s+more)))
			}
		}
	}
}

func TestHashAskedBehindEachByte(t *testing.T) {
	s := text(300)
	h := New()
	for i := range len(s) {
		if h.Sum() != library(s[:i]) {
			t.Fatalf("behind %d bytes: %s, want %s", i, hexOf(h.Sum()), hexOf(library(s[:i])))
		}
		h.Write(s[i : i+1])
	}
	if h.Sum() != library(s) {
		t.Errorf("behind all: %s", hexOf(h.Sum()))
	}
}

func TestHashesStandAlone(t *testing.T) {
	a, b := New(), New()
	a.Write("left")
	b.Write(text(70))
	Sum(text(100))
	a.Write(" and right")
	b.Write("!")
	if a.Sum() != library("left and right") || b.Sum() != library(text(70)+"!") {
		t.Errorf("two hashes: %s, %s", hexOf(a.Sum()), hexOf(b.Sum()))
	}
	if New().Sum() != library("") || First() != New().words {
		t.Error("a new hash behind others is not of nothing")
	}
}

func TestCutInTwo(t *testing.T) {
	for _, n := range edges() {
		s := text(n)
		for i := range n + 1 {
			wantPieces(t, s[:i], s[i:])
		}
	}
}

func TestCutInThree(t *testing.T) {
	s := text(193)
	for i := range len(s) + 1 {
		for j := i; j <= len(s); j++ {
			wantPieces(t, s[:i], s[i:j], s[j:])
		}
	}
}

func TestCutInPiecesOfOneSize(t *testing.T) {
	for _, n := range edges() {
		for size := 1; size <= 130; size++ {
			var pieces []string
			for s := text(n); s != ""; {
				cut := min(size, len(s))
				pieces = append(pieces, s[:cut], "")
				s = s[cut:]
			}
			wantPieces(t, append([]string{"", ""}, pieces...)...)
		}
	}
}

func TestCutInEveryWay(t *testing.T) {
	behind := text(60)
	for ways := range 1 << 9 { // a bit a gap: the gaps around the end of the first block
		pieces := []string{behind}
		for i := range 10 {
			c := string([]byte{byte(200 + i)})
			if i > 0 && ways>>(i-1)&1 == 0 {
				pieces[len(pieces)-1] += c
			} else {
				pieces = append(pieces, c)
			}
		}
		wantPieces(t, pieces...)
	}
}

// FuzzSum holds every call to 3.1 to 3.3 at any text, cut anywhere.
func FuzzSum(f *testing.F) {
	for _, n := range edges() {
		f.Add(text(n), n/2, n/3)
	}
	f.Add("abc", 1, 2)
	f.Add("", 0, 0)
	f.Fuzz(func(t *testing.T, s string, i, j int) {
		i, j = max(0, min(i, len(s))), max(0, min(j, len(s)))
		i, j = min(i, j), max(i, j)
		if Sum(s) != library(s) {
			t.Errorf("Sum(%q) = %s", s, hexOf(Sum(s)))
		}
		wantPieces(t, s[:i], "", s[i:j], s[j:])
		h := New()
		h.Write(s[:i])
		if h.Sum() != library(s[:i]) {
			t.Errorf("of %q: %s", s[:i], hexOf(h.Sum()))
		}
		h.Write(s[i:])
		if h.Sum() != library(s) {
			t.Errorf("of %q, asked behind %d bytes: %s", s, i, hexOf(h.Sum()))
		}
	})
}
