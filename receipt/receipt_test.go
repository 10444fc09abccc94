package receipt

import (
	"encoding/hex"
	"math"
	"math/rand"
	"slices"
	"strconv"
	"strings"
	"testing"
	"unsafe"

	"pharos/api"
	"pharos/trie"
)

// of is a receipt.
func of(code api.Code, from string, seq int) api.Receipt {
	return api.Receipt{Code: code, From: from, Seq: seq}
}

// few is a receipt for each place that a list has, all of them unlike.
func few() []api.Receipt {
	return []api.Receipt{of(0, "a", 3), of(161, "b", 0), of(0, "a", 4), of(1000, "abcdef", most), of(160, "root", 300), of(1, "\x00", 1), of(999, "\xff\xff", most-1), of(5, "c", 255)}
}

// listsOf is a list of each number of receipts that may be.
func listsOf() [][]api.Receipt {
	var l [][]api.Receipt
	for n := range 9 {
		l = append(l, few()[:n:n])
	}
	return l
}

// codes is numbers that may be a Code, wrongCodes others.
func codes() []api.Code {
	return []api.Code{0, 1, 6, 20, 127, 128, 160, 161, 162, 255, 256, 257, 400, 511, 512, 999, 1000}
}

func wrongCodes() []api.Code {
	return []api.Code{-1, -2, -256, -1000, 1001, 1002, 1023, 1024, 65536, 1 << 32, 1<<32 + 1, 256 * 256 * 256, math.MaxInt, math.MinInt, math.MinInt + 1}
}

// names is texts that may be a From, wrongNames others.
func names() []string {
	return []string{"a", "b", "ab", "abcde", "abcdef", "root", "\x00", "\x01", "\x00\x00\x00\x00\x00\x00", "\xff\xff\xff\xff\xff\xff", "\u00e9\u00e9\u00e9", " "}
}

func wrongNames() []string {
	return []string{"", "abcdefg", "abcdefgh", "\u00e9\u00e9\u00e9\u00e9", "\x00\x00\x00\x00\x00\x00\x00", strings.Repeat("a", 256), strings.Repeat("a", 256+1), strings.Repeat("a", 1<<16), strings.Repeat("a", 1<<16+1)}
}

// seqs is numbers that may be a Seq, wrongSeqs others.
func seqs() []int {
	return []int{0, 1, 2, 127, 128, 255, 256, 300, 65535, 65536, 1<<24 - 1, 1 << 24, 1<<32 - 1, 1 << 32, most - 1, most}
}

func wrongSeqs() []int {
	return []int{-1, -2, -256, -most, most + 1, most + 2, 2 * most, 1<<48 + 1, 1<<62 + 1, math.MaxInt, math.MinInt, math.MinInt + 1}
}

// places is places that a key can tell, of which lists have the first eight at most; wrongPlaces is others.
func places() []int {
	return []int{0, 1, 2, 3, 4, 5, 6, 7, 8, 9, 10, 15, 16, 17, 31, 32, 127, 128, 129, 240, 254, 255}
}

func wrongPlaces() []int {
	return []int{-1, -2, -8, -255, -256, -257, 256, 257, 258, 263, 511, 512, 65536, 1 << 32, 1<<32 + 1, math.MaxInt, math.MinInt, math.MinInt + 1}
}

func TestNumbersAreThoseGiven(t *testing.T) {
	if api.MaxName != 6 || api.MaxAmount != most || api.MaxTxs != 8 || api.MaxValue != 32 || api.MaxKey < 1 || api.TNode != 1 {
		t.Error("the limits, or the tag, of these tests are others")
	}
	if api.OK != 0 || api.ErrRange != 1 || api.ErrLong != 2 || api.ErrForm != 3 || api.ErrProof != 130 {
		t.Error("the errors of these tests are others")
	}
	if s, e := Encode(of(1000, "abcdef", most)); len(s) != 18 || e != api.OK {
		t.Errorf("the longest bytes are %q, %d", s, e)
	}
}

// TestExample is the chapter's.
func TestExample(t *testing.T) {
	x := of(api.OK, "a", 3)
	if s, e := Encode(x); s != "\x00"+"\x01\x01a"+"\x01\x03" || e != api.OK {
		t.Errorf("Encode(%#v) = %q, %d", x, s, e)
	}
	wantMay(t, x)
}

func TestBytesWrittenDown(t *testing.T) {
	for _, c := range []struct {
		x     api.Receipt
		bytes string
	}{
		{of(0, "a", 0), "\x00" + "\x01\x01a" + "\x00"},
		{of(1, "b", 1), "\x01\x01" + "\x01\x01b" + "\x01\x01"},
		{of(161, "b", 0), "\x01\xa1" + "\x01\x01b" + "\x00"},
		{of(255, "\x00", 255), "\x01\xff" + "\x01\x01\x00" + "\x01\xff"},
		{of(256, "root", 256), "\x02\x01\x00" + "\x01\x04root" + "\x02\x01\x00"},
		{of(400, "ab", 300), "\x02\x01\x90" + "\x01\x02ab" + "\x02\x01\x2c"},
		{of(999, "\xff\x00", most-1), "\x02\x03\xe7" + "\x01\x02\xff\x00" + "\x05\xff\xff\xff\xff\xff"},
		{of(1000, "abcdef", most), "\x02\x03\xe8" + "\x01\x06abcdef" + "\x06\x01\x00\x00\x00\x00\x00"},
	} {
		if s, e := Encode(c.x); s != c.bytes || e != api.OK {
			t.Errorf("Encode(%#v) = %q, %d, want %q", c.x, s, e, c.bytes)
		}
		if x, e := Decode(c.bytes); x != c.x || e != api.OK {
			t.Errorf("Decode(%q) = %#v, %d, want %#v", c.bytes, x, e, c.x)
		}
		wantMay(t, c.x)
	}
}

// TestEveryChoiceOfFields has all choices of what may be, and what may not be, for each field.
func TestEveryChoiceOfFields(t *testing.T) {
	found := 0
	for i, code := range append(codes(), wrongCodes()...) {
		for j, from := range append(names(), wrongNames()...) {
			if len(from) > 300 && i%8 > 0 {
				continue // long ones are slow to tell
			}
			for k, seq := range append(seqs(), wrongSeqs()...) {
				if i < len(codes()) && j < len(names()) && k < len(seqs()) {
					wantMay(t, of(code, from, seq))
					found++
				} else {
					wantNot(t, of(code, from, seq))
				}
			}
		}
	}
	if want := 17 * 12 * 16; found != want {
		t.Errorf("%d may be, want %d", found, want)
	}
}

// TestEveryCode has each number about those that a Code may be, and each number of bytes that a From may have.
func TestEveryCode(t *testing.T) {
	for code := api.Code(-300); code < 1400; code++ {
		if x := of(code, "a", 0); code >= 0 && code <= 1000 {
			wantMay(t, x)
		} else {
			wantNot(t, x)
		}
	}
	for n := range 600 {
		if x := of(0, strings.Repeat("n", n), 0); n >= 1 && n <= 6 {
			wantMay(t, x)
		} else {
			wantNot(t, x)
		}
	}
}

func TestDecodeOfBytesCutOrGrown(t *testing.T) {
	for _, x := range append(few(), of(0, "a", 0), of(256, "ab", 65536)) {
		s := plainBytes(x)
		for n := range len(s) {
			wantNoBytes(t, s[:n])
			wantDecoded(t, s[n+1:])
		}
		for b := range 256 {
			wantNoBytes(t, s+string([]byte{byte(b)}))
			wantDecoded(t, string([]byte{byte(b)})+s)
		}
		wantNoBytes(t, s+s)
		wantNoBytes(t, plainText(s))
	}
}

// TestDecodeOfOneByteChanged holds Decode, and Encode of what it answers, to the words where one byte of a receipt's is another one.
func TestDecodeOfOneByteChanged(t *testing.T) {
	for _, x := range append(few(), of(256, "ab", 65536)) {
		b := []byte(plainBytes(x))
		for i, was := range b {
			for v := range 256 {
				b[i] = byte(v)
				if y, e := Decode(string(b)); wantDecoded(t, string(b)) && (e != api.OK || (x == y) != (byte(v) == was)) {
					t.Errorf("Decode(%q) = %#v, %d, of the bytes of %#v", b, y, e, x)
				}
			}
			b[i] = was
		}
		wantMay(t, x)
	}
}

func TestDecodeOfOtherBytes(t *testing.T) {
	for _, s := range []string{
		"",
		"\x00", "\x01", "\x02", "\x08", "\x09", "\xff",
		"\x00\x00\x00", // a From of no byte
		"\x00\x01\x01a",
		"\x00\x01\x01a\x00\x00",
		"\x00\x01\x01a\x01\x03x",
		"\x01\x00\x01\x01a\x01\x03", // 0 in a byte
		"\x00\x01\x01a\x01\x00",
		"\x00\x01\x00\x01\x03",
		"\x02\x00\x01\x01\x01a\x01\x03", // 1 in two
		"\x00\x02\x00\x01a\x01\x03",
		"\x00\x01\x01a\x02\x00\x03",
		"\x08\x00\x00\x00\x00\x00\x00\x00\x01\x01\x01a\x01\x03", // 1 in eight
		"\x00\x08\x00\x00\x00\x00\x00\x00\x00\x01a\x01\x03",
		"\x00\x01\x01a\x08\x00\x00\x00\x00\x00\x00\x00\x03",
		"\x09\x00\x00\x00\x00\x00\x00\x00\x00\x01\x01\x01a\x00", // a number of nine bytes
		"\x09\x01\x00\x00\x00\x00\x00\x00\x00\x00\x01\x01a\x00",
		"\x00\x09\x01\x00\x00\x00\x00\x00\x00\x00\x01a\x00",
		"\x00\x01\x01a\x09\x01\x00\x00\x00\x00\x00\x00\x00\x00",
		"\x02\x03\xe9\x01\x01a\x00", // a Code of one too many
		"\x02\x04\x00\x01\x01a\x00",
		"\x05\x01\x00\x00\x00\x01\x01\x01a\x00", // 1, if only 32 bits are looked at
		"\x08\x7f\xff\xff\xff\xff\xff\xff\xff\x01\x01a\x00",
		"\x08\x80\x00\x00\x00\x00\x00\x00\x01\x01\x01a\x00", // above 2^63 - 1
		"\x08\xff\xff\xff\xff\xff\xff\xff\xff\x01\x01a\x00",
		"\x00\x01\x07abcdefg\x00", // a From of one byte too many
		"\x00\x02\x01\x01" + strings.Repeat("a", 257) + "\x00",
		"\x00\x03\x01\x00\x00" + strings.Repeat("a", 1<<16) + "\x00",
		"\x00\x05\x01\x00\x00\x00\x01a\x00",
		"\x00\x08\x7f\xff\xff\xff\xff\xff\xff\xffa\x00", // no loop, and no room, for so many
		"\x00\x08\xff\xff\xff\xff\xff\xff\xff\xffa\x00",
		"\x00\x01\x02a\x00",                             // fewer bytes than it says
		"\x00\x01\x02a",                                 //
		"\x00\x01\x01a\x06\x01\x00\x00\x00\x00\x01",     // a Seq of one too many
		"\x00\x01\x01a\x06\x02\x00\x00\x00\x00\x00",     //
		"\x00\x01\x01a\x07\x01\x00\x00\x00\x00\x00\x01", // 1, if only 48 bits are looked at
		"\x00\x01\x01a\x08\x7f\xff\xff\xff\xff\xff\xff\xff",
		"\x00\x01\x01a\x08\x80\x00\x00\x00\x00\x00\x00\x03",
		"\x00\x01\x01a\x08\xff\xff\xff\xff\xff\xff\xff\xff",
		"\x01\x01a\x00\x01\x03", // From ahead of the Code
		"\x01\x03\x01\x01a",
		"\x01\x03\x01\x01a\x00\x00",
		"\x01\x00\x01\x01a\x00\x01\x01b\x01\x05", // a transaction's
		"a", "bad",
		strings.Repeat("\x00", 32), strings.Repeat("\x01", 32), strings.Repeat("a", 1<<16),
	} {
		wantNoBytes(t, s)
		if _, ok := plainDecode(s); ok {
			t.Errorf("by the words %q is a receipt", s)
		}
	}
}

// TestDecodeOfEveryShortBytes holds Decode to the words over all bytes of up to 8 of four kinds, and counts those that are a receipt's.
func TestDecodeOfEveryShortBytes(t *testing.T) {
	bytes, found := "\x00\x01\x02a", 0
	var b [8]byte
	for size, texts := 0, 1; size <= 8; size, texts = size+1, texts*4 {
		for text := range texts {
			for i := range size {
				b[i] = bytes[text>>(2*i)&3]
			}
			if wantDecoded(t, string(b[:size])) {
				found++
			}
		}
	}
	// A number takes 1, 2 or 3 bytes: 1, 3 and 12 of these, but a Code of 3 has 1 or 2 ahead: 8; a text 3, 4: 4, 16.
	codes, texts, seqs := []int{0, 1, 3, 8}, []int{0, 0, 0, 4, 16}, []int{0, 1, 3, 12}
	want := 0
	for i, a := range codes {
		for j, b := range texts {
			for k, c := range seqs {
				if i+j+k <= 8 {
					want += a * b * c
				}
			}
		}
	}
	if found != want {
		t.Errorf("%d receipts among them, want %d", found, want)
	}
}

// TestUnlikeReceiptsHaveUnlikeBytes holds receipts to bytes of their own, none of which begin another one's.
func TestUnlikeReceiptsHaveUnlikeBytes(t *testing.T) {
	var texts []string
	for _, code := range codes() {
		for _, from := range names() {
			for _, seq := range seqs() {
				s, _ := Encode(of(code, from, seq))
				texts = append(texts, s)
			}
		}
	}
	slices.Sort(texts)
	for i := 1; i < len(texts); i++ {
		if strings.HasPrefix(texts[i], texts[i-1]) {
			t.Errorf("%q begins %q", texts[i-1], texts[i])
		}
	}
}

// TestRootsWrittenDown has roots that were worked out by another program.
func TestRootsWrittenDown(t *testing.T) {
	var rising []api.Receipt
	for i := range 8 {
		rising = append(rising, of(api.Code(i), "a", i))
	}
	a, b := of(0, "a", 3), of(161, "b", 0)
	for _, c := range []struct {
		l    []api.Receipt
		root string
	}{
		{nil, ""},
		{[]api.Receipt{}, ""},
		{[]api.Receipt{a}, "42e0d29473f62e0b55714ed31d0468182b3f39cf9aa68a562e54c3c76fa4b656"},
		{[]api.Receipt{a, b}, "36bffb4ae9c19e546324b2cae11c42d9aac4fce2ad22840b122cb929a3a78dd7"},
		{[]api.Receipt{b, a}, "eca65bac5c44d3b32e0976d38122fc699f7eacdb5e5226c5cef34104854a7997"},
		{[]api.Receipt{a, a}, "cef4b70dff04007519b99cbc7997c91eebecd32bc2e8eaf4c8b15638c5c11bd4"},
		{[]api.Receipt{a, b, of(0, "a", 4)}, "977d6ff7ac731ac15be3a5f2439f2c3cefd9c88c0b9fa27180bd017679265180"},
		{slices.Repeat([]api.Receipt{of(1000, "abcdef", most)}, 8), "763c0586d3389d3140b12441d3ba302841c3378c818b967cd9c650cf854a484c"},
		{rising, "5873c8b97231664fffbaa3e236581ea4a582369166168553d2758a49f5b296d9"},
	} {
		if s, e := Root(c.l); hex.EncodeToString([]byte(s)) != c.root || e != api.OK {
			t.Errorf("Root(%#v) = %x, %d, want %s", c.l, s, e, c.root)
		}
		wantList(t, c.l, places()...)
	}
}

// TestNodesWrittenDown has the nodes of two receipts, byte by byte.
func TestNodesWrittenDown(t *testing.T) {
	l := []api.Receipt{of(0, "a", 3), of(161, "b", 0)}
	first, second := "\x01\x01\x01\x20\x01\x06\x00\x01\x01a\x01\x03", "\x01\x01\x01\x20\x01\x06\x01\xa1\x01\x01b\x00"
	fork := "\x03\xc0\x00" + sumOf(first) + sumOf(second) + "\x00"
	top := "\x02\x01\x01\x10" + sumOf(fork)
	for _, c := range []struct {
		l     []api.Receipt
		at    int
		nodes []string
	}{
		{nil, 0, nil},
		{nil, 255, nil},
		{l[:1], 0, []string{"\x01\x01\x02\x20\x00\x01\x06\x00\x01\x01a\x01\x03"}},
		{l[:1], 1, []string{"\x01\x01\x02\x20\x00\x01\x06\x00\x01\x01a\x01\x03"}},
		{l[:1], 255, []string{"\x01\x01\x02\x20\x00\x01\x06\x00\x01\x01a\x01\x03"}},
		{l[1:], 0, []string{"\x01\x01\x02\x20\x00\x01\x06\x01\xa1\x01\x01b\x00"}},
		{l, 0, []string{top, fork, first}},
		{l, 1, []string{top, fork, second}},
		{l, 2, []string{top, fork}},
		{l, 15, []string{top, fork}},
		{l, 16, []string{top}},
		{l, 17, []string{top}},
		{l, 255, []string{top}},
	} {
		if nodes, e := Prove(c.l, c.at); !slices.Equal(nodes, c.nodes) || e != api.OK {
			t.Errorf("Prove(%#v, %d) = %q, %d, want %q", c.l, c.at, nodes, e, c.nodes)
		}
		wantList(t, c.l, c.at)
	}
}

// TestEachPlaceOfEachList asks for all places that a key can tell.
func TestEachPlaceOfEachList(t *testing.T) {
	for n, l := range listsOf() {
		var all []int
		for at := range 256 {
			all = append(all, at)
		}
		wantList(t, l, all...)
		if n > 0 {
			wantList(t, slices.Repeat(few()[n-1:n], n), places()...) // all of them the same
			back := slices.Clone(l)
			slices.Reverse(back)
			wantList(t, back, places()...)
		}
	}
	for i := range few() {
		wantList(t, few()[i:], places()...)
		wantList(t, few()[i:i+1], places()...)
	}
}

// TestListsOfReceiptsAtTheirEdges puts each thing that may be into a list.
func TestListsOfReceiptsAtTheirEdges(t *testing.T) {
	for i, code := range codes() {
		for j, from := range names() {
			for k, seq := range seqs() {
				x := of(code, from, seq)
				wantList(t, []api.Receipt{x}, 0, 1)
				if (i+j+k)%7 == 0 {
					wantList(t, []api.Receipt{of(0, "a", 0), x, of(0, "b", 0)}, 0, 1, 2, 3)
				}
			}
		}
	}
}

// TestTriesAreThoseOfTheWords holds lists to the tries of their items.
func TestTriesAreThoseOfTheWords(t *testing.T) {
	for _, l := range listsOf() {
		var items []api.Item
		for i, x := range l {
			items = append([]api.Item{{Key: string([]byte{byte(i)}), Value: plainBytes(x)}}, items...)
		}
		x := trieOfItems(t, items...)
		if s, e := Root(l); s != x.Root() || e != api.OK {
			t.Errorf("Root(%#v) = %x, %d, want %x", l, s, e, x.Root())
		}
		for _, at := range places() {
			if nodes, e := Prove(l, at); !slices.Equal(nodes, x.Trail(string([]byte{byte(at)}))) || e != api.OK {
				t.Errorf("Prove(%#v, %d) = %q, %d", l, at, nodes, e)
			}
		}
	}
}

// TestUnlikeListsHaveUnlikeRoots counts the roots of all lists of at most three of four receipts.
func TestUnlikeListsHaveUnlikeRoots(t *testing.T) {
	roots := map[string]int{}
	var each func(l []api.Receipt)
	each = func(l []api.Receipt) {
		wantList(t, l, 0, 1, 2, 3)
		s, _ := Root(l)
		roots[s]++
		if len(l) < 3 {
			for _, x := range few()[:4] {
				each(append(slices.Clone(l), x))
			}
		}
	}
	each(nil)
	if want := 1 + 4 + 16 + 64; len(roots) != want {
		t.Errorf("%d roots of %d lists", len(roots), want)
	}
}

func TestListsOfTooMany(t *testing.T) {
	all := append(few(), few()...)
	wantList(t, all[:8], 0, 7, 8)
	for _, n := range []int{9, 10, 15, 16} {
		wantNoList(t, all[:n], api.ErrLong)
	}
	for _, n := range []int{9, 255, 256, 256 + 1, 256 + 8, 1 << 10, 1 << 16} { // with receipts that may not be: the first thing that is wrong
		wantNoList(t, slices.Repeat(few()[:1], n)[:n], api.ErrLong)
		if n < 300 {
			wantNoList(t, make([]api.Receipt, n), api.ErrLong)
			wantNoList(t, append(make([]api.Receipt, n-1), few()[0]), api.ErrLong)
			wantNoList(t, append(slices.Repeat(few()[:1], n-1), api.Receipt{}), api.ErrLong)
		}
	}
}

// wrong is receipts that may not be, with one thing wrong in each, and two, and all.
func wrong() []api.Receipt {
	l := []api.Receipt{{}, of(-1, "", -1), of(1001, "abcdefg", most+1), of(-1, "a", -1), of(0, "", most+1)}
	for _, code := range wrongCodes() {
		l = append(l, of(code, "a", 0))
	}
	for _, from := range wrongNames() {
		l = append(l, of(0, from, 0))
	}
	for _, seq := range wrongSeqs() {
		l = append(l, of(0, "a", seq))
	}
	return l
}

// TestListsWithOneThatMayNotBe puts one at each place of lists of each length.
func TestListsWithOneThatMayNotBe(t *testing.T) {
	for n := 1; n <= 8; n++ {
		wantNoList(t, make([]api.Receipt, n), api.ErrForm)
		for i := range n {
			for _, x := range []api.Receipt{{}, of(-1, "a", 0), of(1001, "a", 0), of(0, "", 0), of(0, "abcdefg", 0), of(0, "a", -1), of(0, "a", most+1)} {
				l := few()[:n]
				l[i] = x
				wantNoList(t, l, api.ErrForm)
			}
		}
	}
	for _, x := range wrong() {
		wantNot(t, x)
		for _, n := range []int{1, 2, 3, 8} {
			for _, i := range []int{0, n / 2, n - 1} {
				l := few()[:n]
				l[i] = x
				wantNoList(t, l, api.ErrForm)
			}
		}
	}
}

// TestWrongPlaces refuses them whatever root and nodes are: nodes that show nothing, and a value that is none, come behind.
func TestWrongPlaces(t *testing.T) {
	odd := trieOfItems(t, api.Item{Key: "\x00", Value: "bad"})
	for _, at := range wrongPlaces() {
		for _, l := range listsOf() {
			for range 2 {
				if nodes, e := Prove(l, at); len(nodes) != 0 || e != api.ErrRange {
					t.Errorf("Prove(%#v, %d) = %q, %d", l, at, nodes, e)
				}
			}
			for _, right := range []int{0, 1, 8, 255} {
				wantRefused(t, rootOf(l), at, 1, way(l, right)...)
			}
			wantRefused(t, rootOf(l), at, 1)
			wantRefused(t, rootOf(l), at, 1, "x")
			wantRefused(t, "x", at, 1, way(l, 0)...)
		}
		wantRefused(t, "", at, 1)
		wantRefused(t, "", at, 1, "")
		wantRefused(t, odd.Root(), at, 1, odd.Nodes()...)
	}
}

// TestNodesOfAnotherPlace verifies what shows one place at each other one: it is refused, or both places have the same nodes.
func TestNodesOfAnotherPlace(t *testing.T) {
	for _, l := range listsOf() {
		for _, at := range places() {
			for _, other := range places() {
				x := api.Receipt{}
				switch {
				case at == other || slices.Equal(way(l, at), way(l, other)):
					if at < len(l) {
						x = l[at]
					}
					wantVerify(t, rootOf(l), at, way(l, other), x, at < len(l), 0)
				default:
					wantRefused(t, rootOf(l), at, 130, way(l, other)...)
				}
			}
		}
	}
	l := []api.Receipt{of(0, "a", 3), of(161, "b", 0), of(0, "a", 3)} // the first one and the last one have the same leaf
	wantVerify(t, rootOf(l), 0, way(l, 2), l[0], true, 0)
	wantVerify(t, rootOf(l), 2, way(l, 0), l[2], true, 0)
	wantRefused(t, rootOf(l), 1, 130, way(l, 0)...)
	wantRefused(t, rootOf(l), 3, 130, way(l, 2)...)
	wantRefused(t, rootOf(l), 0, 130, way(l, 3)...)
	wantVerify(t, rootOf(l[:1]), 1, way(l[:1], 0), api.Receipt{}, false, 0) // of one receipt one node shows all places
}

// TestOnlyItsOwnNodes changes what shows each place, in each way that leaves nothing that shows it.
func TestOnlyItsOwnNodes(t *testing.T) {
	for _, l := range listsOf() {
		root := rootOf(l)
		all := []string{"", "x", "\x00", bare("v"), bare(plainBytes(few()[0])), alone(0, plainBytes(few()[7])), strings.Repeat("\x00", 32)}
		for at := range 17 {
			all = append(all, way(l, at)...)
		}
		for _, at := range places() {
			nodes := way(l, at)
			none := func(l ...string) {
				t.Helper()
				wantRefused(t, root, at, 130, l...)
			}
			for i := range nodes { // one is not there, or there twice; the last ones are not there
				none(slices.Delete(slices.Clone(nodes), i, i+1)...)
				none(slices.Insert(slices.Clone(nodes), i, nodes[i])...)
				none(nodes[:i]...) // the others lie in the spare room
				none(nodes[i+1:]...)
				for j := range i {
					turned := slices.Clone(nodes)
					turned[i], turned[j] = turned[j], turned[i]
					none(turned...)
				}
				for _, text := range []string{nodes[i] + "\x00", nodes[i][1:], nodes[i][:len(nodes[i])-1], nodes[i] + nodes[i], "\x00" + nodes[i]} {
					other := slices.Clone(nodes)
					other[i] = text
					none(other...)
				}
			}
			for _, more := range all {
				for i := range len(nodes) + 1 {
					none(slices.Insert(slices.Clone(nodes), i, more)...)
				}
				for i := range nodes {
					if nodes[i] != more {
						other := slices.Clone(nodes)
						other[i] = more
						none(other...)
					}
				}
			}
			if len(nodes) > 0 {
				none(slices.Concat(nodes, nodes)...)
			}
		}
	}
}

// TestEachBit changes each bit of each node of some lists.
func TestEachBit(t *testing.T) {
	for _, l := range [][]api.Receipt{few()[:1], few()[:2], few()} {
		for _, at := range []int{0, 1, 7, 8, 16} {
			nodes := way(l, at)
			for i, node := range nodes {
				for j := range len(node) {
					for bit := range 8 {
						other := slices.Clone(nodes)
						other[i] = node[:j] + string([]byte{node[j] ^ 1<<bit}) + node[j+1:]
						wantRefused(t, rootOf(l), at, 130, other...)
					}
				}
			}
		}
	}
}

// TestOtherRoots holds nodes to no other root than their own: those of other lists, of nodes below, and texts that are none.
func TestOtherRoots(t *testing.T) {
	for n, l := range listsOf() {
		for _, at := range places() {
			nodes, own := way(l, at), rootOf(l)
			roots := []string{"x", "\x00", strings.Repeat("z", 32), strings.Repeat("\x00", 32), strings.Repeat("z", 31), strings.Repeat("z", 33), strings.Repeat("z", 1<<16)}
			for m, other := range listsOf() {
				if m != n {
					roots = append(roots, rootOf(other))
				}
			}
			if n > 0 {
				roots = append(roots, own[:31], own+"\x00", "\x00"+own, own+own, own[1:]+own[:1], nodes[0], own[:31]+string([]byte{own[31] ^ 1}), string([]byte{own[0] ^ 128})+own[1:], rootOf(few()[n-1:n]))
				for _, node := range nodes[1:] {
					roots = append(roots, sumOf(node))
				}
			}
			for _, root := range roots {
				if root == own {
					continue
				}
				wantRefused(t, root, at, 130, nodes...)
				if root != "" {
					wantRefused(t, root, at, 130)
				}
			}
		}
	}
}

// trieOfItems is a trie of items, which Of is not to refuse.
func trieOfItems(t testing.TB, l ...api.Item) *trie.Trie {
	t.Helper()
	x, e := trie.Of(l)
	if e != api.OK {
		t.Fatalf("Of(%q): %d", l, e)
	}
	return x
}

// noReceipts is texts that are no receipt's bytes, each of as many bytes as a trie's value may have.
func noReceipts() []string {
	l := []string{"b", "bad", "\x00", "\x00\x00\x00", "\x00\x01\x01a", "\x00\x01\x01a\x01\x03x", "\x02\x03\xe9\x01\x01a\x00", "\x00\x01\x07abcdefg\x00", "\x00\x01\x01a\x06\x01\x00\x00\x00\x00\x01", "\x01\x00\x01\x01a\x00", "\x00\x01\x01a\x02\x00\x03", strings.Repeat("v", 32)}
	for _, x := range few() {
		s := plainBytes(x)
		l = append(l, s+"\x00", s[:len(s)-1], s[1:], "\x00"+s)
	}
	return l
}

// TestTriesOfNoReceipts has such a value alone, and among receipts, and behind nodes that show nothing.
func TestTriesOfNoReceipts(t *testing.T) {
	a, b := plainBytes(few()[0]), plainBytes(few()[1])
	for _, value := range noReceipts() {
		if _, ok := plainDecode(value); ok {
			t.Fatalf("by the words %q is a receipt", value)
		}
		for _, at := range []int{0, 1, 7, 8, 15, 16, 255} {
			key := string([]byte{byte(at)})
			other := string([]byte{byte(at + 1)})
			x := trieOfItems(t, api.Item{Key: key, Value: value})
			wantRefused(t, x.Root(), at, 3, alone(byte(at), value))
			wantRefused(t, x.Root(), at, 130)
			wantRefused(t, x.Root(), at, 130, alone(byte(at), value), "")
			wantRefused(t, x.Root(), at, 130, alone(byte(at), value), alone(byte(at), value))
			wantRefused(t, "x", at, 130, alone(byte(at), value))
			wantRefused(t, "", at, 130, alone(byte(at), value))
			wantVerify(t, x.Root(), at^2, x.Nodes(), api.Receipt{}, false, 0)
			x = trieOfItems(t, api.Item{Key: key, Value: value}, api.Item{Key: other, Value: a}, api.Item{Key: "\x80", Value: b})
			wantRefused(t, x.Root(), at, 3, x.Trail(key)...)
			wantVerify(t, x.Root(), (at+1)%256, x.Trail(other), few()[0], true, 0)
			wantVerify(t, x.Root(), 128, x.Trail("\x80"), few()[1], true, 0)
			wantVerify(t, x.Root(), 66, x.Trail("\x42"), api.Receipt{}, false, 0)
		}
	}
}

// TestTriesOfOtherItems has items that no list's trie has: a Verify tells what the nodes say of the key all the same.
func TestTriesOfOtherItems(t *testing.T) {
	var all []api.Item
	for i := range 256 { // a receipt at each place
		all = append(all, api.Item{Key: string([]byte{byte(i)}), Value: plainBytes(of(api.Code(i), "a", i))})
	}
	x := trieOfItems(t, all...)
	for i := range 256 {
		wantVerify(t, x.Root(), i, x.Trail(string([]byte{byte(i)})), of(api.Code(i), "a", i), true, 0)
	}
	a, b := plainBytes(few()[0]), plainBytes(few()[1])
	x = trieOfItems(t, api.Item{Key: "\x01", Value: a}, api.Item{Key: "\x01\x02", Value: b}, api.Item{Key: "\x02\x00", Value: b}) // a's stands in a branch
	wantVerify(t, x.Root(), 1, x.Trail("\x01"), few()[0], true, 0)
	wantVerify(t, x.Root(), 2, x.Trail("\x02"), api.Receipt{}, false, 0) // a longer key is no place
	wantVerify(t, x.Root(), 0, x.Trail("\x00"), api.Receipt{}, false, 0)
	wantRefused(t, x.Root(), 1, 130, x.Trail("\x01\x02")...)
	wantVerify(t, x.Root(), 2, x.Trail("\x02\x00"), api.Receipt{}, false, 0)
	x = trieOfItems(t, api.Item{Key: "\x01", Value: "bad"}, api.Item{Key: "\x01\x02", Value: a})
	wantRefused(t, x.Root(), 1, 3, x.Trail("\x01")...)
	for _, key := range []string{"\x00\x00", "\x00\x00\x00\x00\x00\x00\x00\x00", "a", "a:a", "0", "1"} {
		x = trieOfItems(t, api.Item{Key: key, Value: a})
		wantVerify(t, x.Root(), 0, x.Nodes(), api.Receipt{}, false, 0)
		wantVerify(t, x.Root(), 1, x.Nodes(), api.Receipt{}, false, 0)
	}
	x = trieOfItems(t, api.Item{Key: "0", Value: a}) // a place is a byte, not a digit
	wantVerify(t, x.Root(), 48, x.Nodes(), few()[0], true, 0)
}

// TestNodesOfNoTrie has nodes that a test puts together: a branch's own value at the end of the way, a leaf below an extension.
func TestNodesOfNoTrie(t *testing.T) {
	a := plainBytes(few()[0])
	for value, want := range map[string]api.Code{a: 0, "bad": 3} {
		leaf := bare(value)
		fork := "\x03\x80\x00" + strings.Repeat("k", 32) + plainText(value)
		for _, last := range []string{leaf, fork} {
			ext := "\x02" + "\x01\x02\x00\x07" + sumOf(last)
			x, there := api.Receipt{}, want == 0
			if there {
				x = few()[0]
			}
			wantVerify(t, sumOf(ext), 7, []string{ext, last}, x, there, want)
			wantVerify(t, sumOf(ext), 8, []string{ext}, api.Receipt{}, false, 0)
			wantRefused(t, sumOf(ext), 8, 130, ext, last)
			wantRefused(t, sumOf(ext), 7, 130, ext)
		}
	}
	long := bare(a + strings.Repeat("\x00", 33-len(a))) // no node: its value is too long
	wantRefused(t, sumOf(long), 0, 130, long)
	empty := "\x01" + "\x01\x02\x20\x00" + "\x00"
	wantRefused(t, sumOf(empty), 0, 130, empty)
}

// TestWhatFollows is 17.3: of all lists of up to four of a list's nodes and others, those that are taken say what the list has there.
func TestWhatFollows(t *testing.T) {
	l := few()[:3]
	texts := append(way(l, 0), bare(plainBytes(l[1])), bare(plainBytes(l[2])), way(l[:2], 0)[0], alone(0, plainBytes(l[0])), "x", "")
	shown := 0
	var each func(nodes []string)
	each = func(nodes []string) {
		for _, at := range []int{0, 1, 2, 3, 15, 16, 255} {
			x, there, e := wantByWords(t, rootOf(l), at, nodes)
			if e != api.OK {
				continue
			}
			shown++
			if there != (at < 3) || there && x != l[at] {
				t.Fatalf("%q shows %#v, %v at %d", nodes, x, there, at)
			}
		}
		if len(nodes) < 4 {
			for _, s := range texts {
				each(append(slices.Clone(nodes), s))
			}
		}
	}
	each(nil)
	if want := 7; shown != want {
		t.Errorf("%d are taken, want %d", shown, want)
	}
}

// TestListsAreTheirs changes lists that were handed in and out, behind their length too.
func TestListsAreTheirs(t *testing.T) {
	for n, l := range listsOf() {
		room := append(slices.Clone(l), of(-1, "spare", -1), of(9, "z", 9))
		in, was := room[:n], slices.Clone(room)
		for _, at := range []int{0, 1, 7, 8, 16, 255} {
			wantList(t, in, at)
			first, _ := Prove(in, at)
			other, _ := Prove(in, at)
			want := way(l, at)
			spare := first[:cap(first)]
			for i := range spare {
				spare[i] = "q"
			}
			if !slices.Equal(other, want) {
				t.Fatal("another answer has changed")
			}
			wantList(t, in, at)

			nodes := append(slices.Clone(want), "behind", bare("v"), "")
			given, kept := nodes[:len(want)], slices.Clone(nodes)
			x := api.Receipt{}
			if at < n {
				x = l[at]
			}
			wantVerify(t, rootOf(l), at, given, x, at < n, 0)
			if !slices.Equal(nodes, kept) {
				t.Fatalf("the nodes are %q, were %q", nodes, kept)
			}
			for i := range nodes {
				nodes[i] = "q"
			}
			wantVerify(t, rootOf(l), at, want, x, at < n, 0)
		}
		if !slices.Equal(room, was) {
			t.Fatalf("the list is %#v, was %#v", room, was)
		}
		root, _ := Root(in)
		nodes, _ := Prove(in, 0)
		for i := range room {
			room[i] = of(1, "q", 1)
		}
		if root != rootOf(l) || !slices.Equal(nodes, way(l, 0)) {
			t.Fatal("what was answered has changed")
		}
		if n > 0 {
			wantList(t, in, 0, 1, 8)
		}
	}
}

// TestTextsAreNotShared changes the bytes on which texts that were handed in lie: nothing else could tell.
func TestTextsAreNotShared(t *testing.T) {
	l := []api.Receipt{of(0, "first", 3), of(161, "other", 0)}
	nodes := way(l, 1)
	lie := []byte("firstother" + plainBytes(l[0]) + rootOf(l) + strings.Join(nodes, ""))
	at := 0
	next := func(size int) string {
		s := unsafe.String(&lie[at], size)
		at += size
		return s
	}
	given := []api.Receipt{of(0, next(5), 3), of(161, next(5), 0)}
	bytes, root := next(len(plainBytes(l[0]))), next(32)
	var texts []string
	for _, s := range nodes {
		texts = append(texts, next(len(s)))
	}
	encoded, _ := Encode(given[0])
	decoded, _ := Decode(bytes)
	sum, _ := Root(given)
	shown, _ := Prove(given, 1)
	verified, there, e := Verify(root, 1, texts)
	for i := range lie {
		lie[i] = '!'
	}
	if encoded != plainBytes(l[0]) || decoded != l[0] || sum != rootOf(l) || !slices.Equal(shown, nodes) || verified != l[1] || !there || e != api.OK {
		t.Errorf("%q, %#v, %x, %q, %#v, %v, %d", encoded, decoded, sum, shown, verified, there, e)
	}
}

// TestTextsOfAnswersStandAlone looks at where the texts of answers lie.
func TestTextsOfAnswersStandAlone(t *testing.T) {
	l := []api.Receipt{of(0, "first", 3), of(161, "other", 0), of(0, "first", 3)}
	lying := map[*byte]bool{}
	look := func(s string) {
		t.Helper()
		if lying[unsafe.StringData(s)] {
			t.Errorf("%q lies where another text does", s)
		}
		lying[unsafe.StringData(s)] = true
	}
	for _, x := range l {
		lying[unsafe.StringData(x.From)] = true
	}
	for range 2 {
		for i := range l {
			s, _ := Encode(l[i])
			look(s)
			x, _ := Decode(s)
			look(x.From)
			root, _ := Root(l)
			look(root)
			nodes, _ := Prove(l, i)
			for _, node := range nodes {
				look(node)
			}
			x, _, e := Verify(root, i, nodes)
			look(x.From)
			if x != l[i] || e != api.OK {
				t.Errorf("%#v, %d", x, e)
			}
		}
	}
}

// TestTheSameCallTwice asks each call again behind calls of other things.
func TestTheSameCallTwice(t *testing.T) {
	for range 3 {
		wantMay(t, few()[3])
		wantNot(t, api.Receipt{})
		wantNoBytes(t, "x")
		wantList(t, few(), places()...)
		wantNoList(t, make([]api.Receipt, 9), api.ErrLong)
		wantNoList(t, make([]api.Receipt, 1), api.ErrForm)
		wantList(t, few()[:1], 0, 255)
		wantList(t, nil, 0, 255)
		wantRefused(t, rootOf(few()), 0, 130)
		wantRefused(t, rootOf(few()), 256, 1)
		wantRefused(t, sumOf(alone(9, "bad")), 9, 3, alone(9, "bad"))
	}
}

// listBy is a list: each three bytes of steps are a receipt, which may be or not, as odd says.
func listBy(steps string, odd int) []api.Receipt {
	var l []api.Receipt
	for i := 0; i+2 < len(steps) && len(l) < 12; i += 3 {
		x := of(codes()[int(steps[i])%17], names()[int(steps[i+1])%12], seqs()[int(steps[i+2])%16])
		if len(l) == odd {
			x = wrong()[int(steps[i])%len(wrong())]
		}
		l = append(l, x)
	}
	return l
}

// changedBy is nodes that are changed: each two bytes of turns say at which place, and how, by texts of which some lie there.
func changedBy(nodes, texts []string, turns string) []string {
	l := slices.Clone(nodes)
	for i := 0; i+1 < len(turns) && i < 16; i += 2 {
		at, how := int(turns[i])%(len(l)+1), int(turns[i+1])
		more := texts[how/8%len(texts)]
		switch {
		case how%8 < 3:
			l = slices.Insert(l, at, more)
		case at == len(l):
		case how%8 < 5:
			l = slices.Delete(l, at, at+1)
		case how%8 == 5:
			l[at] = more
		case how%8 == 6:
			l[at], l[0] = l[0], l[at]
		default:
			l[at] += "\x00"
		}
	}
	return l
}

// play holds the calls of any list to the words, and so what is made of its nodes, at any place and by any root.
func play(t *testing.T, steps string, odd, at int, turns, root string) {
	t.Helper()
	l := listBy(steps, odd)
	switch {
	case len(l) > 8:
		wantNoList(t, l, api.ErrLong)
		return
	case !plainListMay(l):
		wantNoList(t, l, api.ErrForm)
		return
	case at < 0 || at > 255:
		if nodes, e := Prove(l, at); len(nodes) != 0 || e != api.ErrRange {
			t.Fatalf("Prove(%#v, %d) = %q, %d", l, at, nodes, e)
		}
		wantRefused(t, rootOf(l), at, 1, way(l, 0)...)
		return
	}
	wantList(t, l, at)
	nodes := way(l, at)
	changed := changedBy(nodes, append(way(l, 0), "", root, bare("v")), turns)
	if x, there, e := wantByWords(t, rootOf(l), at, changed); (e == api.OK) != slices.Equal(changed, nodes) || there && x != l[at] {
		t.Fatalf("of %q, changed, %q: %#v, %v, %d", nodes, changed, x, there, e)
	}
	wantByWords(t, root, at, changed)
	for _, s := range append(changed, root) {
		wantByWords(t, sumOf(s), at, changed)
		wantByWords(t, sumOf(s), at, []string{s})
	}
}

func TestAnyLists(t *testing.T) {
	r := rand.New(rand.NewSource(17))
	text := func(most int) string {
		l := make([]byte, r.Intn(most+1))
		for i := range l {
			l[i] = byte(r.Intn(256))
		}
		return string(l)
	}
	for i := range 4000 {
		odd := -1
		if i%8 == 0 {
			odd = r.Intn(10)
		}
		play(t, text(30), odd, r.Intn(300)-20, text(6), alone(byte(r.Intn(20)), text(32)))
		play(t, text(26), -1, r.Intn(12), text(4), strconv.Itoa(i))
	}
}

// FuzzDecode holds Decode to the words at any bytes.
func FuzzDecode(f *testing.F) {
	f.Add("")
	for _, x := range few() {
		f.Add(plainBytes(x))
	}
	for _, s := range noReceipts() {
		f.Add(s)
	}
	f.Fuzz(func(t *testing.T, s string) { wantDecoded(t, s) })
}

// FuzzReceipt holds all calls to the words at any receipt, alone and in a list, and at any nodes.
func FuzzReceipt(f *testing.F) {
	f.Add(0, "a", 3, "", -1, 0, "", "")
	f.Add(161, "b", 0, "\x00\x00\x00\x01\x01\x01", -1, 1, "\x00\x00", "x")
	f.Add(1001, "abcdefg", -1, "\x00\x00\x00\x01\x01\x01\x02\x02\x02", 1, 255, "\x01\x05", alone(0, "bad"))
	f.Add(1000, "abcdef", most, strings.Repeat("\x00", 27), -1, 256, "\x02\x07\x00\x06", alone(3, plainBytes(few()[0])))
	f.Fuzz(func(t *testing.T, code int, from string, seq int, steps string, odd, at int, turns, root string) {
		x := of(api.Code(code), from, seq)
		if plainMay(x) {
			wantMay(t, x)
			wantList(t, []api.Receipt{few()[0], x}, 0, 1, 2)
		} else {
			wantNot(t, x)
			wantNoList(t, []api.Receipt{few()[0], x}, api.ErrForm)
		}
		play(t, steps, odd, at, turns, root)
	})
}
