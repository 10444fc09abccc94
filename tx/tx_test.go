package tx

import (
	"encoding/hex"
	"math"
	"slices"
	"strings"
	"testing"
	"unsafe"

	"pharos/api"
)

// move, put, del and change are a transaction of each kind.
func move(from string, seq int, to string, amount int) api.Tx {
	return api.Tx{Kind: 1, From: from, Seq: seq, To: to, Amount: amount}
}

func put(from string, seq int, key, value string) api.Tx {
	return api.Tx{Kind: 2, From: from, Seq: seq, Key: key, Value: value}
}

func del(from string, seq int, key string) api.Tx {
	return api.Tx{Kind: 3, From: from, Seq: seq, Key: key}
}

func change(from string, seq int, set ...api.Member) api.Tx {
	return api.Tx{Kind: 4, From: from, Seq: seq, Members: set}
}

// one is a transaction of each kind.
func one() []api.Tx {
	return []api.Tx{move("a", 0, "b", 5), put("a", 1, "k", "v"), del("a", 2, "k"), change("a", 3, setOf(1, 2)...)}
}

// setOf is the members of these powers, named a, b and so on.
func setOf(powers ...int) []api.Member {
	var l []api.Member
	for i, p := range powers {
		l = append(l, api.Member{Name: string(rune('a' + i)), Power: p})
	}
	return l
}

// named is members of power 1 with these names.
func named(l ...string) []api.Member {
	var set []api.Member
	for _, s := range l {
		set = append(set, api.Member{Name: s, Power: 1})
	}
	return set
}

// names is texts that are names, wrongNames others.
func names() []string {
	return []string{"a", "b", "ab", "abcde", "abcdef", "root", "\x00", "\xff\xff\xff\xff\xff\xff", "\u00e9\u00e9\u00e9", " "}
}

func wrongNames() []string {
	return []string{"", "abcdefg", "\u00e9\u00e9\u00e9\u00e9", "\x00\x00\x00\x00\x00\x00\x00", strings.Repeat("a", 256+1), strings.Repeat("a", 1<<16)}
}

// seqs is numbers that may be a Seq, wrongSeqs others.
func seqs() []int {
	return []int{0, 1, 2, 255, 256, 65535, 65536, 1<<32 - 1, 1 << 32, most - 1, most}
}

func wrongSeqs() []int {
	return []int{-1, -2, -256, -most, most + 1, most + 2, 2 * most, 1<<62 + 1, math.MaxInt, math.MinInt, math.MinInt + 1}
}

// amounts is numbers that may be an amount, wrongAmounts others.
func amounts() []int { return seqs()[1:] }

func wrongAmounts() []int { return append(wrongSeqs(), 0) }

// keys is texts that may be keys, wrongKeys others.
func keys() []string {
	return []string{"k", "s", "a:", "abcde", "abcdef", "\x00", "\xff\xff\xff\xff\xff\xff", "\u00e9\u00e9\u00e9"}
}

func wrongKeys() []string {
	return []string{"", "abcdefg", "abcdefgh", "abcdefghi", "\u00e9\u00e9\u00e9\u00e9", strings.Repeat("k", 256+1), strings.Repeat("k", 1<<16)}
}

// values is texts that may be values, wrongValues others.
func values() []string {
	return []string{"v", "\x00", strings.Repeat("v", 31), strings.Repeat("v", 32), strings.Repeat("\xff", 32), strings.Repeat("\u00e9", 16)}
}

func wrongValues() []string {
	return []string{"", strings.Repeat("v", 33), strings.Repeat("\u00e9", 17), strings.Repeat("v", 256+1), strings.Repeat("v", 1<<16)}
}

// sets is members that are a set that may be, wrongSets others.
func sets() [][]api.Member {
	return [][]api.Member{
		setOf(1),
		setOf(1000),
		setOf(1, 1),
		setOf(1000, 1, 256),
		setOf(1, 2, 3, 4, 5, 6, 7),
		setOf(1000, 1000, 1000, 1000, 1000, 1000, 1000),
		named("abcdef"),
		named("\x00", "\x00\x00", "a", "ab", "b", "\xff"),
		{{Name: "aaaaaa", Power: 1000}, {Name: "bbbbbb", Power: 1000}, {Name: "cccccc", Power: 1000}, {Name: "dddddd", Power: 1000}, {Name: "eeeeee", Power: 1000}, {Name: "ffffff", Power: 1000}, {Name: "gggggg", Power: 1000}},
	}
}

func wrongSets() [][]api.Member {
	return [][]api.Member{nil, {}, {{}}, setOf(0), setOf(-1), setOf(1001), setOf(1, 0), setOf(0, 1), setOf(1, 1001, 1), setOf(256 + 1000), setOf(1, 1, 1, 1, 1, 1, 1, 1), setOf(1, 1, 1, 1, 1, 1, 1, 0), named(""), named("", "a"), named("a", ""), named("abcdefg"), named("a", "a"), named("b", "a"), named("a", "c", "b"), named("ab", "a"), named("\x80", "\x7f"), slices.Repeat(setOf(1), 300)}
}

// manyThatMay is transactions that may be, with each thing that may be in each place.
func manyThatMay() []api.Tx {
	var l []api.Tx
	for _, s := range names() {
		l = append(l, move(s, 0, "b", 1), put(s, 1, "k", "v"), del(s, 2, "k"), change(s, 3, setOf(1)...), move("a", 0, s, 1), move(s, 0, s, 1))
	}
	for _, n := range seqs() {
		l = append(l, move("a", n, "b", 1), put("a", n, "k", "v"), del("a", n, "k"), change("a", n, setOf(1)...))
	}
	for _, n := range amounts() {
		l = append(l, move("a", 0, "b", n))
	}
	for _, s := range keys() {
		l = append(l, put("a", 0, s, "v"), del("a", 0, s))
	}
	for _, s := range values() {
		l = append(l, put("a", 0, "k", s))
	}
	for _, set := range sets() {
		l = append(l, change("a", 0, set...), change("root", 7, set...))
	}
	return append(l, move("abcdef", most, "ghijkl", most), put("abcdef", most, "mnopqr", strings.Repeat("v", 32)), del("abcdef", most, "mnopqr"))
}

// manyThatMayNot is others, with one thing wrong in each.
func manyThatMayNot() []api.Tx {
	l := []api.Tx{{}, {From: "a"}}
	for _, s := range wrongNames() {
		l = append(l, move(s, 0, "b", 1), put(s, 1, "k", "v"), del(s, 2, "k"), change(s, 3, setOf(1)...), move("a", 0, s, 1))
	}
	for _, n := range wrongSeqs() {
		l = append(l, move("a", n, "b", 1), put("a", n, "k", "v"), del("a", n, "k"), change("a", n, setOf(1)...))
	}
	for _, n := range wrongAmounts() {
		l = append(l, move("a", 0, "b", n))
	}
	for _, s := range wrongKeys() {
		l = append(l, put("a", 0, s, "v"), del("a", 0, s))
	}
	for _, s := range wrongValues() {
		l = append(l, put("a", 0, "k", s))
	}
	for _, set := range wrongSets() {
		l = append(l, change("a", 0, set...))
	}
	for _, kind := range wrongKinds() {
		l = append(l, withEach(api.Tx{Kind: kind, From: "a"})...)
	}
	return append(l, otherFields()...)
}

// wrongKinds is numbers that are no kind; several are one, if only their lowest byte is looked at.
func wrongKinds() []int {
	return []int{0, 5, 6, -1, -4, 255, 256, 256 + 1, 256 + 4, -256 + 2, 1<<32 + 3, math.MaxInt, math.MinInt, math.MinInt + 4}
}

// withEach is x as it is, and with the fields of each kind.
func withEach(x api.Tx) []api.Tx {
	l := []api.Tx{x}
	for _, y := range one() {
		y.Kind, y.From, y.Seq = x.Kind, x.From, x.Seq
		l = append(l, y)
	}
	return l
}

// otherFields is transactions that may be, but for one field, or all, that their kind does not have.
func otherFields() []api.Tx {
	var l []api.Tx
	fill := func(x api.Tx, to string, amount int, key, value string, set []api.Member) {
		if x.Kind != 1 {
			l = append(l, with(x, to, 0, "", "", nil), with(x, "", amount, "", "", nil))
		}
		if x.Kind == 1 || x.Kind == 4 {
			l = append(l, with(x, "", 0, key, "", nil))
		}
		if x.Kind != 2 {
			l = append(l, with(x, "", 0, "", value, nil))
		}
		if x.Kind != 4 {
			l = append(l, with(x, "", 0, "", "", set))
		}
		l = append(l, with(x, to, amount, key, value, set))
	}
	for _, x := range one() {
		fill(x, "b", 1, "k", "v", setOf(1))
		fill(x, x.From, -1, "\x00", "\x00", setOf(0)) // filled with what may not be there at all
		fill(x, "abcdefg", most+1, "abcdefg", strings.Repeat("v", 33), make([]api.Member, 1))
		fill(x, "\x00", math.MinInt, "a", "k", setOf(1, 1, 1, 1, 1, 1, 1, 1))
	}
	return l
}

// with is x with those of the fields that are not zero put in where it has none.
func with(x api.Tx, to string, amount int, key, value string, set []api.Member) api.Tx {
	if x.To == "" {
		x.To = to
	}
	if x.Amount == 0 {
		x.Amount = amount
	}
	if x.Key == "" {
		x.Key = key
	}
	if x.Value == "" {
		x.Value = value
	}
	if len(x.Members) == 0 {
		x.Members = set
	}
	return x
}

func TestNumbersAreThoseGiven(t *testing.T) {
	if api.XMove != 1 || api.XPut != 2 || api.XDel != 3 || api.XMembers != 4 || api.TTxs != 3 {
		t.Error("the kinds, or the tag, of these tests are others")
	}
	if api.MaxName != 6 || api.MaxAmount != most || api.MaxKey-2 != 6 || api.MaxValue != 32 || api.MaxMembers != 7 || api.MaxPower != 1000 || api.MaxTxs != 8 {
		t.Error("the limits of these tests are others")
	}
}

// TestExample is the chapter's.
func TestExample(t *testing.T) {
	x := move("a", 0, "b", 5)
	if s, e := Encode(x); s != "\x01"+"\x01\x01a"+"\x00"+"\x01\x01b"+"\x01\x05" || e != api.OK {
		t.Errorf("Encode(%#v) = %q, %d", x, s, e)
	}
	wantMay(t, x)
}

func TestBytesWrittenDown(t *testing.T) {
	for _, c := range []struct {
		x     api.Tx
		bytes string
	}{
		{move("a", 0, "b", 1), "\x01" + "\x01\x01a" + "\x00" + "\x01\x01b" + "\x01\x01"},
		{move("a", 300, "a", 256), "\x01" + "\x01\x01a" + "\x02\x01\x2c" + "\x01\x01a" + "\x02\x01\x00"},
		{move("abcdef", most, "\xff\x00", most), "\x01" + "\x01\x06abcdef" + "\x06\x01\x00\x00\x00\x00\x00" + "\x01\x02\xff\x00" + "\x06\x01\x00\x00\x00\x00\x00"},
		{move("a", most-1, "b", most-1), "\x01" + "\x01\x01a" + "\x05\xff\xff\xff\xff\xff" + "\x01\x01b" + "\x05\xff\xff\xff\xff\xff"},
		{put("a", 1, "k", "v"), "\x02" + "\x01\x01a" + "\x01\x01" + "\x01\x01k" + "\x01\x01v"},
		{put("\x00", 0, "abcdef", strings.Repeat("v", 32)), "\x02" + "\x01\x01\x00" + "\x00" + "\x01\x06abcdef" + "\x01\x20" + strings.Repeat("v", 32)},
		{del("a", 0, "k"), "\x03" + "\x01\x01a" + "\x00" + "\x01\x01k"},
		{del("bc", 255, "abcdef"), "\x03" + "\x01\x02bc" + "\x01\xff" + "\x01\x06abcdef"},
		{change("root", 0, setOf(1)...), "\x04" + "\x01\x04root" + "\x00" + "\x01\x07" + "\x01\x01" + "\x01\x01a" + "\x01\x01"},
		{change("a", 2, setOf(1000, 7)...), "\x04" + "\x01\x01a" + "\x01\x02" + "\x01\x0d" + "\x01\x02" + "\x01\x01a" + "\x02\x03\xe8" + "\x01\x01b" + "\x01\x07"},
	} {
		if s, e := Encode(c.x); s != c.bytes || e != api.OK {
			t.Errorf("Encode(%#v) = %q, %d, want %q", c.x, s, e, c.bytes)
		}
		if x, e := Decode(c.bytes); !same(x, c.x) || e != api.OK {
			t.Errorf("Decode(%q) = %#v, %d, want %#v", c.bytes, x, e, c.x)
		}
		wantMay(t, c.x)
	}
}

func TestTransactionsThatMayBe(t *testing.T) {
	for _, x := range manyThatMay() {
		wantMay(t, x)
		x.Members = append([]api.Member{}, x.Members...) // empty, and not nil
		wantMay(t, x)
	}
}

func TestTransactionsThatMayNotBe(t *testing.T) {
	for _, x := range manyThatMayNot() {
		wantNot(t, x)
		wantAny(t, x)
	}
}

// TestBytesOfTransactionsThatMayNotBe leaves out those with fields that stand in no bytes.
func TestBytesOfTransactionsThatMayNotBe(t *testing.T) {
	for _, s := range wrongNames() {
		wantNoBytes(t, plainBytes(move(s, 0, "b", 1)))
		wantNoBytes(t, plainBytes(put(s, 0, "k", "v")))
		wantNoBytes(t, plainBytes(del(s, 0, "k")))
		wantNoBytes(t, plainBytes(change(s, 0, setOf(1)...)))
		wantNoBytes(t, plainBytes(move("a", 0, s, 1)))
	}
	for _, n := range wrongSeqs() {
		for _, x := range one() {
			x.Seq = n
			wantNoBytes(t, plainBytes(x))
		}
	}
	for _, n := range wrongAmounts() {
		wantNoBytes(t, plainBytes(move("a", 0, "b", n)))
	}
	for _, s := range wrongKeys() {
		wantNoBytes(t, plainBytes(put("a", 0, s, "v")))
		wantNoBytes(t, plainBytes(del("a", 0, s)))
	}
	for _, s := range wrongValues() {
		wantNoBytes(t, plainBytes(put("a", 0, "k", s)))
	}
	for _, set := range wrongSets() {
		wantNoBytes(t, plainBytes(change("a", 0, set...)))
	}
}

// TestFieldsOfOtherKinds counts what is filled, so that none is left out.
func TestFieldsOfOtherKinds(t *testing.T) {
	l := otherFields()
	if want := 4 * (4 + 4 + 5 + 5); len(l) != want { // each kind's fields one at a time, and all of them
		t.Errorf("%d, want %d", len(l), want)
	}
	for _, x := range l {
		wantNot(t, x)
	}
	for _, x := range one() {
		wantMay(t, x)
	}
}

// TestEveryChoiceOfFields holds all choices of a few things for each field to the words.
func TestEveryChoiceOfFields(t *testing.T) {
	found := 0
	for _, kind := range []int{-1, 0, 1, 2, 3, 4, 5, 257} {
		for _, from := range []string{"", "a", "abcdefg"} {
			for _, seq := range []int{-1, 0, most, most + 1} {
				for _, x := range fieldsOf(api.Tx{Kind: kind, From: from, Seq: seq}) {
					wantAny(t, x)
					if plainMay(x) {
						found++
					}
				}
			}
		}
	}
	if want := 2 * (2*2 + 2*2 + 2 + 2); found != want {
		t.Errorf("%d may be, want %d", found, want)
	}
}

// fieldsOf is x with all choices of a few things for what kinds have.
func fieldsOf(x api.Tx) []api.Tx {
	var l []api.Tx
	for _, x.To = range []string{"", "b", "abcdef", "abcdefg"} {
		for _, x.Amount = range []int{-1, 0, 1, most, most + 1} {
			for _, x.Key = range []string{"", "k", "abcdef", "abcdefg"} {
				for _, x.Value = range []string{"", "v", strings.Repeat("v", 32), strings.Repeat("v", 33)} {
					for _, x.Members = range [][]api.Member{nil, setOf(1), setOf(1, 1000), setOf(0), setOf(1, 1, 1, 1, 1, 1, 1, 1)} {
						l = append(l, x)
					}
				}
			}
		}
	}
	return l
}

func TestDecodeOfBytesCutOrGrown(t *testing.T) {
	for _, x := range manyThatMay() {
		s := plainBytes(x)
		for n := range len(s) {
			wantNoBytes(t, s[:n])
			wantDecoded(t, s[n+1:])
		}
		for b := range 256 {
			wantNoBytes(t, s+string([]byte{byte(b)}))
		}
		for b := range 5 {
			wantDecoded(t, string([]byte{byte(b)})+s)
		}
		wantNoBytes(t, s+s)
	}
}

// TestDecodeOfOneByteChanged holds Decode, and Encode of what it answers, to the words where one byte of a transaction's is another one.
func TestDecodeOfOneByteChanged(t *testing.T) {
	for _, x := range append(one(), move("abcdef", most, "gh", most), put("\x00", 300, "abcdef", strings.Repeat("v", 32)), del("abcdef", 65536, "\xff"), change("root", 1, sets()[8]...), change("a", 0, setOf(1000, 1, 256)...)) {
		b := []byte(plainBytes(x))
		for i, was := range b {
			for v := range 256 {
				b[i] = byte(v)
				wantDecoded(t, string(b))
				if y, e := Decode(string(b)); e == api.OK && same(x, y) != (byte(v) == was) {
					t.Errorf("Decode(%q) = %#v, of the bytes of %#v", b, y, x)
				}
			}
			b[i] = was
		}
		wantMay(t, x)
	}
}

func TestDecodeOfOtherBytes(t *testing.T) {
	for _, s := range []string{
		"",
		"\x00", "\x01", "\x02", "\x03", "\x04", "\x05", "\xff",
		"\x01\x01a\x00\x01\x01k", // no kind
		"\x00\x01\x01a\x00\x01\x01k",
		"\x05\x01\x01a\x00\x01\x01k",
		"\x00\x01\x01a\x00", // a kind that is none, and nothing of its own
		"\x05\x01\x01a\x00",
		"\xff\x01\x01a\x00",
		"\x01\x03\x01\x01a\x00\x01\x01k",     // a kind as a number
		"\x03\x02\x00\x01a\x00\x01\x01k",     // a text's length with a 0 ahead
		"\x03\x01\x01a\x01\x00\x01\x01k",     // 0 in a byte
		"\x03\x01\x01a\x02\x00\x05\x01\x01k", // 5 in two
		"\x03\x01\x01a\x00\x02\x00\x01k",     // a key's length in two
		"\x03\x01\x01a\x00\x08\x00\x00\x00\x00\x00\x00\x00\x01k",
		"\x03\x01\x01a\x09\x00\x01\x01k", // a number of nine bytes
		"\x03\x01\x01a\x08\xff\xff\xff\xff\xff\xff\xff\xff\x01\x01k",
		"\x03\x01\x01a\x06\x01\x00\x00\x00\x00\x01\x01\x01k", // a Seq of one too many
		"\x03\x01\x01a\x00\x01\x02k",                         // fewer bytes than it says
		"\x03\x01\x01a\x00\x01\x00",                          // a text of no byte in a way of its own
		"\x03\x01\x01a\x00\x00",                              // a key of none
		"\x03\x00\x00\x01\x01k",                              // a name of none
		"\x03\x01\x01a\x00\x08\x7f\xff\xff\xff\xff\xff\xff\xffk",
		"\x03\x01\x01a\x00\x05\x01\x00\x00\x00\x01k", // 1, if only 32 bits are looked at
		"\x03\x08\x7f\xff\xff\xff\xff\xff\xff\xffa\x00\x01\x01k",
		"\x03\x01\x01a\x00\x01\x01k\x00", // of an XPut without a value
		"\x02\x01\x01a\x00\x01\x01k",
		"\x02\x01\x01a\x00\x01\x01k\x00",
		"\x02\x01\x01a\x00\x01\x01k\x02\x00\x01v",
		"\x02\x01\x01a\x00\x02\x00\x01k\x01\x01v",
		"\x03\x01\x01a\x00\x01\x01k\x01\x01v", // of an XPut
		"\x01\x01\x01a\x00\x01\x01b\x00",      // a move of nothing
		"\x01\x01\x01a\x00\x01\x01b",
		"\x01\x01\x01a\x00\x01\x01b\x02\x00\x05", // 5 in two
		"\x01\x01\x01a\x00\x02\x00\x01b\x01\x05",
		"\x01\x01\x01a\x00\x00\x01\x05",
		"\x01\x01\x01a\x00\x01\x01b\x08\x80\x00\x00\x00\x00\x00\x00\x05",
		"\x01\x01\x01a\x01\x05\x01\x01b",             // the Seq behind
		"\x04\x01\x01a\x00\x01\x01\x01\x01a\x01\x01", // a set that is no text
		"\x04\x01\x01a\x00",
		"\x04\x01\x01a\x00\x00",
		"\x04\x01\x01a\x00\x02\x00\x07\x01\x01\x01\x01a\x01\x01",
		"\x04\x01\x01a\x00\x08\x7f\xff\xff\xff\xff\xff\xff\xff\x01\x01\x01\x01a\x01\x01",
	} {
		wantNoBytes(t, s)
		if _, ok := plainDecode(s); ok {
			t.Errorf("by the words %q is a transaction", s)
		}
	}
}

// TestDecodeOfBytesOfNoSet lays texts into an XMembers that are not just the bytes of a set that may be.
func TestDecodeOfBytesOfNoSet(t *testing.T) {
	head := plainBytes(change("a", 0))
	head = head[:len(head)-3] // without the text of the byte 0: a set of no member
	if head != "\x04\x01\x01a\x00" {
		t.Fatalf("the head is %q", head)
	}
	texts := []string{
		"",
		"\x00",
		"\x01\x00",
		"\x02\x00\x01\x01\x01a\x01\x01",
		"\x01\x01\x02\x00\x01a\x01\x01",
		"\x01\x01\x01\x01a\x02\x00\x01",
		"\x01\x01\x01\x01a\x00",
		"\x01\x01\x01\x01a\x01\x00",
		"\x01\x02\x01\x01a\x01\x01",
		"\x01\x01\x01\x01a\x01\x01\x01\x01b\x01\x01",
		"\x08\x7f\xff\xff\xff\xff\xff\xff\xff\x01\x01a\x01\x01",
		"\x08\xff\xff\xff\xff\xff\xff\xff\xff",
		"a",
		strings.Repeat("a", 1<<16),
		strings.Repeat("a", 1<<16+1),
	}
	for _, set := range wrongSets() {
		texts = append(texts, plainSet(set))
	}
	for _, set := range sets() {
		s := plainSet(set)
		texts = append(texts, s+"\x00", s+"a", s[:len(s)-1], s[1:], "\x00"+s, s+s, plainText(s))
		wantMay(t, change("a", 0, set...))
		wantDecoded(t, head+plainText(s))
	}
	for _, s := range texts {
		wantNoBytes(t, head+plainText(s))
	}
}

// TestDecodeOfEveryShortBytes holds Decode to the words over all bytes of up to 7 of four kinds behind each kind and a name.
func TestDecodeOfEveryShortBytes(t *testing.T) {
	bytes := "\x00\x01\x02a"
	found := 0
	for kind := range 6 {
		b := append([]byte{byte(kind)}, "\x01\x01a1234567"...)
		for size, texts := 0, 1; size <= 7; size, texts = size+1, texts*len(bytes) {
			for text := range texts {
				for i := range size {
					b[4+i] = bytes[text>>(2*i)&3]
				}
				s := string(b[:4+size])
				wantDecoded(t, s)
				if _, ok := plainDecode(s); ok {
					found++
				}
			}
		}
	}
	// A number takes 1, 2 or 3 bytes: 1, 3 and 12 of these; a text 3 or 4: 4 and 16 of these.
	moves := 1*4*3 + 1*4*12 + 1*16*3 + 3*4*3 // an amount is not 0
	puts := 1 * 4 * 4
	dels := 1*4 + 1*16 + 3*4 + 3*16 + 12*4 + 12*16
	if want := moves + puts + dels; found != want {
		t.Errorf("%d transactions among them, want %d", found, want)
	}
}

// lists is lists that may be.
func lists() [][]api.Tx {
	all := manyThatMay()
	l := [][]api.Tx{nil, {}, one(), append(one(), one()...), slices.Repeat(one()[:1], 8)}
	for n := range 9 {
		l = append(l, all[:n], all[len(all)-n:])
	}
	for _, x := range all {
		l = append(l, []api.Tx{x}, []api.Tx{x, one()[0], x})
	}
	for rest := all; len(rest) > 0; rest = rest[min(7, len(rest)):] {
		l = append(l, rest[:min(7, len(rest))])
	}
	return l
}

func TestListsThatMayBe(t *testing.T) {
	for _, l := range lists() {
		wantList(t, l)
	}
}

func TestListsOfTooMany(t *testing.T) {
	all := manyThatMay()
	wantList(t, all[:8])
	for _, n := range []int{9, 10, 16, len(all)} {
		wantRefused(t, all[:n], api.ErrLong)
		wantNoList(t, plainList(all[:n]))
	}
	for _, n := range []int{9, 256, 256 + 1, 1 << 10} { // of a list of transactions that may not be: the first thing that is wrong
		wantRefused(t, make([]api.Tx, n), api.ErrLong)
		wantRefused(t, append(make([]api.Tx, n-1), one()[0]), api.ErrLong)
		wantRefused(t, append(slices.Repeat(one()[:1], n-1), api.Tx{}), api.ErrLong)
		wantNoList(t, plainList(make([]api.Tx, n)))
		wantNoList(t, plainList(slices.Repeat(one()[2:3], n)))
	}
}

// TestListsWithOneThatMayNotBe puts one at each place of lists of each length.
func TestListsWithOneThatMayNotBe(t *testing.T) {
	for _, x := range manyThatMayNot() {
		for _, n := range []int{1, 2, 3, 8} {
			for _, i := range []int{0, n / 2, n - 1} {
				l := slices.Repeat(one()[2:3], n)
				l[i] = x
				wantRefused(t, l, api.ErrTx)
				wantListDecoded(t, plainList(l))
			}
		}
	}
	for n := 1; n <= 8; n++ {
		wantRefused(t, make([]api.Tx, n), api.ErrTx)
		for i := range n {
			for _, x := range []api.Tx{{}, move("", 0, "b", 1), put("a", 0, "k", ""), del("a", -1, "k"), change("a", 0)} {
				l := append(one(), one()...)[:n]
				l[i] = x
				wantRefused(t, l, api.ErrTx)
				wantNoList(t, plainList(l))
			}
		}
	}
}

func TestListsBytesWrittenDown(t *testing.T) {
	a, b := "\x03\x01\x01a\x00\x01\x01k", "\x01\x01\x01a\x00\x01\x01b\x01\x05"
	for _, c := range []struct {
		l     []api.Tx
		bytes string
		root  string
	}{
		{nil, "\x00", "9b4fb24edd6d1d8830e272398263cdbf026b97392cc35387b991dc0248a628f9"},
		{[]api.Tx{}, "\x00", "9b4fb24edd6d1d8830e272398263cdbf026b97392cc35387b991dc0248a628f9"},
		{[]api.Tx{del("a", 0, "k")}, "\x01\x01" + "\x01\x08" + a, "8329fbec6eaeaf866a1c3c21d57da850450041a7a8e88c231e2a3bb3bf13b539"},
		{[]api.Tx{del("a", 0, "k"), move("a", 0, "b", 5)}, "\x01\x02" + "\x01\x08" + a + "\x01\x0a" + b, "c37fd6ca4fcf04b44cbea830dada385bc20401d10d723d7c1ddf40ae8342f9f8"},
		{[]api.Tx{move("a", 0, "b", 5), del("a", 0, "k")}, "\x01\x02" + "\x01\x0a" + b + "\x01\x08" + a, "7a3bafc2fa46f909e09562b1342c481cbe131a72fb90105cef19e926fd37add7"},
	} {
		if s, e := EncodeAll(c.l); s != c.bytes || e != api.OK {
			t.Errorf("EncodeAll(%#v) = %q, %d, want %q", c.l, s, e, c.bytes)
		}
		if l, e := DecodeAll(c.bytes); !sameAll(l, c.l) || e != api.OK {
			t.Errorf("DecodeAll(%q) = %#v, %d, want %#v", c.bytes, l, e, c.l)
		}
		if s, e := Root(c.l); hex.EncodeToString([]byte(s)) != c.root || e != api.OK {
			t.Errorf("Root(%#v) = %x, %d, want %s", c.l, s, e, c.root)
		}
	}
}

func TestDecodeAllOfBytesCutOrGrown(t *testing.T) {
	for _, l := range [][]api.Tx{nil, one()[:1], one()[2:], one(), append(one(), one()...)} {
		s := plainList(l)
		for n := range len(s) {
			wantNoList(t, s[:n])
			wantListDecoded(t, s[n+1:])
		}
		for b := range 256 {
			wantNoList(t, s+string([]byte{byte(b)}))
			wantListDecoded(t, string([]byte{byte(b)})+s)
		}
		wantNoList(t, s+s)
	}
}

// TestDecodeAllOfOneByteChanged holds DecodeAll, EncodeAll and Root to the words where one byte of a list's is another one.
func TestDecodeAllOfOneByteChanged(t *testing.T) {
	for _, l := range [][]api.Tx{nil, one(), append(one()[2:], one()[0]), {change("a", 300, setOf(1000, 1)...), put("a", most, "k", strings.Repeat("v", 32))}} {
		b := []byte(plainList(l))
		for i, was := range b {
			for v := range 256 {
				b[i] = byte(v)
				wantListDecoded(t, string(b))
				if m, e := DecodeAll(string(b)); e == api.OK && sameAll(l, m) != (byte(v) == was) {
					t.Errorf("DecodeAll(%q) = %#v, of the bytes of %#v", b, m, l)
				}
			}
			b[i] = was
		}
		wantList(t, l)
	}
}

func TestDecodeAllOfOtherBytes(t *testing.T) {
	x := "\x03\x01\x01a\x00\x01\x01k"
	for _, s := range []string{
		"",
		"\x01\x00",                      // 0 in a byte
		"\x02\x00\x01" + "\x01\x08" + x, // 1 in two
		"\x01\x01" + "\x02\x00\x08" + x, // a text's length in two
		"\x01\x01",
		"\x01\x01" + "\x00", // a transaction of no byte
		"\x01\x01" + "\x01\x00",
		"\x01\x01" + x,              // no text
		"\x01\x01" + "\x01\x07" + x, // a byte behind
		"\x01\x01" + "\x01\x09" + x, // a byte too few
		"\x01\x01" + "\x01\x09" + x + "\x00",
		"\x01\x01" + "\x01\x09" + "\x00" + x,
		"\x01\x02" + "\x01\x08" + x, // fewer than it says
		"\x01\x01" + "\x01\x08" + x + "\x01\x08" + x,
		"\x00" + "\x01\x08" + x,
		"\x01\x01" + "\x01\x10" + x + x, // two in one text
		"\x01\x09" + strings.Repeat("\x01\x08"+x, 9),
		"\x01\xff" + strings.Repeat("\x01\x08"+x, 255),
		"\x02\x01\x00" + strings.Repeat("\x01\x08"+x, 256),
		"\x02\x01\x01" + strings.Repeat("\x01\x08"+x, 257),
		"\x08\x7f\xff\xff\xff\xff\xff\xff\xff" + "\x01\x08" + x, // no loop over so many
		"\x08\xff\xff\xff\xff\xff\xff\xff\xff" + "\x01\x08" + x,
		"\x05\x01\x00\x00\x00\x01" + "\x01\x08" + x, // 1, if only 32 bits are looked at
		"\x01\x01" + "\x08\x7f\xff\xff\xff\xff\xff\xff\xff" + x,
		"\x01\x01" + "\x05\x01\x00\x00\x00\x08" + x,
		"\x09" + "\x01\x08" + x,
		x,
		"\x01\x01" + "\x03\x01\x00\x00" + strings.Repeat("a", 1<<16),
		"\x01\x01" + "\x03\x01\x00\x01" + strings.Repeat("a", 1<<16+1),
	} {
		wantNoList(t, s)
		if _, ok := plainDecodeAll(s); ok {
			t.Errorf("by the words %q is a list", s)
		}
	}
	for n := range 9 {
		s := string(plainNum(n)) + strings.Repeat("\x01\x08"+x, n)
		wantListDecoded(t, s)
		wantList(t, slices.Repeat([]api.Tx{del("a", 0, "k")}, n))
	}
}

// TestUnlikeListsHaveUnlikeBytes is what follows (15.3).
func TestUnlikeListsHaveUnlikeBytes(t *testing.T) {
	seen, roots := map[string][]api.Tx{}, map[string][]api.Tx{}
	for _, l := range lists() {
		s, _ := EncodeAll(l)
		sum, e := Root(l)
		if len(sum) != 32 || e != api.OK {
			t.Errorf("Root(%#v) = %q, %d", l, sum, e)
		}
		for _, was := range [][]api.Tx{seen[s], roots[sum]} {
			if was != nil && !sameAll(was, l) {
				t.Errorf("%#v and %#v have the bytes %q, or the root %q", was, l, s, sum)
			}
		}
		seen[s], roots[sum] = l, l
		wantList(t, l)
	}
	texts := map[string]api.Tx{}
	for _, x := range manyThatMay() {
		s, _ := Encode(x)
		if was, ok := texts[s]; ok && !same(was, x) {
			t.Errorf("%#v and %#v have the bytes %q", was, x, s)
		}
		texts[s] = x
	}
}

// TestTheSameCallTwice asks each call again behind calls of other things.
func TestTheSameCallTwice(t *testing.T) {
	for range 2 {
		for _, x := range one() {
			wantMay(t, x)
			wantNot(t, api.Tx{Kind: x.Kind})
		}
		wantList(t, one())
		wantRefused(t, make([]api.Tx, 1), api.ErrTx)
		wantRefused(t, make([]api.Tx, 9), api.ErrLong)
		wantNoBytes(t, "x")
		wantNoList(t, "x")
	}
}

// TestArgumentsStayAsTheyWere lays lists into longer ones, and looks at these.
func TestArgumentsStayAsTheyWere(t *testing.T) {
	members := append(setOf(3, 1), api.Member{Name: "spare", Power: -1})
	room := append(one(), api.Tx{Kind: 9, From: "spare"}, api.Tx{})
	room[3] = change("a", 3, members[:2]...)
	x := change("a", 0, members[:2]...)
	bare := move("a", 0, "b", 1)
	bare.Members = members[:0] // no member, whatever lies behind
	for range 2 {
		wantMay(t, x)
		wantMay(t, bare)
		wantNot(t, change("a", 0, members...))
		wantNot(t, change("a", 0, members[:0]...))
		wantList(t, room[:4])
		wantList(t, room[:0])
		wantRefused(t, room, api.ErrTx)
	}
	if !slices.Equal(members, append(setOf(3, 1), api.Member{Name: "spare", Power: -1})) {
		t.Errorf("members are %v", members)
	}
	want := append(one(), api.Tx{Kind: 9, From: "spare"}, api.Tx{})
	want[3] = change("a", 3, setOf(3, 1)...)
	if !sameAll(room, want) || !same(x, change("a", 0, setOf(3, 1)...)) || bare.Members == nil {
		t.Errorf("the list is %#v, the transaction %#v", room, x)
	}
}

// TestAnswersAreNewLists writes all over what was answered, spare room too.
func TestAnswersAreNewLists(t *testing.T) {
	want := append(one(), change("root", 0, setOf(1, 1, 1)...), change("b", 1, setOf(5)...))
	s := plainList(want)
	a, _ := DecodeAll(s)
	b, _ := DecodeAll(s)
	c, _ := Decode(plainBytes(want[4]))
	d, _ := Decode(plainBytes(want[4]))
	for _, l := range [][]api.Tx{a, {c}} {
		for _, x := range l {
			for i := range x.Members[:cap(x.Members)] {
				x.Members[:cap(x.Members)][i] = api.Member{Name: "!", Power: -1}
			}
			if len(x.Members) > 0 && x.Members[0].Name != "!" {
				t.Errorf("nothing was written over %#v", x)
			}
		}
	}
	if same(c, d) || !same(a[0], want[0]) || same(a[5], want[5]) {
		t.Error("what is written over members is not to be seen there")
	}
	for i := range a[:cap(a)] {
		a[:cap(a)][i] = api.Tx{}
	}
	if !sameAll(b, want) || !same(d, want[4]) {
		t.Errorf("another answer is %#v, %#v", b, d)
	}
	wantList(t, want)
	wantMay(t, want[4])
}

// TestTheMembersOfOneListAreApart writes over those of one transaction of a list: the others' stay.
func TestTheMembersOfOneListAreApart(t *testing.T) {
	want := []api.Tx{change("a", 0, setOf(1, 2)...), change("a", 0, setOf(1, 2)...), change("a", 1, setOf(3)...)}
	for i := range want {
		l, _ := DecodeAll(plainList(want))
		m := l[i].Members
		for j := range m[:cap(m)] {
			m[:cap(m)][j] = api.Member{}
		}
		for j := range want {
			if same(l[j], want[j]) != (i != j) {
				t.Errorf("%d is %#v behind a change of %d", j, l[j], i)
			}
		}
	}
}

// TestTextsAreNotShared changes the bytes on which texts that were handed in lie: nothing else could tell.
func TestTextsAreNotShared(t *testing.T) {
	want := []api.Tx{move("ab", 0, "cd", 5), put("ab", 1, "ef", "gh"), del("ab", 2, "ef"), change("ab", 3, named("cd", "ef", "gh")...)}
	list := plainList(want)
	lie := []byte("abcdefgh" + list)
	text := func(begin, end int) string { return unsafe.String(&lie[begin], end-begin) }
	ab, cd, ef, gh := text(0, 2), text(2, 4), text(4, 6), text(6, 8)
	given := []api.Tx{move(ab, 0, cd, 5), put(ab, 1, ef, gh), del(ab, 2, ef), change(ab, 3, named(cd, ef, gh)...)}
	var texts []string
	for _, x := range given {
		s, _ := Encode(x)
		texts = append(texts, s)
	}
	all, _ := EncodeAll(given)
	root, _ := Root(given)
	decoded, e := DecodeAll(text(8, len(lie)))
	var each []api.Tx
	rest := 8 + 2 // behind how many there are
	for _, x := range want {
		n := len(plainBytes(x))
		y, _ := Decode(text(rest+2, rest+2+n))
		each = append(each, y)
		rest += 2 + n
	}
	for i := range lie {
		lie[i] = '!'
	}
	if !sameAll(decoded, want) || e != api.OK || !sameAll(each, want) {
		t.Errorf("DecodeAll: %#v, %d, Decode: %#v", decoded, e, each)
	}
	for i, s := range texts {
		if s != plainBytes(want[i]) {
			t.Errorf("Encode: %q, want %q", s, plainBytes(want[i]))
		}
	}
	if all != list || root != plainRoot(list) {
		t.Errorf("EncodeAll: %q, Root: %q", all, root)
	}
}

// TestTextsOfAnswersStandAlone looks at where the texts of answers lie; those of one byte have a place that all share, which nobody can write on.
func TestTextsOfAnswersStandAlone(t *testing.T) {
	want := []api.Tx{move("ab", 0, "cd", 5), put("ab", 1, "ef", "gh"), del("ab", 2, "ef"), change("ab", 3, named("cd", "ef", "gh")...)}
	s := plainList(want)
	var places []*byte
	look := func(n string) {
		if p := unsafe.StringData(n); n != "" && slices.Contains(places, p) {
			t.Errorf("%q lies where another text does", n)
		} else {
			places = append(places, p)
		}
	}
	for range 2 {
		l, _ := DecodeAll(s)
		for _, x := range want {
			y, _ := Decode(plainBytes(x))
			l = append(l, y)
			b, _ := Encode(x)
			look(b)
		}
		b, _ := EncodeAll(want)
		look(b)
		for _, x := range l {
			for _, n := range []string{x.From, x.To, x.Key, x.Value} {
				look(n)
			}
			for _, m := range x.Members {
				look(m.Name)
			}
		}
	}
}

// FuzzDecode holds Decode and DecodeAll to the words at any bytes.
func FuzzDecode(f *testing.F) {
	f.Add("")
	for _, l := range [][]api.Tx{one(), append(one(), one()...), manyThatMay()[:9], {change("root", 300, sets()[4]...)}} {
		f.Add(plainList(l))
		for _, x := range l {
			f.Add(plainBytes(x))
		}
	}
	f.Fuzz(func(t *testing.T, s string) {
		wantDecoded(t, s)
		wantListDecoded(t, s)
	})
}

// FuzzTx holds all calls to the words at any transaction, alone and in a list: each line is a member, its first byte the power.
func FuzzTx(f *testing.F) {
	f.Add(1, "a", 0, "b", 5, "", "", "", 1)
	f.Add(2, "a", 1, "", 0, "k", "v", "", 8)
	f.Add(3, "a", 1, "", 0, "k", "", "", 9)
	f.Add(4, "root", 2, "", 0, "", "", "\x01a\n\x02b", 3)
	f.Fuzz(func(t *testing.T, kind int, from string, seq int, to string, amount int, key, value, members string, many int) {
		x := api.Tx{Kind: kind, From: from, Seq: seq, To: to, Amount: amount, Key: key, Value: value}
		for _, line := range strings.Split(members, "\n") {
			if line != "" {
				x.Members = append(x.Members, api.Member{Name: line[1:], Power: int(int8(line[0]))})
			}
		}
		wantAny(t, x)
		l := slices.Repeat([]api.Tx{x}, int(uint(many)%12))
		switch {
		case plainListMay(l):
			wantList(t, l)
		case len(l) > 8:
			wantRefused(t, l, api.ErrLong)
		default:
			wantRefused(t, l, api.ErrTx)
		}
	})
}
