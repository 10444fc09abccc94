package scan

import (
	"math"
	"math/rand"
	"slices"
	"strconv"
	"strings"
	"testing"
	"unsafe"

	"pharos/api"
	"pharos/trie"
)

// high is so many bytes 255.
func high(n int) string { return strings.Repeat("\xff", n) }

// itemsOf is items of keys, each with a value of its own; the keys are to rise.
func itemsOf(keys ...string) []api.Item {
	var l []api.Item
	for i, key := range keys {
		l = append(l, api.Item{Key: key, Value: "v" + strconv.Itoa(i)})
	}
	return l
}

// many is n items of keys of two bytes, rising.
func many(n int) []api.Item {
	var keys []string
	for i := range n {
		keys = append(keys, string([]byte{byte(i >> 8), byte(i)}))
	}
	return itemsOf(keys...)
}

// lists is the items of tries, each list's keys rising.
func lists() [][]api.Item {
	last := high(8)
	return [][]api.Item{
		nil,
		itemsOf("k"),
		itemsOf("\x00"),
		itemsOf(last),
		itemsOf("a", "b", "c"),
		itemsOf("a", "a\x00", "a\x00\x00", "ab", "abc", "abcdefgh", "b"), // keys that others go on as
		itemsOf("abcdefg\xfe", "abcdefg\xff", "abcdefh", "abcdefh\x00"),
		itemsOf("a"+high(6), "a"+high(7), "b", "b\x00", high(1), high(7), high(7)+"\x00", high(7)+"\xfe", last),
		itemsOf("\x00", "\x00\x00", strings.Repeat("\x00", 8), "\x00\xff", "\x01", "\x7f", "\x80", "\xc3\xa9", "\xef\xbf\xbd", "\xff"), // bytes, not runes
		many(15), many(16), many(17), many(32), many(33),
	}
}

// marks is texts that a range of items may have at its ends: the keys, those around them, and what is no key.
func marks(l []api.Item) []string {
	keys := []string{"", "\x00", "a", "zz", high(1), high(8), high(9), strings.Repeat("a", 9), strings.Repeat("a", 1<<12)}
	for _, x := range l {
		keys = append(keys, x.Key, x.Key+"\x00", x.Key[:len(x.Key)-1], x.Key+"123456789", Behind(x.Key))
	}
	slices.Sort(keys)
	return slices.Compact(keys)
}

func TestBehind(t *testing.T) {
	for _, c := range []struct{ key, want string }{
		{"", "\x00"},
		{"a", "a\x00"}, // the chapter's examples
		{"abcdefg\xff", "abcdefh"},
		{"\x00", "\x00\x00"},
		{"\xff", "\xff\x00"},
		{"\xff\xff", "\xff\xff\x00"},
		{"\x7f", "\x7f\x00"},
		{"\x80", "\x80\x00"}, // bytes, not runes
		{"abcdefg", "abcdefg\x00"},
		{"abcdef\xff", "abcdef\xff\x00"},
		{high(7), high(7) + "\x00"},
		{"abcdefgh", "abcdefgi"},
		{"abcdefg\x00", "abcdefg\x01"},
		{"abcdefg\x7f", "abcdefg\x80"},
		{"abcdefg\x80", "abcdefg\x81"},
		{"abcdefg\xfe", "abcdefg\xff"},
		{strings.Repeat("\x00", 8), strings.Repeat("\x00", 7) + "\x01"},
		{"abcde\xef\xbf\xbd", "abcde\xef\xbf\xbe"}, // the rune that stands for bytes that are none
		{"abcdef\xff\xff", "abcdeg"},
		{"abcdef\xfe\xff", "abcdef\xff"},
		{"abcdef\x80\xff", "abcdef\x81"},
		{"abcde\xff\x00\xff", "abcde\xff\x01"}, // a byte 255 that is not at the end
		{"\xffabcdefg", "\xffabcdefh"},
		{high(7) + "\x00", high(7) + "\x01"},
		{high(7) + "\xfe", high(8)},
		{"a" + high(7), "b"},
		{"\x00" + high(7), "\x01"},
		{"\xfe" + high(7), "\xff"},
		{"\xff\xfe" + high(6), "\xff\xff"},
		{high(8), ""},
		{"abcdefghi", ""},
		{"abcdefgh\x00", ""},
		{"abcdefgh\xff", ""},
		{high(9), ""},
		{strings.Repeat("\x00", 9), ""},
		{strings.Repeat("a", 1<<16), ""},
	} {
		if got := Behind(c.key); got != c.want {
			t.Errorf("Behind(%.20q) = %q, want %q", c.key, got, c.want)
		}
		wantBehind(t, c.key)
	}
}

// TestBehindOfManyKeys holds keys of each size, with each number of bytes 255 at their end, to the words.
func TestBehindOfManyKeys(t *testing.T) {
	for size := range 12 {
		for ends := range size + 1 {
			for b := range 256 {
				key := strings.Repeat(string([]byte{byte(b)}), size-ends) + high(ends)
				wantBehind(t, key)
				if size > ends { // the byte ahead of the end is this one, the others are not
					wantBehind(t, strings.Repeat("\xff", size-ends-1)+key[size-ends-1:])
					wantBehind(t, strings.Repeat("k", size-ends-1)+key[size-ends-1:])
				}
			}
		}
	}
}

// TestBehindGoesOn goes from key to key, over the ones where a byte goes up by a carry.
func TestBehindGoesOn(t *testing.T) {
	key := "a" + high(5) + "\xfe\xfd"
	for _, want := range []string{
		"a" + high(5) + "\xfe\xfe", "a" + high(5) + "\xfe\xff", "a" + high(6), "a" + high(6) + "\x00", "a" + high(6) + "\x01",
	} {
		if key = Behind(key); key != want {
			t.Fatalf("%q, want %q", key, want)
		}
	}
	key = ""
	for n := range 8 {
		if key = Behind(key); key != strings.Repeat("\x00", n+1) {
			t.Fatalf("%q of %d", key, n)
		}
	}
	if key = Behind(key); key != strings.Repeat("\x00", 7)+"\x01" {
		t.Fatalf("%q", key)
	}
}

func TestRange(t *testing.T) {
	l := itemsOf("a", "b", "c")
	x := trieOf(t, l)
	wantPage(t, x, "b", "", 1, l[1:2], "b\x00") // the chapter's example
	wantPage(t, x, "b\x00", "", 1, l[2:], "")
	long := itemsOf("a", "a\x00", "ab", "abc", "abcdefg\xff", "abcdefh", "b", high(7), high(8))
	y := trieOf(t, long)
	for _, c := range []struct {
		from, end string
		most      int
		at, to    int
		next      string
	}{
		{"", "", 16, 0, 9, ""},
		{"", "", 9, 0, 9, ""},               // as many as there are
		{"", "", 10, 0, 9, ""},              // one more
		{"", "", 8, 0, 8, high(7) + "\x00"}, // one less
		{"", "", 1, 0, 1, "a\x00"},
		{"", "", 5, 0, 5, "abcdefh"}, // the next key is just what is behind the last one
		{"", "", 4, 0, 4, "abc\x00"},
		{"", "b", 16, 0, 6, ""}, // end is a key, and not in it
		{"", "b", 6, 0, 6, ""},
		{"", "b", 5, 0, 5, "abcdefh"},
		{"", "b\x00", 7, 0, 7, ""},
		{"", "aa", 2, 0, 2, ""}, // end is no key
		{"", "a", 1, 0, 0, ""},  // end is the first one
		{"", "\x00", 1, 0, 0, ""},
		{"a", "", 16, 0, 9, ""}, // from is a key, and in it
		{"a\x00", "", 16, 1, 9, ""},
		{"a\x01", "", 3, 2, 5, "abcdefh"},
		{"abcd", "", 16, 4, 9, ""},
		{"abcdefg\xff", "abcdefh", 1, 4, 5, ""},
		{"abcdefg\xff\x00", "abcdefh", 1, 4, 4, ""}, // longer than a key, and ahead of the one behind
		{"abcdefg\xff\x00", "abcdefh\x00", 1, 5, 6, ""},
		{"ab", "abcdefghi", 16, 2, 4, ""},
		{"ab", "abcdefg\xff\xff", 16, 2, 5, ""},
		{"", strings.Repeat("a", 99), 16, 0, 2, ""},
		{high(7), high(8), 16, 7, 8, ""},
		{high(7), high(9), 16, 7, 9, ""},
		{high(7), high(9), 1, 7, 8, high(7) + "\x00"},
		{high(8), "", 1, 8, 9, ""}, // the last key that may be
		{high(8), "", 16, 8, 9, ""},
		{high(8) + "\x00", "", 16, 9, 9, ""},
		{high(9), "", 1, 9, 9, ""},
		{"", high(8), 16, 0, 8, ""},
		{"", high(8), 8, 0, 8, ""},
		{"b", "b", 4, 6, 6, ""}, // from is end
		{"aa", "aa", 4, 2, 2, ""},
		{"c", "b", 4, 7, 7, ""}, // from is above end
		{high(8), "a", 1, 0, 0, ""},
		{"b", "a", 16, 0, 0, ""},
	} {
		wantPage(t, y, c.from, c.end, c.most, long[c.at:c.to], c.next)
	}
}

// TestNextOfCarry has last keys of a page of as many bytes as a key may have, with bytes 255 at the end.
func TestNextOfCarry(t *testing.T) {
	for _, c := range []struct{ key, more, next string }{
		{"abcdefgh", "abcdefgi", "abcdefgi"},
		{"abcdefg\xff", "abcdefh", "abcdefh"},
		{"abcdefg\xff", "q", "abcdefh"},
		{"a" + high(7), "b", "b"},
		{"\x00" + high(7), high(8), "\x01"},
		{high(7) + "\xfe", high(8), high(8)},
		{high(7), high(7) + "\x00", high(7) + "\x00"},
	} {
		l := itemsOf(c.key, c.more)
		x := trieOf(t, l)
		wantPage(t, x, "", "", 1, l[:1], c.next)
		wantPage(t, x, c.next, "", 1, l[1:], "")
		wantPage(t, x, "", c.more, 1, l[:1], "") // what is behind the last one is there, but not in the range
	}
}

func TestRangeRefuses(t *testing.T) {
	for _, l := range lists() {
		x := trieOf(t, l)
		was := told(x)
		for _, most := range []int{0, -1, -2, -api.MaxPage, 17, 18, 32, 1 << 10, 1 << 32, 1<<32 + 1, math.MaxInt, math.MinInt, math.MinInt32, math.MinInt + 1} {
			for _, ends := range [][2]string{{"", ""}, {"a", "b"}, {"b", "a"}, {"a", "a"}, {high(9), ""}, {"", high(9)}} {
				wantRefused(t, x, ends[0], ends[1], most)
			}
		}
		if told(x) != was {
			t.Error("the trie has changed")
		}
		for _, most := range []int{1, api.MaxPage} {
			wantRange(t, x, l, "", "", most)
		}
	}
}

// TestEveryRange asks each list's trie for the ranges between any two marks.
func TestEveryRange(t *testing.T) {
	for _, l := range lists() {
		x := trieOf(t, l)
		was := told(x)
		ends := marks(l)
		for i, from := range ends {
			for j, end := range ends {
				size := len(inRange(l, from, end))
				wantRange(t, x, l, from, end, 1+(i+j)%api.MaxPage)
				for _, most := range []int{size - 1, size, size + 1} {
					if len(l) < 12 && most >= 1 && most <= api.MaxPage {
						wantRange(t, x, l, from, end, most)
					}
				}
			}
		}
		if told(x) != was {
			t.Errorf("of %q the trie has changed", l)
		}
	}
}

// TestTrieOfAllItems has as many items as a trie may have.
func TestTrieOfAllItems(t *testing.T) {
	l := many(api.MaxItems)
	x := trieOf(t, l)
	if n := Count(x, "", ""); n != 1024 {
		t.Errorf("%d items", n)
	}
	for most := 1; most <= api.MaxPage; most++ {
		wantRange(t, x, l, "", "", most)
	}
	for _, ends := range [][2]string{{"\x01", "\x02"}, {"\x01\x80", "\x03\x7f\x00"}, {"\x03\xff", ""}, {"\x03\xf0", ""}, {"", "\x00\x10"}, {"\x04", ""}, {"\x02\x00\x00", "\x02\x11"}} {
		for _, most := range []int{1, 15, 16} {
			wantRange(t, x, l, ends[0], ends[1], most)
		}
	}
}

// TestPages goes from page to page by what each said alone.
func TestPages(t *testing.T) {
	for _, l := range lists() {
		x := trieOf(t, l)
		for most := 1; most <= api.MaxPage; most++ {
			var got []api.Item
			pages := 0
			for from := ""; ; pages++ {
				items, next, e := Range(x, from, "", most)
				if e != api.OK || len(items) > most || next != "" && next <= from {
					t.Fatalf("page %d of %d: %q, %q, %d", pages, most, items, next, e)
				}
				got = append(got, items...)
				if next == "" {
					break
				}
				from = next
			}
			if !slices.Equal(got, l) {
				t.Fatalf("pages of %d: %q, want %q", most, got, l)
			}
			if full := max(0, len(l)-1) / most; pages != full { // none of them but the last one is short, and that has something
				t.Fatalf("%d items, %d on a page: %d pages ahead of the last one", len(l), most, pages)
			}
		}
	}
}

// TestRangeOfChangedTries looks at tries that were made of one another.
func TestRangeOfChangedTries(t *testing.T) {
	x := trie.New()
	wantRange(t, x, nil, "", "", 3)
	y, _ := x.Put("b", "1")
	z, _ := y.Put("a", "2")
	w, _ := z.Del("b")
	v, _ := z.Put("b", "3")
	for range 2 {
		wantRange(t, x, nil, "", "", 1)
		wantRange(t, y, []api.Item{{Key: "b", Value: "1"}}, "", "", 1)
		wantRange(t, z, []api.Item{{Key: "a", Value: "2"}, {Key: "b", Value: "1"}}, "", "", 1)
		wantRange(t, w, []api.Item{{Key: "a", Value: "2"}}, "", "", 1)
		wantRange(t, v, []api.Item{{Key: "a", Value: "2"}, {Key: "b", Value: "3"}}, "", "", 1)
	}
}

// TestListsAreTheirs changes lists that were handed out, behind their length too.
func TestListsAreTheirs(t *testing.T) {
	for _, l := range lists() {
		x := trieOf(t, l)
		was := told(x)
		for most := 1; most <= api.MaxPage; most++ {
			items, next, _ := Range(x, "", "", most)
			other, at, _ := Range(x, "", "", most)
			kept := slices.Clone(other)
			spare := items[:cap(items)]
			for i := range spare {
				spare[i] = api.Item{Key: "q", Value: "q"}
			}
			if !slices.Equal(other, kept) || at != next {
				t.Fatalf("another answer has changed: %q, want %q", other, kept)
			}
			wantPage(t, x, "", "", most, kept, next)
			wantRange(t, x, l, "", "", most)
			if told(x) != was {
				t.Fatal("the trie has changed")
			}
		}
	}
}

// lieOf is texts that lie in memory which a test can change.
type lieOf []byte

func (l lieOf) text(from, size int) string { return unsafe.String(&l[from], size) }

// TestTextsAreNotShared looks at where the texts lie, those of what was handed in too: nothing else could tell.
func TestTextsAreNotShared(t *testing.T) {
	l := itemsOf("abc", "abcd", "abcdefg", "abcdefgh", "bcd")
	x := trieOf(t, l)
	lie := lieOf("abc" + "abcdefgh" + "bcd\x00")
	from, key, end := lie.text(0, 3), lie.text(3, 8), lie.text(11, 4)
	var all []string
	for range 2 {
		for _, most := range []int{1, 2, 4, 16} {
			items, next, _ := Range(x, from, end, most)
			for _, item := range items {
				all = append(all, item.Key, item.Value)
			}
			all = append(all, next)
		}
		all = append(all, Behind(from), Behind(key), Behind(end))
		for _, item := range x.Items() {
			all = append(all, item.Key, item.Value)
		}
	}
	told := strings.Join(all, "/")
	places := map[*byte]bool{unsafe.StringData(from): true, unsafe.StringData(key): true, unsafe.StringData(end): true}
	for i, s := range all {
		if s == "" {
			continue
		}
		if places[unsafe.StringData(s)] {
			t.Errorf("text %d, %q, lies where another one does", i, s)
		}
		places[unsafe.StringData(s)] = true
	}
	for i := range lie {
		lie[i] = '!'
	}
	if strings.Join(all, "/") != told {
		t.Error("what was told has changed")
	}
	wantRange(t, x, l, "", "", 2)
}

// itemsBy is items, their keys rising: each byte of steps is a key, what is left of the one ahead of it and one of few bytes more.
func itemsBy(steps string) []api.Item {
	var keys []string
	key := ""
	for i := range min(len(steps), 400) {
		left := min(len(key), int(steps[i]/6)%api.MaxKey)
		key = key[:left] + few[steps[i]%6:][:1]
		keys = append(keys, key)
	}
	slices.Sort(keys)
	return itemsOf(slices.Compact(keys)...)
}

// few is the bytes that keys made by chance have, so that they have much in common.
const few = "\x00ab\x7f\xfe\xff"

// play holds any calls of a trie of any keys to the words.
func play(t *testing.T, steps, from, end string, most int) {
	t.Helper()
	wantBehind(t, from)
	wantBehind(t, end)
	l := itemsBy(steps)
	x := trieOf(t, l)
	was := told(x)
	if most < 1 || most > api.MaxPage {
		wantRefused(t, x, from, end, most)
		most = api.MaxPage
	}
	wantRange(t, x, l, from, end, most)
	wantRange(t, x, l, "", "", most)
	if told(x) != was {
		t.Error("the trie has changed")
	}
}

func TestAnyCalls(t *testing.T) {
	r := rand.New(rand.NewSource(11))
	text := func(most int, bytes string) string {
		l := make([]byte, r.Intn(most+1))
		for i := range l {
			l[i] = byte(r.Intn(256))
			if bytes != "" {
				l[i] = bytes[int(l[i])%len(bytes)]
			}
		}
		return string(l)
	}
	for range 400 {
		play(t, text(80, ""), text(10, few), text(10, few), r.Intn(20)-1)
	}
}

func FuzzRange(f *testing.F) {
	f.Add("", "", "", 1)
	f.Add("\x01\x02\xff\x03", "a", "b", 2)
	f.Add("\x05\x05\x05\x05\x05\x05\x05\x05", "\xff", "", 1)
	f.Add("\x01\x02\x03\x04\x05\x06\x07\x08\x09", "b", "a", 16)
	f.Add("\x01\x01\x01\x01", "aa", high(9), -7)
	f.Fuzz(play)
}
