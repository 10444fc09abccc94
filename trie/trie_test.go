package trie

import (
	"encoding/hex"
	"math/rand"
	"slices"
	"strconv"
	"strings"
	"testing"
	"unsafe"

	"pharos/api"
)

// most is a value of as many bytes as one may have.
var most = strings.Repeat("m", 32)

// itemsOf is items of keys and values by turns.
func itemsOf(l ...string) []api.Item {
	var items []api.Item
	for i := 0; i+1 < len(l); i += 2 {
		items = append(items, api.Item{Key: l[i], Value: l[i+1]})
	}
	return items
}

// plainOf is the trie of items, by the words.
func plainOf(l []api.Item) plain {
	p := plain{}
	for _, x := range l {
		p[x.Key] = x.Value
	}
	return p
}

// keysOf is items' keys.
func keysOf(l []api.Item) []string {
	var keys []string
	for _, x := range l {
		keys = append(keys, x.Key)
	}
	return keys
}

// many is n items of keys of two bytes.
func many(n int) []api.Item {
	var l []api.Item
	for i := range n {
		l = append(l, api.Item{Key: string([]byte{byte(i >> 8), byte(i)}), Value: strconv.Itoa(i)})
	}
	return l
}

// pool is keys that have much in common, in rising order: whose last half bytes differ, and whose first ones; which go on as others.
func pool() []string {
	return []string{"\x10", "\x11", "\x11\x11", "\x11\x11\x11\x11", "\x11\x12", "\x11\x21", "\x12", "\x21", "\xff", "\xff\x00\x00\x00\x00\x00\x00\x00", "\xff\x00\x00\x00\x00\x00\x00\x01"}
}

// marks is texts by which keys of the pool and their nodes' places are asked for: some are no keys.
func marks() []string {
	l := []string{"", "\x00", "\x01", "\x0f", "\x10\x00", "\x11\x10", "\x11\x11\x11", "\x11\x11\x11\x12", "\x11\x11\x11\x11\x00", "\x11\x13", "\x11\x20", "\x1f", "\x20", "\x30", "\xf0", "\xfe", "\xff\x00", "\xff\x00\x00\x00\x00\x00\x00\x00\x00", "\xff\x00\x00\x00\x00\x00\x00\x01\xff", "\xff\x00\x01", "\xff\xff", strings.Repeat("\xff", 9)}
	return append(l, pool()...)
}

func TestExamples(t *testing.T) {
	k := leafText("\x06\x0b", "v")
	x := trieOf(t, itemsOf("k", "v"))
	if l := x.Nodes(); !slices.Equal(l, []string{k}) || k != "\x01"+"\x01\x02\x20\x6b"+"\x01\x01v" || x.Root() != sumOf(k) {
		t.Errorf("%q", l)
	}
	one, two := leafText("", "1"), leafText("", "2")
	branch := branchText("", map[int]string{1: sumOf(one), 2: sumOf(two)})
	ext := extText("\x06", sumOf(branch))
	x = trieOf(t, itemsOf("a", "1", "b", "2"))
	if l := x.Nodes(); !slices.Equal(l, []string{ext, branch, one, two}) || x.Root() != sumOf(ext) {
		t.Errorf("%q", l)
	}
	kid := leafText("\x02", "2")
	branch = branchText("1", map[int]string{6: sumOf(kid)})
	ext = extText("\x06\x01", sumOf(branch))
	x = trieOf(t, itemsOf("a", "1", "ab", "2"))
	if l := x.Nodes(); !slices.Equal(l, []string{ext, branch, kid}) || x.Root() != sumOf(ext) {
		t.Errorf("%q", l)
	}
}

func TestRootsWrittenDown(t *testing.T) {
	var single []api.Item
	for i := range 256 {
		single = append(single, api.Item{Key: string([]byte{byte(i)}), Value: "v"})
	}
	full, eight, seven := strings.Repeat("\xff", 32), strings.Repeat("\xff", 8), strings.Repeat("\xff", 7)
	for _, c := range []struct {
		l    []api.Item
		root string
	}{
		{nil, ""},
		{itemsOf("k", "v"), "730f0f6f50b5daf15d17d9d77062e33b3cc51d93bcdc0aece45850b387be453b"},
		{itemsOf("a", "1", "b", "2"), "988d4360ff91871d8f83beeaad67295e19439257ab88553da49f8e0300d8b8dc"},
		{itemsOf("ab", "2", "a", "1"), "3fd3ac615dabfdf0689830f38cef9f4a628f43eee89cfb6d1911d1b5aec0333e"},
		{itemsOf("\x00", strings.Repeat("\x00", 32), eight, full, seven, "x", "abcdefgh", "v"), "4e66dc8cf94be7389e4e7922506e549e408fab684bb73becf13528c29de3aa35"},
		{many(1024), "6290e40dd17667b1f89a0e5839bba4079863c615411402cba25cb422b7f18e3a"},
		{single, "2cc0f537bbb7533d9638cabdbfc59b3fa2005a593dcb6ac4bf368b4929401625"},
	} {
		x := trieOf(t, c.l)
		if got := hex.EncodeToString([]byte(x.Root())); got != c.root {
			t.Errorf("of %d items %s, want %s", len(c.l), got, c.root)
		}
		wantTrie(t, x, plainOf(c.l))
	}
}

func TestTrieOfNothing(t *testing.T) {
	for _, x := range []*Trie{New(), trieOf(t, nil), trieOf(t, []api.Item{}), wantDel(t, wantPut(t, New(), "k", "v"), "k")} {
		if x == nil {
			t.Fatal("no trie")
		}
		wantTrie(t, x, nil)
		wantNone(t, x, pool()...)
		wantWays(t, x, nil, marks())
		wantTrie(t, wantPut(t, x, "k", "v"), plain{"k": "v"})
		wantTrie(t, x, nil)
	}
}

// shape is items, and the bytes of their nodes, in order.
type shape struct {
	items []api.Item
	nodes []string
}

// shapes is tries whose nodes are written out one by one.
func shapes() []shape {
	l := []shape{
		{itemsOf("\x00", "v"), []string{leafText("\x00\x00", "v")}},
		{itemsOf("abcdefgh", most), []string{leafText("\x06\x01\x06\x02\x06\x03\x06\x04\x06\x05\x06\x06\x06\x07\x06\x08", most)}},
	}
	add := func(items []api.Item, nodes ...string) { l = append(l, shape{items, nodes}) }
	pair := func(i, j int, a, b string) string { return branchText("", map[int]string{i: sumOf(a), j: sumOf(b)}) }

	a, b := leafText("\x01", "v"), leafText("\x01", "w") // the first half byte differs
	add(itemsOf("\x11", "v", "\x21", "w"), pair(1, 2, a, b), a, b)
	a, b = leafText("", "v"), leafText("", "w") // the last one
	add(itemsOf("\x31", "v", "\x3f", "w"), extText("\x03", sumOf(pair(1, 15, a, b))), pair(1, 15, a, b), a, b)
	add(itemsOf("ab1", "v", "ab2", "w"), extText("\x06\x01\x06\x02\x03", sumOf(pair(1, 2, a, b))), pair(1, 2, a, b), a, b)
	at := strings.Repeat("\x07", 15)
	add(itemsOf("wwwwwwwp", "v", "wwwwwwww", "w"), extText(at, sumOf(pair(0, 7, a, b))), pair(0, 7, a, b), a, b)
	a, b = leafText("\x02\x03\x04", "v"), leafText("\x02\x03\x04", "w") // the higher half of a byte within
	add(itemsOf("\x01\x12\x34", "v", "\x01\x22\x34", "w"), extText("\x00\x01", sumOf(pair(1, 2, a, b))), pair(1, 2, a, b), a, b)
	a, b = leafText("\x03\x04", "v"), leafText("\x03\x04", "w") // the lower half
	add(itemsOf("\x01\x11\x34", "v", "\x01\x12\x34", "w"), extText("\x00\x01\x01", sumOf(pair(1, 2, a, b))), pair(1, 2, a, b), a, b)
	a, b = leafText("\x02", "v"), leafText("\x01", "w") // both halves
	add(itemsOf("\x01\x12", "v", "\x01\x21", "w"), extText("\x00\x01", sumOf(pair(1, 2, a, b))), pair(1, 2, a, b), a, b)
	a = leafText("\x02\x03\x04\x05", "v") // one key is much longer
	b = leafText("\x02", "w")
	add(itemsOf("\x12\x34\x50", "v", "\x22", "w"), pair(1, 2, leafText("\x02\x03\x04\x05\x00", "v"), b), leafText("\x02\x03\x04\x05\x00", "v"), b)

	own := func(v string, i int, kid string) string { return branchText(v, map[int]string{i: sumOf(kid)}) }
	a = leafText("\x00", "w") // one key goes on as the other: by one byte
	add(itemsOf("a", "v", "a\x00", "w"), extText("\x06\x01", sumOf(own("v", 0, a))), own("v", 0, a), a)
	a = leafText("\x02\x06\x03\x06\x04\x06\x05\x06\x06\x06\x07\x06\x08", "w") // by many
	add(itemsOf("a", most, "abcdefgh", "w"), extText("\x06\x01", sumOf(own(most, 6, a))), own(most, 6, a), a)
	a = leafText("\x08", "w") // the last byte that may be
	at = "\x06\x01\x06\x02\x06\x03\x06\x04\x06\x05\x06\x06\x06\x07"
	add(itemsOf("abcdefg", "v", "abcdefgh", "w"), extText(at, sumOf(own("v", 6, a))), own("v", 6, a), a)
	b = own("w", 6, leafText("\x03", "x")) // one behind the other: an extension below a branch
	ext := extText("\x02", sumOf(b))
	add(itemsOf("a", "v", "ab", "w", "abc", "x"), extText("\x06\x01", sumOf(own("v", 6, ext))), own("v", 6, ext), ext, b, leafText("\x03", "x"))
	b = pair(0, 1, leafText("", "w"), leafText("", "x")) // a branch right below a branch
	c := own("v", 0, b)
	add(itemsOf("a", "v", "a\x00", "w", "a\x01", "x"), extText("\x06\x01", sumOf(c)), c, b, leafText("", "w"), leafText("", "x"))

	var full []api.Item // sixteen kids, and those with an item besides
	var leaves []string
	kids := map[int]string{}
	for i := range 16 {
		full = append(full, api.Item{Key: string([]byte{byte(i*16 + 5)}), Value: strconv.Itoa(i)})
		leaves = append(leaves, leafText("\x05", strconv.Itoa(i)))
		kids[i] = sumOf(leaves[i])
	}
	add(full, append([]string{branchText("", kids)}, leaves...)...)
	below := itemsOf("a", "v")
	for _, x := range full {
		below = append(below, api.Item{Key: "a" + x.Key, Value: x.Value})
	}
	b = branchText("v", kids)
	add(below, append([]string{extText("\x06\x01", sumOf(b)), b}, leaves...)...)
	return l
}

func TestShapes(t *testing.T) {
	for i, c := range shapes() {
		back := slices.Clone(c.items)
		slices.Reverse(back)
		for _, items := range [][]api.Item{c.items, back, append(back, c.items...)} {
			x := trieOf(t, items)
			if l := x.Nodes(); !slices.Equal(l, c.nodes) || x.Root() != sumOf(c.nodes[0]) || x.Len() != len(c.items) {
				t.Fatalf("shape %d of %q: %q, want %q", i, items, l, c.nodes)
			}
			wantTrie(t, x, plainOf(c.items))
		}
	}
}

// TestShapesComeBack puts a key more to each shape, and lets it go: each time the nodes are what the words say.
func TestShapesComeBack(t *testing.T) {
	for _, c := range shapes() {
		x, p := trieOf(t, c.items), plainOf(c.items)
		keys := append(pool(), "a", "b", "\x61\x62", "abcdefg", "abcdefgi", "q", "ab0", "wwwwwwwq", "www", "\x01\x12\x35")
		for _, key := range keys {
			if p[key] != "" {
				continue
			}
			y := wantPut(t, x, key, "more")
			wantTrie(t, y, p.put(key, "more"))
			wantTrie(t, wantDel(t, y, key), p)
		}
		wantTrie(t, x, p)
		for key := range p { // and what the shape has goes: one item, and then the others
			y, q := wantDel(t, x, key), p.del(key)
			wantTrie(t, y, q)
			wantNone(t, y, key)
			wantTrie(t, wantPut(t, y, key, p[key]), p)
			for _, other := range keysOf(q.items()) {
				y, q = wantDel(t, y, other), q.del(other)
				wantTrie(t, y, q)
			}
			wantNone(t, y, keys...)
		}
	}
}

// TestDel has the cases of a branch that is none any more, written out.
func TestDel(t *testing.T) {
	one, two := leafText("", "1"), leafText("", "2")
	pair := branchText("", map[int]string{1: sumOf(one), 2: sumOf(two)})
	for _, c := range []struct {
		items []api.Item
		key   string
		nodes []string
	}{
		{itemsOf("a", "1"), "a", nil},
		{itemsOf("\x11", "1", "\x21", "2"), "\x21", []string{leafText("\x01\x01", "1")}},                               // one kid, a leaf
		{itemsOf("\x11", "1", "\x21", "2"), "\x11", []string{leafText("\x02\x01", "2")}},                               // the other one
		{itemsOf("a", "1", "b", "2"), "b", []string{leafText("\x06\x01", "1")}},                                        // below an extension
		{itemsOf("a", "1", "ab", "2"), "ab", []string{leafText("\x06\x01", "1")}},                                      // its own item
		{itemsOf("a", "1", "ab", "2"), "a", []string{leafText("\x06\x01\x06\x02", "2")}},                               // one kid, a leaf
		{itemsOf("a", "1", "b", "2", "\x01", "3"), "\x01", []string{extText("\x06", sumOf(pair)), pair, one, two}},     // one kid, an extension
		{itemsOf("p1", "1", "p2", "2", "q", "3"), "q", []string{extText("\x07\x00\x03", sumOf(pair)), pair, one, two}}, // an extension above an extension
		{itemsOf("p", "3", "pq1", "1", "pq2", "2"), "p", []string{extText("\x07\x00\x07\x01\x03", sumOf(pair)), pair, one, two}},
		{itemsOf("\x01\x01", "1", "\x01\x02", "2", "\x01\x11", "3"), "\x01\x11", []string{extText("\x00\x01\x00", sumOf(pair)), pair, one, two}}, // one kid, a branch
		{itemsOf("\x01", "1", "\x02", "2", "\x10", "3"), "\x10", []string{extText("\x00", sumOf(pair)), pair, one, two}},                         // with nothing above it
		{itemsOf("\x01", "1", "\x02", "2", "\x00", "3"), "\x00", []string{extText("\x00", sumOf(pair)), pair, one, two}},                         // two kids stay: a branch still
	} {
		x := trieOf(t, c.items)
		y := wantDel(t, x, c.key)
		if l := y.Nodes(); !slices.Equal(l, c.nodes) {
			t.Errorf("of %q without %q: %q, want %q", c.items, c.key, l, c.nodes)
		}
		wantTrie(t, y, plainOf(c.items).del(c.key))
		wantTrie(t, x, plainOf(c.items))
	}
}

// TestEveryChoiceOfKeys holds the tries of every choice of the pool's keys, and what they are with one key more or less, to the words.
func TestEveryChoiceOfKeys(t *testing.T) {
	keys := pool()
	plains, nodes, tries := make([]plain, 1<<len(keys)), make([][]spot, 1<<len(keys)), make([]*Trie, 1<<len(keys))
	for n := range plains {
		p, items := plain{}, []api.Item(nil)
		for i, key := range keys {
			if n>>i&1 == 1 {
				p[key] = "v" + strconv.Itoa(i)
				items = append(items, api.Item{Key: key, Value: p[key]})
			}
		}
		if n%2 == 1 {
			slices.Reverse(items)
		}
		plains[n], nodes[n], tries[n] = p, p.spots(), trieOf(t, items)
	}
	for n, x := range tries {
		wantSpots(t, x, plains[n], nodes[n])
		for i, key := range keys {
			other := n ^ 1<<i
			if plains[n][key] != "" {
				wantSpots(t, wantDel(t, x, key), plains[other], nodes[other])
				continue
			}
			wantNone(t, x, key)
			wantSpots(t, wantPut(t, x, key, plains[other][key]), plains[other], nodes[other])
		}
	}
	for n, x := range tries { // and again, behind all that was made of them
		wantSpots(t, x, plains[n], nodes[n])
	}
}

// TestTrailAndCover asks the tries of many choices of the pool's keys for all marks.
func TestTrailAndCover(t *testing.T) {
	keys := pool()
	for n := 0; n < 1<<len(keys); n += 13 {
		p := plain{}
		for i, key := range keys {
			if n>>i&1 == 1 {
				p[key] = "v"
			}
		}
		wantWays(t, trieOf(t, p.items()), p.spots(), marks())
	}
	for _, c := range shapes() {
		wantWays(t, trieOf(t, c.items), plainOf(c.items).spots(), append(keysOf(c.items), "", "a", "ab", "b", "\x01", "\x15\x00", "wwwwwwws", "\xff"))
	}
}

func TestTrail(t *testing.T) {
	x := trieOf(t, itemsOf("abc", "1", "abd", "2", "abcd", "3", "q", "4"))
	l := x.Nodes() // a branch; below 6 an extension, a branch, a branch with 1, a leaf of 3, a leaf of 2; below 7 a leaf of q
	for _, c := range []struct {
		key string
		at  []int
	}{
		{"abc", []int{0, 1, 2, 3}},
		{"abcd", []int{0, 1, 2, 3, 4}},
		{"abd", []int{0, 1, 2, 5}},
		{"q", []int{0, 6}},
		{"", []int{0}},
		{"a", []int{0, 1}},                 // it ends within an extension
		{"ab", []int{0, 1}},                // and there
		{"b", []int{0, 1}},                 // it goes on elsewhere within it
		{"abe", []int{0, 1, 2}},            // no kid
		{"abce", []int{0, 1, 2, 3, 4}},     // 6 5, and the leaf is of 6 4
		{"abct", []int{0, 1, 2, 3}},        // no kid
		{"abcdefgh", []int{0, 1, 2, 3, 4}}, // on behind a leaf
		{"abcdefghijkl", []int{0, 1, 2, 3, 4}},
		{"qq", []int{0, 6}},
		{"r", []int{0, 6}},
		{"\x00", []int{0}},
		{"\xff\xff", []int{0}},
		{strings.Repeat("q", 1<<16), []int{0, 6}},
	} {
		var want []string
		for _, i := range c.at {
			want = append(want, l[i])
		}
		if got := x.Trail(c.key); !slices.Equal(got, want) {
			t.Errorf("Trail(%.20q) = %q, want %q", c.key, got, want)
		}
	}
	k := trieOf(t, itemsOf("k", "v"))
	for _, key := range marks() {
		if got := k.Trail(key); !slices.Equal(got, k.Nodes()) {
			t.Errorf("of one leaf Trail(%q) = %q", key, got)
		}
	}
}

func TestCover(t *testing.T) {
	x := trieOf(t, itemsOf("abc", "1", "abd", "2", "abcd", "3", "q", "4"))
	l := x.Nodes() // as in TestTrail; their places: none; 6; 6 1 6 2 6; with 3, below it 6; with 4; 7
	for _, c := range []struct {
		from, end string
		at        []int
	}{
		{"", "", []int{0, 1, 2, 3, 4, 5, 6}},
		{"", "abc", []int{0, 1, 2}},        // the place of 1 is just end's
		{"", "abc\x00", []int{0, 1, 2, 3}}, // end lies below it
		{"", "abcd", []int{0, 1, 2, 3, 4}}, // the leaf of 3 stands ahead of end
		{"", "abd", []int{0, 1, 2, 3, 4}},  // just the place of 2
		{"", "abd\x00", []int{0, 1, 2, 3, 4, 5}},
		{"", "q", []int{0, 1, 2, 3, 4, 5, 6}},
		{"", "p", []int{0, 1, 2, 3, 4, 5, 6}}, // 7 0: some below 7 may be below it
		{"", "\x70", []int{0, 1, 2, 3, 4, 5, 6}},
		{"", "\x6f", []int{0, 1, 2, 3, 4, 5}},
		{"", "a", []int{0, 1}},
		{"", "\x01", []int{0}},
		{"abc", "", []int{0, 1, 2, 3, 4, 5, 6}},
		{"abc\x60", "", []int{0, 1, 2, 3, 4, 5, 6}}, // just the place of 3
		{"abc\x70", "", []int{0, 1, 2, 3, 5, 6}},    // keys that go on as abc may be above it
		{"abc\x7f", "abd", []int{0, 1, 2, 3}},
		{"abd", "", []int{0, 1, 2, 5, 6}}, // just the place of 2
		{"abd\x00", "", []int{0, 1, 2, 5, 6}},
		{"abe", "", []int{0, 1, 2, 6}},
		{"q", "", []int{0, 6}},
		{"r", "", []int{0, 6}},
		{"\x80", "", []int{0}},
		{"abc", "abc", []int{0, 1, 2}}, // no key is in the range, and all below these may be
		{"abd", "abc", []int{0, 1, 2}}, // from above end
		{"q", "abc", []int{0}},
		{"q", "p", []int{0, 6}},
		{"\xff", "\x00", []int{0}},
		{"abc", "abcd", []int{0, 1, 2, 3, 4}},
		{"abca", "abcb", []int{0, 1, 2, 3, 4}},
		{"abcdefghi", "abcdefghj", []int{0, 1, 2, 3, 4}},
		{"abce", "abcg", []int{0, 1, 2, 3, 4}},
	} {
		var want []string
		for _, i := range c.at {
			want = append(want, l[i])
		}
		if got := x.Cover(c.from, c.end); !slices.Equal(got, want) {
			t.Errorf("Cover(%q, %q) = %q, want %q", c.from, c.end, got, want)
		}
	}
}

func TestRefusals(t *testing.T) {
	full := trieOf(t, many(1024))
	some := trieOf(t, itemsOf("a", "1", "b", "2", "ab", "3"))
	for i, x := range []*Trie{New(), some, full} {
		was, items := x.Root(), x.Items()
		for _, key := range []string{"", "abcdefghi", "\x00\x00\x00\x00\x00\x00\x00\x00\x00", strings.Repeat("k", 1<<16)} {
			if value, e := x.Get(key); value != "" || e != api.ErrRange {
				t.Errorf("Get(%.20q) = %q, %d", key, value, e)
			}
			if y, e := x.Del(key); y != nil || e != api.ErrRange {
				t.Errorf("Del(%.20q) = %v, %d", key, y, e)
			}
			for _, value := range []string{"v", "", most, most + "m", strings.Repeat("v", 1<<16)} { // ErrLong besides; of the full one for the item, too
				if y, e := x.Put(key, value); y != nil || e != api.ErrRange {
					t.Errorf("Put(%.20q, %.40q) = %v, %d", key, value, y, e)
				}
			}
		}
		for _, key := range []string{"a", "\x00\x00", "abcdefgh", "\xff"} {
			for _, value := range []string{"", most + "m", strings.Repeat("v", 1<<16)} {
				if y, e := x.Put(key, value); y != nil || e != api.ErrLong {
					t.Errorf("Put(%q, %.40q) = %v, %d", key, value, y, e)
				}
			}
		}
		wantNone(t, x, "c", "abc", "\x61\x00", "abcdefgh", "`", "\x00", "\x00\x00\x00", "\x04\x00", "\x03\xff\x00")
		if x.Root() != was || !slices.Equal(x.Items(), items) {
			t.Errorf("trie %d is another one", i)
		}
	}
}

func TestLimits(t *testing.T) {
	for _, key := range []string{"a", "\x00", "\xff", "ab", "abcdefg", "abcdefgh", "\x00\x00\x00\x00\x00\x00\x00\x00", strings.Repeat("\xff", 8)} {
		for _, value := range []string{"v", "\x00", "vw", most[:31], most, strings.Repeat("\xff", 32)} {
			wantTrie(t, wantPut(t, New(), key, value), plain{key: value})
			wantTrie(t, trieOf(t, itemsOf(key, value, "q", most)), plain{key: value, "q": most})
		}
	}
}

func TestFullTrie(t *testing.T) {
	l := many(1024)
	p := plainOf(l)
	x := trieOf(t, l[:1023])
	wantTrie(t, x, plainOf(l[:1023]))
	x = wantPut(t, x, l[1023].Key, l[1023].Value)
	wantTrie(t, x, p)
	for _, key := range []string{"a", "\x00", "\x04\x00", "\x03\xff\x00", "\xff\xff\xff\xff\xff\xff\xff\xff"} {
		if y, e := x.Put(key, "v"); y != nil || e != api.ErrLong {
			t.Errorf("Put(%q) = %v, %d", key, y, e)
		}
	}
	y := wantPut(t, x, l[512].Key, "another") // there is one of this key
	wantTrie(t, y, p.put(l[512].Key, "another"))
	z := wantDel(t, y, l[7].Key)
	wantTrie(t, z, p.put(l[512].Key, "another").del(l[7].Key))
	if w, e := y.Put("a", "v"); w != nil || e != api.ErrLong {
		t.Errorf("behind one that is put anew: %v, %d", w, e)
	}
	z = wantPut(t, z, "a", "v") // there is room again
	wantTrie(t, z, p.put(l[512].Key, "another").del(l[7].Key).put("a", "v"))
	if w, e := z.Put(l[7].Key, "v"); w != nil || e != api.ErrLong {
		t.Errorf("full again: %v, %d", w, e)
	}
	wantTrie(t, x, p)
	for _, key := range keysOf(l) { // all go
		x = wantDel(t, x, key)
	}
	wantTrie(t, x, nil)
}

func TestOf(t *testing.T) {
	l := many(1024)
	twice := append(slices.Clone(l), l...)
	wantTrie(t, trieOf(t, twice), plainOf(l))
	wantTrie(t, trieOf(t, itemsOf("a", "1", "b", "2", "a", "3", "a", "4", "b", "5")), plain{"a": "4", "b": "5"}) // the last one of each key
	with := func(l []api.Item, more ...string) []api.Item { return append(slices.Clone(l), itemsOf(more...)...) }
	for _, c := range []struct {
		l []api.Item
		e api.Code
	}{
		{itemsOf("", "v"), api.ErrRange},
		{itemsOf("abcdefghi", "v"), api.ErrRange},
		{itemsOf("a", ""), api.ErrLong},
		{itemsOf("a", most+"m"), api.ErrLong},
		{itemsOf("", ""), api.ErrRange}, // both hold
		{itemsOf("abcdefghi", most+"m"), api.ErrRange},
		{itemsOf("a", "1", "b", "", "", "v"), api.ErrLong}, // the first one in order
		{itemsOf("a", "1", "", "v", "b", ""), api.ErrRange},
		{itemsOf("a", "1", "b", "2", "", ""), api.ErrRange}, // the last one alone
		{itemsOf("a", "1", "a", ""), api.ErrLong},           // of a key that is there
		{with(l, "a", "v"), api.ErrLong},
		{with(l, "\x00\x01", "v", "a", "v", "", "v"), api.ErrLong},
		{with(l, "", "v", "a", "v"), api.ErrRange},
		{with(l, "\x00\x01", ""), api.ErrLong},
		{with(twice, "\x00", "v"), api.ErrLong},
		{many(1025), api.ErrLong},
		{append(many(1025), itemsOf("", "v")...), api.ErrLong},
		{append(itemsOf("", "v"), many(1025)...), api.ErrRange},
		{many(4096), api.ErrLong},
	} {
		if x, e := Of(c.l); x != nil || e != c.e {
			t.Errorf("Of %d items, the last ones %q = %v, %d, want %d", len(c.l), c.l[max(0, len(c.l)-3):], x, e, c.e)
		}
	}
	full := with(l, "\x00\x01", "v", "\x03\xff", "w")
	wantTrie(t, trieOf(t, full), plainOf(full))
}

// orders hands all orders of l to visit.
func orders(l []string, visit func([]string)) {
	var from func(n int)
	from = func(n int) {
		if n == len(l) {
			visit(l)
			return
		}
		for i := n; i < len(l); i++ {
			l[n], l[i] = l[i], l[n]
			from(n + 1)
			l[n], l[i] = l[i], l[n]
		}
	}
	from(0)
}

// TestAnyOrder puts and lets go the same keys in all orders, others beside them, and comes to the same nodes.
func TestAnyOrder(t *testing.T) {
	p := plain{"\x11": "1", "\x11\x11": "2", "\x11\x12": "3", "\x12": "4", "\x21\x11\x11": "5"}
	nodes, n := p.spots(), 0
	others := []string{"\x11\x11\x11", "\x10", "\x11\x13", "\x21", "\x21\x11\x11\x11", "\x21\x12", "\xff"}
	orders(keysOf(p.items()), func(l []string) {
		n++
		x, other := New(), others[n%len(others)]
		for i, key := range l {
			if i == n%4 {
				x = wantPut(t, x, other, "other")
			}
			x = wantPut(t, x, key, "first")
		}
		for _, key := range l {
			x = wantPut(t, x, key, p[key])
		}
		x = wantDel(t, x, other)
		wantSpots(t, x, p, nodes)
		q := p
		for _, key := range l {
			x, q = wantDel(t, x, key), q.del(key)
			wantTrie(t, x, q)
		}
	})
	if n != 120 {
		t.Fatal(n)
	}
}

// TestValuesAnew puts the same keys with other values: the nodes ahead are what they were.
func TestValuesAnew(t *testing.T) {
	for _, c := range shapes() {
		x, p := trieOf(t, c.items), plainOf(c.items)
		for key, value := range p {
			for _, other := range []string{"x", most, value, "\x00"} {
				y := wantPut(t, x, key, other)
				wantTrie(t, y, p.put(key, other))
				if y.Root() == x.Root() != (other == value) {
					t.Errorf("of %q, %q in the place of %q: the same root", key, other, value)
				}
				wantTrie(t, wantPut(t, y, key, value), p)
			}
		}
		wantTrie(t, x, p)
	}
}

// TestTriesAheadStay reads all tries of a long line of changes again at its end; and tries that go on from one in two ways.
func TestTriesAheadStay(t *testing.T) {
	r := rand.New(rand.NewSource(10))
	tries, plains := []*Trie{New()}, []plain{{}}
	for n := range 300 {
		at := r.Intn(len(tries))
		if n%2 == 0 {
			at = len(tries) - 1
		}
		x, p, key := tries[at], plains[at], pool()[r.Intn(len(pool()))]
		if p[key] != "" && r.Intn(2) == 0 {
			tries, plains = append(tries, wantDel(t, x, key)), append(plains, p.del(key))
			continue
		}
		value := strconv.Itoa(n)
		tries, plains = append(tries, wantPut(t, x, key, value)), append(plains, p.put(key, value))
	}
	for i, x := range tries {
		wantTrie(t, x, plains[i])
	}
}

// TestPartsAreShared plants a sum, to see that a change writes no part that an older trie has.
func TestPartsAreShared(t *testing.T) {
	x := trieOf(t, itemsOf("\x11", "1", "\x21", "2", "\x31", "3"))
	kids := x.top.kids
	kids[3].sum = absent()
	for _, y := range []*Trie{wantPut(t, x, "\x22", "4"), wantPut(t, x, "\x41", "4"), wantPut(t, x, "\x21", "4"), wantDel(t, x, "\x21")} {
		if y.top.kids[1] != kids[1] || y.top.kids[3] != kids[3] || kids[3].sum != absent() || !strings.Contains(y.Nodes()[0], absent()) {
			t.Errorf("of %q a part was made anew that is as it was", y.Items())
		}
	}
}

// TestListsHandedOutAreNew changes lists that were handed out, their spare room too.
func TestListsHandedOutAreNew(t *testing.T) {
	items := itemsOf("a", "1", "ab", "2", "b", "3")
	x, p := trieOf(t, items), plainOf(items)
	for range 2 {
		for _, l := range [][]string{x.Nodes(), x.Trail("ab"), x.Cover("", ""), x.Cover("a", "b")} {
			l = l[:cap(l)]
			for i := range l {
				l[i] = "changed"
			}
		}
		l := x.Items()
		l = l[:cap(l)]
		for i := range l {
			l[i] = api.Item{Key: "changed", Value: "changed"}
		}
		wantTrie(t, x, p)
		wantWays(t, x, p.spots(), []string{"", "a", "ab", "b"})
	}
	a, b := x.Nodes(), x.Nodes()
	a[0] = "changed"
	if !slices.Equal(b, all(p.spots())) {
		t.Errorf("another list is %q", b)
	}
}

// TestListsHandedInStay holds Of to changing no list, nor what lies behind its length, and to keeping none.
func TestListsHandedInStay(t *testing.T) {
	was := itemsOf("b", "1", "a", "2", "b", "3", "", "4", "c", "5")
	l := slices.Clone(was)
	x := trieOf(t, l[:3])
	if y, e := Of(l[:4]); y != nil || e != api.ErrRange {
		t.Errorf("%v, %d", y, e)
	}
	if !slices.Equal(l, was) {
		t.Errorf("the list is %q", l)
	}
	for i := range l {
		l[i] = api.Item{Key: "q", Value: "q"}
	}
	wantTrie(t, x, plain{"a": "2", "b": "3"})
}

// lieOf is texts that lie in memory which a test can change.
type lieOf []byte

func (l lieOf) text(from, size int) string { return unsafe.String(&l[from], size) }

// placesIn is where the texts of a trie's parts lie.
func placesIn(x *Trie) map[*byte]int {
	places := map[*byte]int{}
	x.top.walk("", func(p *part, place string) bool {
		for _, s := range []string{p.path, p.value, p.sum} {
			if s != "" {
				places[unsafe.StringData(s)] = 1
			}
		}
		return true
	})
	return places
}

// TestTextsAreNotShared looks at where the texts lie: nothing else could tell.
func TestTextsAreNotShared(t *testing.T) {
	lie := lieOf("k1" + "value1" + "k2" + "value2" + "k23" + "value3")
	p := plain{"k1": "value1", "k2": "value2", "k23": "value3"}
	x := trieOf(t, []api.Item{{Key: lie.text(0, 2), Value: lie.text(2, 6)}, {Key: lie.text(8, 2), Value: lie.text(10, 6)}})
	x = wantPut(t, x, lie.text(16, 3), lie.text(19, 6))
	var told []string
	for range 2 {
		told = append(told, x.Root())
		told = slices.Concat(told, x.Nodes(), x.Trail("k2"), x.Cover("k1", "k2"), x.Cover("", ""))
		for _, item := range x.Items() {
			told = append(told, item.Key, item.Value)
		}
		for _, key := range keysOf(p.items()) {
			value, _ := x.Get(key)
			told = append(told, value)
		}
	}
	places := placesIn(x)
	for i, s := range told {
		if places[unsafe.StringData(s)] != 0 {
			t.Errorf("text %d, %q, lies where another one does", i, s)
		}
		places[unsafe.StringData(s)] = 2
	}
	for i := range lie {
		lie[i] = '!'
	}
	wantTrie(t, x, p)
}

// play holds tries to the words behind any calls: each 4 bytes of steps are one.
func play(t *testing.T, steps string) {
	t.Helper()
	tries, plains := []*Trie{New()}, []plain{{}}
	for n := 0; len(steps) >= 4 && n < 80; n, steps = n+1, steps[4:] {
		at := len(tries) - 1 - int(steps[1]>>4)%min(4, len(tries))
		x, p, key := tries[at], plains[at], keyBy(steps[2:4])
		value := steps[:1+steps[1]%4]
		switch {
		case steps[0] >= 96:
			tries, plains = append(tries, wantPut(t, x, key, value)), append(plains, p.put(key, value))
		case p[key] == "":
			wantNone(t, x, key)
		default:
			tries, plains = append(tries, wantDel(t, x, key)), append(plains, p.del(key))
		}
		last := len(tries) - 1
		wantTrie(t, tries[last], plains[last])
		wantWays(t, tries[last], plains[last].spots(), []string{key, key[:1], key + "\x00", ""})
	}
	for i, x := range tries {
		wantTrie(t, x, plains[i])
	}
}

// keyBy is a key of 1 to 8 bytes, by two bytes: of few bytes, so that keys have much in common.
func keyBy(s string) string {
	var l []byte
	for i := range 1 + s[0]%8 {
		l = append(l, [...]byte{0x11, 0x12, 0x21, 0xff}[s[1]>>(i%4*2)&3])
	}
	return string(l)
}

func TestAnyCalls(t *testing.T) {
	r := rand.New(rand.NewSource(10))
	for range 60 {
		steps := make([]byte, 320)
		for i := range steps {
			steps[i] = byte(r.Intn(256))
		}
		play(t, string(steps))
	}
}

func FuzzTrie(f *testing.F) {
	f.Add("")
	f.Add("\xff\x00\x00\x00\xff\x00\x01\x00\xff\x00\x01\x01\x00\x00\x00\x00\x00\x00\x01\x00\x00\x10\x01\x01")
	f.Add("\xff\x00\x07\x00\xff\x00\x07\x55\xff\x00\x03\xaa\xff\x01\x03\xff\x00\x00\x03\xaa\xff\x20\x06\x39\x00\x00\x07\x55\x00\x00\x07\x00")
	f.Fuzz(play)
}
