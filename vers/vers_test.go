package vers

import (
	"crypto/sha256"
	"encoding/hex"
	"math"
	"math/rand"
	"slices"
	"strconv"
	"strings"
	"testing"
	"unsafe"

	"pharos/api"
	"pharos/store"
	"pharos/trie"
)

// one is a change alone.
func one(key, value string) api.Item { return api.Item{Key: key, Value: value} }

// many is n items of keys of two bytes, rising.
func many(n int) []api.Item {
	var l []api.Item
	for i := range n {
		l = append(l, one(string([]byte{byte(i >> 8), byte(i)}), "v"+strconv.Itoa(i)))
	}
	return l
}

// without is changes by which all items of l go.
func without(l []api.Item) []api.Item {
	l = slices.Clone(l)
	for i := range l {
		l[i].Value = ""
	}
	return l
}

// versionsAt is versions of these heights, each with an item more than the one ahead, and one that changes.
func versionsAt(t *testing.T, heights ...int) *both {
	t.Helper()
	b := begin(t)
	for i, height := range heights {
		if e := b.commit(height, one("k"+strconv.Itoa(i), "v"), one("a", strconv.Itoa(i))); e != api.OK {
			t.Fatalf("Commit(%d): %d", height, e)
		}
	}
	return b
}

// heightSets is heights of versions, none, one and many.
func heightSets() [][]int {
	return [][]int{nil, {0}, {1}, {5}, {1 << 20}, {0, 1}, {0, 1 << 20}, {3, 5, 9}, {0, 1, 2, 3, 4}, {1<<20 - 2, 1<<20 - 1, 1 << 20}}
}

func TestExample(t *testing.T) {
	b := begin(t)
	b.wantCommit(api.OK, 1, one("a", "1"))
	b.wantCommit(api.OK, 2, one("a", "2"))
	x, e := b.v.At(1)
	if e != api.OK {
		t.Fatal(e)
	}
	if value, e := x.Get("a"); value != "1" || e != api.OK {
		t.Errorf("Get = %q, %d", value, e)
	}
	if n := b.prune(2); n != 1 {
		t.Errorf("Prune = %d", n)
	}
	if x, e := b.v.At(1); x != nil || e != api.ErrOld {
		t.Errorf("At = %v, %d", x, e)
	}
	b.want()
}

// TestRootsWrittenDown has roots that were worked out from the nodes' bytes by Go's own library.
func TestRootsWrittenDown(t *testing.T) {
	sumOf := func(text string) string {
		s := sha256.Sum256([]byte("\x01" + text))
		return string(s[:])
	}
	leaf := func(value string) string { return "\x01" + "\x01\x01\x20" + "\x01\x01" + value }                    // of nothing left
	alone := func(value string) string { return "\x01" + "\x01\x02\x20\x61" + "\x01\x01" + value }               // of the key a
	branch := func(a, b string) string { return "\x03" + "\x60\x00" + sumOf(leaf(a)) + sumOf(leaf(b)) + "\x00" } // kids 1 and 2
	ext := func(a, b string) string { return "\x02" + "\x01\x01\x16" + sumOf(branch(a, b)) }
	v := New()
	for i, c := range []struct {
		changes []api.Item
		root    string
		texts   int
	}{
		{changesOf("a", "1"), sumOf(alone("1")), 1},
		{changesOf("b", "2"), sumOf(ext("1", "2")), 5},
		{changesOf("b", "3"), sumOf(ext("1", "3")), 8},            // the leaf of a is that of the version ahead
		{changesOf("b", "1"), sumOf(ext("1", "1")), 10},           // two leaves of one sum
		{changesOf("a", "2", "b", "2"), sumOf(ext("2", "2")), 12}, // a leaf that an older one has
		{changesOf("a", "", "c", ""), sumOf("\x01" + "\x01\x02\x20\x62" + "\x01\x01" + "2"), 13},
		{changesOf("b", "", "a", "1"), sumOf(alone("1")), 13}, // as it was at first
		{changesOf("a", ""), "", 13},
		{nil, "", 13},
		{changesOf("a", "1"), sumOf(alone("1")), 13},
	} {
		root, e := v.Commit(i, c.changes)
		if root != c.root || e != api.OK || v.Texts() != c.texts {
			t.Fatalf("version %d: %x, %d, %d texts, want %x, %d texts", i, root, e, v.Texts(), c.root, c.texts)
		}
		if again, e := v.Root(i); again != root || e != api.OK {
			t.Errorf("Root(%d) = %x, %d", i, again, e)
		}
	}
	if s := hex.EncodeToString([]byte(sumOf(alone("1")))); s != "b360462173d44891ef7b92f047034934f59fa7826d894947dfff943b7a3a26d2" {
		t.Errorf("of a, 1 alone: %s", s)
	}
}

func TestNoVersions(t *testing.T) {
	b := begin(t)
	b.want()
	for range 2 {
		if l, n := b.v.Heights(), b.v.Texts(); len(l) != 0 || n != 0 {
			t.Errorf("%v, %d texts", l, n)
		}
		for _, height := range b.p.numbers() {
			if root, e := b.v.Root(height); root != "" || e != api.ErrNone {
				t.Errorf("Root(%d) = %x, %d", height, root, e)
			}
			if x, e := b.v.At(height); x != nil || e != api.ErrNone {
				t.Errorf("At(%d) = %v, %d", height, x, e)
			}
		}
	}
	for _, height := range []int{-1, 1<<20 + 1} {
		b.wantCommit(api.ErrRange, height)
	}
	b.wantCommit(api.ErrRange, 0, one("", "1"))
	b.wantCommit(api.ErrLong, 0, one("a", strings.Repeat("v", 33)))
	b.wantPrune(0, 0)
}

// TestNewOnes are not one another's.
func TestNewOnes(t *testing.T) {
	a, b := begin(t), begin(t)
	a.wantCommit(api.OK, 7, one("a", "1"))
	b.want()
	b.wantCommit(api.OK, 3, one("b", "2"))
	a.wantPrune(0, 9)
	b.want()
	b.wantCommit(api.OK, 4)
	a.want()
	begin(t).want()
}

func TestCommitOfHeights(t *testing.T) {
	for _, c := range []struct {
		heights []int
		height  int
		want    api.Code
	}{
		{nil, 0, api.OK},
		{nil, 1 << 20, api.OK},
		{nil, 1<<20 - 1, api.OK},
		{nil, -1, api.ErrRange},
		{nil, 1<<20 + 1, api.ErrRange},
		{nil, 1 << 21, api.ErrRange},
		{nil, math.MinInt, api.ErrRange},
		{nil, math.MaxInt, api.ErrRange},
		{nil, 1 << 32, api.ErrRange},
		{nil, -1 << 32, api.ErrRange},
		{[]int{0}, 0, api.ErrOld},
		{[]int{0}, 1, api.OK},
		{[]int{0}, -1, api.ErrRange},
		{[]int{0}, 1 << 20, api.OK},
		{[]int{5}, 4, api.ErrOld}, // never was, and one above it was
		{[]int{5}, 5, api.ErrOld},
		{[]int{5}, 6, api.OK},
		{[]int{5}, 0, api.ErrOld},
		{[]int{3, 5}, 2, api.ErrOld},
		{[]int{3, 5}, 3, api.ErrOld},
		{[]int{3, 5}, 4, api.ErrOld},
		{[]int{3, 5}, 5, api.ErrOld},
		{[]int{3, 5}, 6, api.OK},
		{[]int{3, 5}, 7, api.OK},
		{[]int{1 << 20}, 1 << 20, api.ErrOld},
		{[]int{1 << 20}, 1<<20 - 1, api.ErrOld},
		{[]int{1 << 20}, 1<<20 + 1, api.ErrRange},
		{[]int{1<<20 - 1}, 1 << 20, api.OK},
	} {
		versionsAt(t, c.heights...).wantCommit(c.want, c.height, one("c", "1"))
		versionsAt(t, c.heights...).wantCommit(c.want, c.height)
	}
}

// TestCommitOfChanges has each list's changes in a version behind one of a, 1 and b, 2, and in one behind none.
func TestCommitOfChanges(t *testing.T) {
	long := strings.Repeat("v", 32)
	for _, c := range []struct{ changes, want, alone []api.Item }{
		{nil, changesOf("a", "1", "b", "2"), nil},
		{[]api.Item{}, changesOf("a", "1", "b", "2"), nil},
		{changesOf("c", "3"), changesOf("a", "1", "b", "2", "c", "3"), changesOf("c", "3")},
		{changesOf("a", "3"), changesOf("a", "3", "b", "2"), changesOf("a", "3")},
		{changesOf("a", "1"), changesOf("a", "1", "b", "2"), changesOf("a", "1")}, // as it is
		{changesOf("a", ""), changesOf("b", "2"), nil},
		{changesOf("c", ""), changesOf("a", "1", "b", "2"), nil}, // of no item
		{changesOf("ab", ""), changesOf("a", "1", "b", "2"), nil},
		{changesOf("a", "", "a", ""), changesOf("b", "2"), nil}, // gone already
		{changesOf("a", "", "b", ""), nil, nil},
		{changesOf("b", "", "a", ""), nil, nil},
		{changesOf("a", "", "a", "3"), changesOf("a", "3", "b", "2"), changesOf("a", "3")}, // one behind the other
		{changesOf("a", "3", "a", ""), changesOf("b", "2"), nil},
		{changesOf("a", "3", "a", "4"), changesOf("a", "4", "b", "2"), changesOf("a", "4")},
		{changesOf("a", "4", "a", "3", "a", "5", "a", "4"), changesOf("a", "4", "b", "2"), changesOf("a", "4")},
		{changesOf("c", "3", "c", ""), changesOf("a", "1", "b", "2"), nil},
		{changesOf("c", "", "c", "3"), changesOf("a", "1", "b", "2", "c", "3"), changesOf("c", "3")},
		{changesOf("a", "2", "b", "1"), changesOf("a", "2", "b", "1"), changesOf("a", "2", "b", "1")},
		{changesOf("abcdefgh", long), changesOf("a", "1", "abcdefgh", long, "b", "2"), changesOf("abcdefgh", long)}, // as long as they may be
		{changesOf("abcdefgh", ""), changesOf("a", "1", "b", "2"), nil},
		{changesOf("\x00", "\x00", "\xff", "\xff"), changesOf("\x00", "\x00", "a", "1", "b", "2", "\xff", "\xff"), changesOf("\x00", "\x00", "\xff", "\xff")},
		{changesOf("a\x00", "3", "a", ""), changesOf("a\x00", "3", "b", "2"), changesOf("a\x00", "3")},
	} {
		for _, ahead := range [][]api.Item{changesOf("a", "1", "b", "2"), nil} {
			b, want := begin(t), c.alone
			if ahead != nil {
				b.wantCommit(api.OK, 4, ahead...)
				want = c.want
			}
			b.wantCommit(api.OK, 9, c.changes...)
			x, e := b.v.At(9)
			if e != api.OK || !slices.Equal(x.Items(), want) {
				t.Fatalf("%q behind %q: %q, want %q", c.changes, ahead, x.Items(), want)
			}
		}
	}
}

func TestCommitRefusesChanges(t *testing.T) {
	long, key := strings.Repeat("v", 33), "abcdefghi"
	for _, c := range []struct {
		changes []api.Item
		want    api.Code
	}{
		{changesOf("", "1"), api.ErrRange},
		{changesOf(key, "1"), api.ErrRange},
		{changesOf(strings.Repeat("k", 1<<16), "1"), api.ErrRange},
		{changesOf("", ""), api.ErrRange}, // that goes
		{changesOf(key, ""), api.ErrRange},
		{changesOf(strings.Repeat("k", 1<<16), ""), api.ErrRange},
		{changesOf("a", long), api.ErrLong},
		{changesOf("c", long), api.ErrLong},
		{changesOf("c", strings.Repeat("v", 1<<16)), api.ErrLong},
		{changesOf("", long), api.ErrRange}, // two at once
		{changesOf(key, long), api.ErrRange},
		{changesOf("", "1", "a", long), api.ErrRange}, // from its front on
		{changesOf("a", long, "", "1"), api.ErrLong},
		{changesOf("", "", "a", long), api.ErrRange},
		{changesOf("a", long, "", ""), api.ErrLong},
		{changesOf("a", long, key, ""), api.ErrLong},
		{changesOf("c", "3", "", "1"), api.ErrRange}, // a later one
		{changesOf("c", "3", "a", "", "b", "4", key, ""), api.ErrRange},
		{changesOf("c", "3", "a", "", "b", "4", "d", long), api.ErrLong},
		{changesOf("c", "", "", "1"), api.ErrRange}, // behind one of no item
		{changesOf("a", "", "b", "", "", ""), api.ErrRange},
		{changesOf("", "1", "c", "3"), api.ErrRange}, // an earlier one
		{changesOf("", "", "a", ""), api.ErrRange},
		{changesOf("d", long, "d", "1"), api.ErrLong},
		{changesOf("d", long, "d", ""), api.ErrLong},
	} {
		b := begin(t)
		b.wantCommit(c.want, 0, c.changes...)
		b.wantCommit(api.OK, 4, changesOf("a", "1", "b", "2")...)
		b.wantCommit(c.want, 5, c.changes...)
		b.wantCommit(c.want, 1<<20, c.changes...)
		b.wantCommit(api.OK, 5, one("c", "1")) // the height is still to be had, and nothing of the changes is there
		b.wantCommit(c.want, 6, c.changes...)
		b.wantPrune(1, 5)
		b.wantCommit(c.want, 6, c.changes...)
		b.wantCommit(api.OK, 6, one("c", ""))
	}
}

// TestErrorsInOrder has causes of two errors at once.
func TestErrorsInOrder(t *testing.T) {
	long := strings.Repeat("v", 33)
	b := versionsAt(t, 3, 5)
	for _, changes := range [][]api.Item{nil, changesOf("a", "1"), changesOf("", "1"), changesOf("", ""), changesOf("a", long), changesOf("a", "1", "b", long)} {
		for _, height := range []int{-1, math.MinInt, 1<<20 + 1, math.MaxInt} {
			b.wantCommit(api.ErrRange, height, changes...)
		}
		for _, height := range []int{0, 2, 3, 4, 5} {
			b.wantCommit(api.ErrOld, height, changes...)
		}
	}
	b.wantPrune(1, 8)
	for _, changes := range [][]api.Item{nil, changesOf("a", "1"), changesOf("", "1"), changesOf("a", long)} {
		b.wantCommit(api.ErrOld, 6, changes...)
		b.wantCommit(api.ErrOld, 7, changes...)
		b.wantCommit(api.ErrRange, -1, changes...)
	}
	b.wantCommit(api.ErrRange, 8, one("", long))
	b.wantCommit(api.ErrLong, 8, one("a", long))
	b.wantPrune(0, math.MaxInt)
	b.wantCommit(api.ErrRange, 1<<20+1)
	b.wantCommit(api.ErrRange, math.MaxInt)
	b.wantCommit(api.ErrRange, -1)
	b.wantCommit(api.ErrOld, 1<<20, one("", "1"))
	b.wantCommit(api.ErrOld, 8, one("a", long))
}

// TestAllItems has as many items as a trie may have.
func TestAllItems(t *testing.T) {
	full := many(1 << 10)
	b := begin(t)
	b.wantCommit(api.ErrLong, 0, append(slices.Clone(full), one("more", "1"))...)
	b.wantCommit(api.ErrLong, 0, append(append(slices.Clone(full), one("more", "1")), one("", "1"))...)
	b.wantCommit(api.OK, 0, full[1:]...)
	b.wantCommit(api.ErrLong, 1, full[0], one("more", "1"))
	b.wantCommit(api.OK, 1, full[0])
	last := full[1023].Key
	for _, c := range []struct {
		want    api.Code
		changes []api.Item
	}{
		{api.ErrLong, changesOf("more", "1")},
		{api.ErrLong, changesOf(last, "1", "more", "1")},
		{api.ErrLong, changesOf("more", "1", last, "")}, // one after the other: it is one too many there
		{api.ErrLong, changesOf(last, "", last, "2", "more", "1")},
		{api.ErrLong, changesOf(last, "", "more", "1", last, "2")},
		{api.ErrLong, changesOf("more", "", "more", "1")}, // of no item
		{api.ErrLong, changesOf("more", "1", "", "1")},
		{api.ErrLong, changesOf("more", "1", "", "")},
		{api.ErrRange, changesOf("", "1", "more", "1")},
		{api.ErrRange, changesOf("", "1")},
		{api.ErrRange, changesOf("", "", "more", "1")},
		{api.ErrLong, changesOf(last, strings.Repeat("v", 33))},
	} {
		b.wantCommit(c.want, 2, c.changes...)
	}
	b.wantCommit(api.OK, 2, one(last, "1"))
	b.wantCommit(api.OK, 3, one(last, ""), one("more", "1"))
	b.wantCommit(api.OK, 4, one("more", "2"), one("more", ""), one(last, "2"), one("none", ""))
	b.wantCommit(api.ErrLong, 5, one("more", "1"))
	b.wantCommit(api.OK, 5, without(full)...)
	b.wantCommit(api.OK, 6, full...)
	b.wantPrune(5, 5)
	b.wantPrune(1, 6)
	if b.v.Texts() != b.p.texts() || len(b.v.Heights()) != 1 {
		t.Errorf("%d texts, %v", b.v.Texts(), b.v.Heights())
	}
	b.wantCommit(api.ErrLong, 7, one("more", "1"))
	b.wantCommit(api.OK, 7, without(full)...)
	b.wantPrune(1, 7)
	if b.v.Texts() != 0 {
		t.Errorf("%d texts of no items", b.v.Texts())
	}
}

// TestVersionsOfNoItems have the root "", and no texts.
func TestVersionsOfNoItems(t *testing.T) {
	b := begin(t)
	b.wantCommit(api.OK, 0)
	b.wantCommit(api.OK, 1, one("a", ""))
	b.wantCommit(api.OK, 2, one("a", "1"), one("a", ""))
	if root, e := b.v.Root(2); root != "" || e != api.OK || b.v.Texts() != 0 {
		t.Errorf("Root = %x, %d, %d texts", root, e, b.v.Texts())
	}
	if x, e := b.v.At(0); e != api.OK || x == nil || x.Len() != 0 {
		t.Errorf("At = %v, %d", x, e)
	}
	b.wantCommit(api.OK, 3, one("a", "1"))
	b.wantCommit(api.OK, 4, one("a", ""))
	if b.v.Texts() != 1 {
		t.Errorf("%d texts", b.v.Texts())
	}
	b.wantPrune(3, 3)
	b.wantPrune(1, 4)
	if b.v.Texts() != 0 {
		t.Errorf("%d texts", b.v.Texts())
	}
	b.wantPrune(0, 9)
	b.wantCommit(api.ErrOld, 8)
	b.wantCommit(api.OK, 9)
	b.wantPrune(1, 9)
	b.wantCommit(api.OK, 10, one("b", "1"))
	b.wantPrune(1, 10)
}

// TestTextsOfSharedNodes has how many texts there are written down.
func TestTextsOfSharedNodes(t *testing.T) {
	b := begin(t)
	wantTexts := func(want int) {
		t.Helper()
		b.want()
		if n := b.v.Texts(); n != want {
			t.Fatalf("%d texts, want %d, of %v", n, want, b.v.Heights())
		}
	}
	b.commit(0, changesOf("a", "1", "b", "2")...)
	wantTexts(4) // an extension, a branch, two leaves
	b.commit(1, one("b", "3"))
	wantTexts(7) // all but the leaf of a
	b.commit(2)
	wantTexts(7) // the same items
	b.commit(3, one("b", "2"))
	wantTexts(7) // the items of 0
	b.commit(4, one("b", "1"))
	wantTexts(9) // the leaves of a and b are one text
	if n := b.prune(1); n != 1 {
		t.Error(n)
	}
	wantTexts(9) // 3 needs what 0 had
	if n := b.prune(2); n != 1 {
		t.Error(n)
	}
	wantTexts(9) // 2 is as 1 was
	if n := b.prune(3); n != 1 {
		t.Error(n)
	}
	wantTexts(6) // of 1 and 2 the leaf of a stays
	b.commit(5, one("b", "3"))
	wantTexts(9) // what went comes again
	if n := b.prune(4); n != 1 {
		t.Error(n)
	}
	wantTexts(6)
	b.commit(6, changesOf("a", "", "b", "")...)
	wantTexts(6)
	if n := b.prune(100); n != 2 {
		t.Error(n)
	}
	wantTexts(0)
}

// TestRefusedCommitSavesNothing counts texts behind lists of which the last change is refused.
func TestRefusedCommitSavesNothing(t *testing.T) {
	b := versionsAt(t, 2, 4)
	texts := b.v.Texts()
	l := many(40)
	for n := range l {
		for _, bad := range []api.Item{one("", "1"), one("", ""), one("abcdefghi", "1"), one("a", strings.Repeat("v", 33))} {
			if root, e := b.v.Commit(5, append(slices.Clone(l[:n]), bad)); root != "" || e == api.OK {
				t.Fatalf("behind %d changes: %x, %d", n, root, e)
			}
		}
	}
	if b.v.Texts() != texts {
		t.Errorf("%d texts, and there were %d", b.v.Texts(), texts)
	}
	b.want()
	b.wantCommit(api.OK, 5, l[:3]...)
}

func TestPrune(t *testing.T) {
	for _, c := range []struct {
		heights []int
		below   int
		gone    int
		left    []int
	}{
		{nil, 0, 0, nil},
		{nil, 5, 0, nil},
		{nil, -5, 0, nil},
		{[]int{0}, 0, 0, []int{0}},
		{[]int{0}, 1, 0, []int{0}}, // the newest one
		{[]int{0}, math.MaxInt, 0, []int{0}},
		{[]int{3, 5, 9}, math.MinInt, 0, []int{3, 5, 9}},
		{[]int{3, 5, 9}, -1, 0, []int{3, 5, 9}},
		{[]int{3, 5, 9}, 0, 0, []int{3, 5, 9}},
		{[]int{3, 5, 9}, 2, 0, []int{3, 5, 9}},
		{[]int{3, 5, 9}, 3, 0, []int{3, 5, 9}},
		{[]int{3, 5, 9}, 4, 1, []int{5, 9}},
		{[]int{3, 5, 9}, 5, 1, []int{5, 9}},
		{[]int{3, 5, 9}, 6, 2, []int{9}},
		{[]int{3, 5, 9}, 8, 2, []int{9}},
		{[]int{3, 5, 9}, 9, 2, []int{9}},
		{[]int{3, 5, 9}, 10, 2, []int{9}},
		{[]int{3, 5, 9}, 1 << 20, 2, []int{9}},
		{[]int{3, 5, 9}, 1<<20 + 1, 2, []int{9}},
		{[]int{3, 5, 9}, math.MaxInt, 2, []int{9}},
		{[]int{0, 1 << 20}, 1, 1, []int{1 << 20}},
		{[]int{0, 1 << 20}, 1 << 20, 1, []int{1 << 20}},
		{[]int{0, 1 << 20}, 0, 0, []int{0, 1 << 20}},
		{[]int{1<<20 - 1, 1 << 20}, 1<<20 - 1, 0, []int{1<<20 - 1, 1 << 20}},
	} {
		b := versionsAt(t, c.heights...)
		b.wantPrune(c.gone, c.below)
		if l := b.v.Heights(); !slices.Equal(l, c.left) {
			t.Errorf("Prune(%d) of %v: %v is left, want %v", c.below, c.heights, l, c.left)
		}
	}
}

// TestPruneOfEachNumber prunes each set of versions by two numbers, one behind the other, and then commits at each height.
func TestPruneOfEachNumber(t *testing.T) {
	for _, heights := range heightSets() {
		numbers := versionsAt(t, heights...).p.numbers()
		for _, first := range numbers {
			for _, second := range numbers {
				b := versionsAt(t, heights...)
				b.prune(first)
				b.want()
				b.prune(second)
				b.want()
				b.prune(first) // a smaller one behind a greater one, or the other way round
				b.want()
				for _, height := range numbers {
					if b.commit(height, one("z", strconv.Itoa(height))) == api.OK {
						break // all that come are higher
					}
				}
				b.want()
				b.prune(second)
				b.want()
			}
		}
	}
}

// TestHeightsBelowNumbers has what is told of heights around numbers that Prune was given, also of no versions, written down.
func TestHeightsBelowNumbers(t *testing.T) {
	type step func(b *both)
	prune := func(below, gone int) step { return func(b *both) { b.t.Helper(); b.wantPrune(gone, below) } }
	commit := func(height int, want api.Code) step {
		return func(b *both) { b.t.Helper(); b.wantCommit(want, height, one("a", strconv.Itoa(height))) }
	}
	for i, c := range []struct {
		steps []step
		old   []int // Root and At tell ErrOld
		none  []int // ErrNone
		there []int
	}{
		{[]step{prune(5, 0)}, []int{math.MinInt, -1, 0, 1, 4}, []int{5, 6, 1 << 20, math.MaxInt}, nil},
		{[]step{prune(5, 0), prune(3, 0)}, []int{2, 3, 4}, []int{5, 6}, nil},
		{[]step{prune(3, 0), prune(5, 0)}, []int{2, 3, 4}, []int{5, 6}, nil},
		{[]step{prune(0, 0)}, []int{-1, math.MinInt}, []int{0, 1}, nil},
		{[]step{prune(-5, 0)}, []int{-6, math.MinInt}, []int{-5, -4, -1, 0, 1}, nil},
		{[]step{prune(math.MinInt, 0)}, nil, []int{math.MinInt, math.MinInt + 1, -1, 0, 1}, nil},
		{[]step{prune(math.MinInt+1, 0)}, []int{math.MinInt}, []int{math.MinInt + 1, -1, 0, 1}, nil},
		{[]step{prune(math.MaxInt, 0)}, []int{-1, 0, 1, 1 << 20, 1<<20 + 1, math.MaxInt - 1}, []int{math.MaxInt}, nil},
		{[]step{prune(1<<20, 0), commit(1<<20-1, api.ErrOld), commit(1<<20, api.OK)}, []int{0, 1<<20 - 1}, []int{1<<20 + 1}, []int{1 << 20}},
		{[]step{prune(1<<20+1, 0), commit(1<<20, api.ErrOld), commit(0, api.ErrOld)}, []int{0, 1 << 20}, []int{1<<20 + 1}, nil},
		{[]step{prune(5, 0), commit(4, api.ErrOld), commit(5, api.OK)}, []int{0, 4}, []int{6}, []int{5}},
		{[]step{prune(5, 0), commit(0, api.ErrOld), commit(6, api.OK)}, []int{4}, []int{5, 7}, []int{6}},
		{[]step{commit(3, api.OK), prune(9, 0)}, []int{2, 4, 8}, []int{9, 10}, []int{3}}, // the newest one is below the number
		{[]step{commit(3, api.OK), prune(9, 0), commit(4, api.ErrOld), commit(8, api.ErrOld), commit(9, api.OK)}, []int{2, 4, 8}, []int{10}, []int{3, 9}},
		{[]step{commit(3, api.OK), prune(9, 0), commit(9, api.OK), prune(0, 0)}, []int{2, 4, 8}, []int{10}, []int{3, 9}},
		{[]step{commit(3, api.OK), prune(9, 0), commit(9, api.OK), prune(3, 0)}, []int{2, 4, 8}, []int{10}, []int{3, 9}},
		{[]step{commit(3, api.OK), prune(9, 0), commit(9, api.OK), prune(4, 1)}, []int{2, 3, 4, 8}, []int{10}, []int{9}},
		{[]step{commit(3, api.OK), prune(9, 0), commit(9, api.OK), prune(9, 1)}, []int{2, 3, 4, 8}, []int{10}, []int{9}},
		{[]step{commit(3, api.OK), commit(5, api.OK), prune(4, 1), commit(4, api.ErrOld), commit(5, api.ErrOld)}, []int{2, 3}, []int{4, 6}, []int{5}},
		{[]step{commit(3, api.OK), commit(5, api.OK), prune(5, 1), commit(5, api.ErrOld), commit(6, api.OK)}, []int{2, 3, 4}, []int{7}, []int{5, 6}},
		{[]step{commit(3, api.OK), commit(5, api.OK), prune(6, 1), commit(6, api.OK)}, []int{2, 3, 4}, []int{7}, []int{5, 6}},
		{[]step{commit(3, api.OK), commit(5, api.OK), prune(3, 0)}, []int{-1, 0, 2}, []int{4, 6}, []int{3, 5}},
		{[]step{commit(0, api.OK), commit(1, api.OK), prune(1, 1)}, []int{-1, 0}, []int{2}, []int{1}},
		{[]step{commit(0, api.OK), prune(math.MaxInt, 0), commit(1, api.ErrOld), commit(1<<20, api.ErrOld)}, []int{-1, 1, 1 << 20}, []int{math.MaxInt}, []int{0}},
	} {
		b := begin(t)
		for _, s := range c.steps {
			s(b)
		}
		for want, heights := range map[api.Code][]int{api.ErrOld: c.old, api.ErrNone: c.none, api.OK: c.there} {
			for _, height := range heights {
				_, rootE := b.v.Root(height)
				_, atE := b.v.At(height)
				if rootE != want || atE != want {
					t.Errorf("case %d: of height %d: %d and %d, want %d", i, height, rootE, atE, want)
				}
			}
		}
		if l := b.v.Heights(); !slices.Equal(l, c.there) {
			t.Errorf("case %d: Heights = %v, want %v", i, l, c.there)
		}
	}
}

// TestVersionsStay holds tries that were handed out, and roots, whatever comes and goes behind them.
func TestVersionsStay(t *testing.T) {
	b := begin(t)
	type kept struct {
		x          *trie.Trie
		told, root string
	}
	var all []kept
	for i := range 24 {
		b.commit(2*i, one("a", strconv.Itoa(i%3)), one("k"+strconv.Itoa(i), "v"), one("k"+strconv.Itoa(i-3), ""))
		x, e := b.v.At(2 * i)
		root, rootE := b.v.Root(2 * i)
		if e != api.OK || rootE != api.OK {
			t.Fatal(e, rootE)
		}
		all = append(all, kept{x, toldOf(x), root})
		if i%5 == 4 {
			b.prune(2*i - 7)
		}
		for j, k := range all {
			if toldOf(k.x) != k.told || k.x.Root() != k.root {
				t.Fatalf("the trie of height %d has changed behind version %d", 2*j, i)
			}
			y, e := b.v.At(2 * j)
			if _, want := b.p.at(2 * j); e != want || e == api.OK && toldOf(y) != k.told {
				t.Fatalf("At(%d) = %d, behind version %d", 2*j, e, i)
			}
		}
		b.want()
	}
}

// TestTriesAreTheirs changes tries that were handed out, and saves them elsewhere.
func TestTriesAreTheirs(t *testing.T) {
	b := begin(t)
	b.wantCommit(api.OK, 1, changesOf("a", "1", "b", "2", "abc", "3")...)
	was := told(b.v)
	x, _ := b.v.At(1)
	y, _ := b.v.At(1)
	if x == y {
		t.Error("one trie, handed out twice")
	}
	s := store.New()
	for _, key := range []string{"a", "b", "abc"} {
		less, e := x.Del(key)
		if e != api.OK {
			t.Fatal(e)
		}
		more, e := less.Put(key+"d", "4")
		if e != api.OK {
			t.Fatal(e)
		}
		less.Save(s)
		more.Save(s)
	}
	s.Keep(nil)
	if told(b.v) != was || toldOf(x) != toldOf(y) {
		t.Error("the version has changed")
	}
	b.want()
	b.wantCommit(api.OK, 2, one("b", ""))
	b.wantPrune(1, 2)
	x.Save(s)
	z, e := trie.Load(s, x.Root())
	if e != api.OK || toldOf(z) != toldOf(y) {
		t.Errorf("a trie whose version went: %d", e)
	}
	b.want()
}

// TestAtTellsWhatLoadTells takes the store's nodes away, since no call loses one that a version needs.
func TestAtTellsWhatLoadTells(t *testing.T) {
	b := versionsAt(t, 1, 2)
	b.commit(3, without(itemsOf(b.p.versions[1].values))...)
	b.v.nodes.Keep(nil)
	for _, height := range []int{1, 2} {
		if x, e := b.v.At(height); x != nil || e != api.ErrLost {
			t.Errorf("At(%d) = %v, %d", height, x, e)
		}
	}
	if x, e := b.v.At(3); e != api.OK || x.Len() != 0 {
		t.Errorf("At(3) = %v, %d", x, e)
	}
}

// TestCommitGoesOnFromTheTrieItself takes the store's nodes away ahead of each call: what the store tells of a root may be another trie, where two texts have one sum, and plays no part in what Commit makes.
func TestCommitGoesOnFromTheTrieItself(t *testing.T) {
	b := begin(t)
	for height, changes := range [][]api.Item{
		changesOf("a", "1", "b", "2", "abc", "3"),
		nil,
		changesOf("abd", "4", "b", ""),
		changesOf("a", "1"),
		without(many(3)),
		many(40),
		changesOf("a", "", "abc", "", "abd", ""),
		without(many(40)),
		nil,
		changesOf("k", "v"),
		changesOf("k", "w"),
	} {
		b.v.nodes.Keep(nil)
		if e := b.commit(height, one("more", "v"), one("", "v")); e != api.ErrRange {
			t.Fatalf("version %d: %d", height, e)
		}
		if n := b.v.Texts(); n != 0 {
			t.Fatalf("version %d, refused, has %d texts", height, n)
		}
		if e := b.commit(height, changes...); e != api.OK {
			t.Fatalf("version %d: %d", height, e)
		}
		b.wantAt(height)
		if height%3 == 2 { // what is kept to go on from stays, whatever goes
			b.prune(height + 1)
			b.wantAt(height)
		}
	}
}

// TestListsAreTheirs changes lists that were handed in and out, behind their length too.
func TestListsAreTheirs(t *testing.T) {
	b := begin(t)
	for i := range 8 {
		l := append(changesOf("a", strconv.Itoa(i), "k"+strconv.Itoa(i), "v", "gone", ""), one("", "behind"), one("more", "behind"))
		given := slices.Clone(l)
		if e := b.commit(i, l[:3]...); e != api.OK {
			t.Fatalf("what lies behind the length was read: %d", e)
		}
		if e := b.commit(i, l...); e != api.ErrOld {
			t.Fatal(e)
		}
		if e := b.commit(i+1, l...); e != api.ErrRange {
			t.Fatal(e)
		}
		if !slices.Equal(l, given) {
			t.Fatalf("%q was handed in, and is %q", given, l)
		}
		for j := range l {
			l[j] = one("q", "q")
		}
		b.want()
	}
	for range 3 {
		l, other := b.v.Heights(), b.v.Heights()
		spare := l[:cap(l)]
		for i := range spare {
			spare[i] = -7
		}
		if !slices.Equal(other, b.p.heights()) {
			t.Fatalf("another answer has changed: %v", other)
		}
		b.want()
		b.prune(len(l) - 5)
	}
}

// lieOf is texts that lie in memory which a test can change.
type lieOf []byte

func (l lieOf) text(from, size int) string { return unsafe.String(&l[from], size) }

// TestTextsAreNotShared looks at where the texts lie, those of what was handed in too: nothing else could tell.
func TestTextsAreNotShared(t *testing.T) {
	v := New()
	lie := lieOf("abc" + "bcd" + "gone" + "value1" + "value2")
	var all []string
	root, _ := v.Commit(1, []api.Item{{Key: lie.text(0, 3), Value: lie.text(10, 6)}, {Key: lie.text(3, 3), Value: lie.text(16, 6)}, {Key: lie.text(6, 4), Value: lie.text(6, 4)}})
	all = append(all, root)
	root, _ = v.Commit(2, []api.Item{{Key: lie.text(6, 4)}})
	all = append(all, root)
	for range 2 {
		for height := 1; height <= 2; height++ {
			root, _ := v.Root(height)
			x, _ := v.At(height)
			all = append(all, root, x.Root())
			for _, item := range x.Items() {
				all = append(all, item.Key, item.Value)
			}
		}
	}
	for _, has := range v.versions {
		all = append(all, has.root)
	}
	was, wasTold := strings.Join(all, "/"), told(v)
	places := map[*byte]bool{}
	for i := range lie {
		places[&lie[i]] = true
	}
	for i, s := range all {
		if places[unsafe.StringData(s)] {
			t.Errorf("text %d, %q, lies where another one does", i, s)
		}
		places[unsafe.StringData(s)] = true
	}
	for i := range lie {
		lie[i] = '!'
	}
	if strings.Join(all, "/") != was || told(v) != wasTold {
		t.Error("what was told has changed")
	}
}

// TestManyVersions has a version at every third height, and prunes by strides.
func TestManyVersions(t *testing.T) {
	b := begin(t)
	for i := range 400 {
		if e := b.commit(3*i, one("a", strconv.Itoa(i)), one("k"+strconv.Itoa(i%50), strconv.Itoa(i%7))); e != api.OK {
			t.Fatal(e)
		}
	}
	wantAll := func() {
		t.Helper()
		if l := b.v.Heights(); !slices.Equal(l, b.p.heights()) || b.v.Texts() != b.p.texts() {
			t.Fatalf("%v, %d texts; want %v, %d", l, b.v.Texts(), b.p.heights(), b.p.texts())
		}
		for height := -1; height <= 1200; height++ {
			b.wantAt(height)
		}
	}
	wantAll()
	for _, c := range []struct{ below, gone int }{{1, 1}, {3, 0}, {4, 1}, {300, 98}, {299, 0}, {301, 1}, {301, 0}, {900, 199}, {1198, 99}, {2000, 0}} {
		if n := b.prune(c.below); n != c.gone {
			t.Fatalf("Prune(%d) = %d, want %d", c.below, n, c.gone)
		}
		wantAll()
	}
}

// TestEveryRun does every run of at most four steps of these.
func TestEveryRun(t *testing.T) {
	steps := []func(b *both){
		func(b *both) { b.commit(0, one("a", "1"), one("b", "2")) },
		func(b *both) { b.commit(1, one("a", "1"), one("ab", "1"), one("a", "")) },
		func(b *both) { b.commit(2) },
		func(b *both) { b.commit(3, one("b", ""), one("a", "2")) },
		func(b *both) { b.commit(3, one("b", "1"), one("", "2")) },
		func(b *both) { b.prune(0) },
		func(b *both) { b.prune(1) },
		func(b *both) { b.prune(2) },
		func(b *both) { b.prune(4) },
	}
	var run func(done []int)
	run = func(done []int) {
		b := begin(t)
		for _, i := range done {
			steps[i](b)
		}
		b.want()
		if len(done) == 4 {
			return
		}
		for i := range steps {
			run(append(slices.Clone(done), i))
		}
	}
	run(nil)
}

// keys is the keys of changes made by chance: they have much in common, and two of them may not be.
func keys() []string {
	return []string{"a", "b", "ab", "abc", "a\x00", "\x00", "\xff", "q", "abcdefgh", "abcdefgi", "bcd", "", "abcdefghi"}
}

// play holds any steps to the words: each one takes some bytes of them.
func play(t *testing.T, steps string, every int) {
	t.Helper()
	b, at := begin(t), 0
	next := func() int {
		if at >= len(steps) {
			return 0
		}
		at++
		return int(steps[at-1])
	}
	around := func() int {
		newest := 0
		if n := len(b.p.versions); n > 0 {
			newest = b.p.versions[n-1].height
		}
		switch by := next(); {
		case by < 200:
			return newest + by%7 - 1
		case by < 250:
			return newest - (by - 200)
		default:
			return []int{math.MinInt, -1, 0, 1 << 20, 1<<20 + 1, math.MaxInt}[by-250]
		}
	}
	for n := 0; at < len(steps) && n < 300; n++ {
		if next()%3 == 2 {
			b.prune(around() - 3)
		} else {
			height := around()
			var l []api.Item
			for range next() % 6 {
				key := next()
				if key > 250 {
					key = 11 + key%2
				} else {
					key %= 11
				}
				value := ""
				if by := next(); by > 252 {
					value = strings.Repeat("v", 30+by-251)
				} else if by%3 > 0 {
					value = strconv.Itoa(by % 4)
				}
				l = append(l, one(keys()[key], value))
			}
			b.commit(height, l...)
		}
		if n%every == 0 {
			b.want()
		}
	}
	b.want()
}

func TestAnySteps(t *testing.T) {
	r := rand.New(rand.NewSource(12))
	for range 200 {
		l := make([]byte, r.Intn(400))
		for i := range l {
			l[i] = byte(r.Intn(256))
		}
		play(t, string(l), 1+r.Intn(5))
	}
}

func FuzzVers(f *testing.F) {
	f.Add("", 1)
	f.Add("\x00\x01\x02\x00\x01\x01\x02\x00\x03\x01\x00\x02", 1)
	f.Add("\x00\x02\x01\x03\x01\x02\x03\x00\x02\x01\x03\x00\x00\x02\x06", 2)
	f.Add("\x00\xfd\x01\xff\x01\x00\xff\x00", 1)
	f.Add("\x02\xff\x00\x03\x01\x00\x01\x01\x02\x06\x00\x02\x01\x01\xff", 3)
	f.Fuzz(func(t *testing.T, steps string, every int) {
		if every < 1 {
			every = 1
		}
		play(t, steps, every)
	})
}
