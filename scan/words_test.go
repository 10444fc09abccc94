package scan

import (
	"math/big"
	"slices"
	"strings"
	"testing"

	"pharos/api"
	"pharos/trie"
)

// What the chapter's words say of keys and ranges, done plainly.

// rank is how many texts of at most api.MaxKey bytes are below key, itself such a one: they are a tree's nodes, each ahead of the 256 below it.
func rank(key string) *big.Int {
	n := new(big.Int)
	for i := range len(key) {
		n.Add(n, big.NewInt(1))
		n.Add(n, new(big.Int).Mul(big.NewInt(int64(key[i])), below(i+1)))
	}
	return n
}

// below counts the texts of at most api.MaxKey bytes that begin with one of size bytes, itself with them.
func below(size int) *big.Int {
	n := new(big.Int)
	for range api.MaxKey + 1 - size {
		n.Mul(n, big.NewInt(256))
		n.Add(n, big.NewInt(1))
	}
	return n
}

// wantBehind holds what is behind a key to the words: no text that may be a key lies between the two.
func wantBehind(t *testing.T, key string) {
	t.Helper()
	got := Behind(key)
	if again := Behind(key); again != got {
		t.Fatalf("Behind(%q) = %q, and again %q", key, got, again)
	}
	if len(key) > api.MaxKey {
		if got != "" {
			t.Fatalf("Behind(%.20q), of %d bytes, = %q", key, len(key), got)
		}
		return
	}
	next := new(big.Int).Add(rank(key), big.NewInt(1))
	if got == "" {
		if next.Cmp(below(0)) != 0 {
			t.Fatalf("behind %q there is none", key)
		}
		return
	}
	if len(got) > api.MaxKey || rank(got).Cmp(next) != 0 {
		t.Fatalf("Behind(%q) = %q", key, got)
	}
}

// inRange is the items of l, their keys rising, that the range has.
func inRange(l []api.Item, from, end string) []api.Item {
	var in []api.Item
	for _, x := range l {
		if strings.Compare(x.Key, from) >= 0 && (end == "" || strings.Compare(x.Key, end) < 0) {
			in = append(in, x)
		}
	}
	return in
}

// trieOf is a trie of items, which Of is not to refuse.
func trieOf(t testing.TB, l []api.Item) *trie.Trie {
	t.Helper()
	x, e := trie.Of(l)
	if e != api.OK {
		t.Fatalf("Of(%q): %d", l, e)
	}
	return x
}

// wantPage holds one call of Range to what it is to tell.
func wantPage(t *testing.T, x *trie.Trie, from, end string, most int, items []api.Item, next string) {
	t.Helper()
	for range 2 {
		got, at, e := Range(x, from, end, most)
		if !slices.Equal(got, items) || at != next || e != api.OK {
			t.Fatalf("Range(%q, %q, %d) = %q, %q, %d; want %q, %q", from, end, most, got, at, e, items, next)
		}
	}
}

// wantRange holds a range of a trie of the items l, their keys rising, to the words: its first items, all its pages, and its count.
func wantRange(t *testing.T, x *trie.Trie, l []api.Item, from, end string, most int) {
	t.Helper()
	in := inRange(l, from, end)
	if n, again := Count(x, from, end), Count(x, from, end); n != len(in) || again != n {
		t.Fatalf("Count(%q, %q) = %d, and again %d, of %q", from, end, n, again, in)
	}
	for left, at := in, from; ; {
		size := min(most, len(left))
		next := ""
		if size < len(left) {
			next = Behind(left[size-1].Key)
		}
		wantPage(t, x, at, end, most, left[:size], next)
		if next == "" {
			break
		}
		left, at = left[size:], next
		if n := Count(x, at, end); n != len(left) {
			t.Fatalf("Count(%q, %q) = %d behind a page, want %d", at, end, n, len(left))
		}
	}
}

// wantRefused holds a range to being refused.
func wantRefused(t *testing.T, x *trie.Trie, from, end string, most int) {
	t.Helper()
	for range 2 {
		if items, next, e := Range(x, from, end, most); len(items) != 0 || next != "" || e != api.ErrRange {
			t.Fatalf("Range(%q, %q, %d) = %q, %q, %d", from, end, most, items, next, e)
		}
	}
}

// told is all that a trie tells, in one text.
func told(x *trie.Trie) string {
	l := slices.Concat([]string{x.Root()}, x.Nodes())
	for _, item := range x.Items() {
		l = append(l, item.Key, item.Value)
	}
	return strings.Join(l, "/")
}
