package trie

import (
	"crypto/sha256"
	"maps"
	"slices"
	"strings"
	"testing"

	"pharos/api"
)

// What the chapter's words say of a trie, done plainly: its nodes are worked out from all its items, by Go's own library.

// sumOf is a text's sum with the tag 1.
func sumOf(text string) string {
	s := sha256.Sum256([]byte("\x01" + text))
	return string(s[:])
}

// pathOf is a key's path.
func pathOf(key string) string {
	var l []byte
	for i := range len(key) {
		l = append(l, key[i]/16, key[i]%16)
	}
	return string(l)
}

// keyOf is the key of a path.
func keyOf(path string) string {
	var l []byte
	for i := 0; i < len(path); i += 2 {
		l = append(l, path[i]*16+path[i+1])
	}
	return string(l)
}

// text is a short text as bytes.
func text(s string) string {
	if s == "" {
		return "\x00"
	}
	return "\x01" + string([]byte{byte(len(s))}) + s
}

// packed is a path, packed, as a text; kind is 2 of a leaf's, 0 of another one.
func packed(path string, kind byte) string {
	if len(path)%2 == 1 {
		return text(string([]byte{kind*16 + 16 + path[0]}) + keyOf(path[1:]))
	}
	return text(string([]byte{kind * 16}) + keyOf(path))
}

func leafText(path, value string) string { return "\x01" + packed(path, 2) + text(value) }

func extText(path, kid string) string { return "\x02" + packed(path, 0) + kid }

func branchText(value string, kids map[int]string) string {
	var bits [2]byte
	s := ""
	for i := range 16 {
		if kids[i] != "" {
			bits[i/8] |= 128 >> (i % 8)
			s += kids[i]
		}
	}
	return "\x03" + string(bits[:]) + s + text(value)
}

// spot is a node's bytes, and its place.
type spot struct{ place, text string }

// plain is a trie as the words say it: its values by their keys.
type plain map[string]string

// put is the trie behind Put.
func (p plain) put(key, value string) plain {
	q := plain{key: value}
	for k, v := range p {
		if k != key {
			q[k] = v
		}
	}
	return q
}

// del is the trie behind Del.
func (p plain) del(key string) plain {
	q := maps.Clone(p)
	delete(q, key)
	return q
}

// items is the trie's items, their keys rising.
func (p plain) items() []api.Item {
	var l []api.Item
	for _, key := range slices.Sorted(maps.Keys(p)) {
		l = append(l, api.Item{Key: key, Value: p[key]})
	}
	return l
}

// spots is the trie's nodes, in order.
func (p plain) spots() []spot {
	left := map[string]string{}
	for key, value := range p {
		left[pathOf(key)] = value
	}
	return spotsOf("", left)
}

// spotsOf is the nodes, from a place on, of values by what is left of their paths there.
func spotsOf(place string, left map[string]string) []spot {
	if len(left) == 0 {
		return nil
	}
	begin := slices.Sorted(maps.Keys(left))[0]
	if len(left) == 1 {
		return []spot{{place, leafText(begin, left[begin])}}
	}
	for len(cut(left, begin)) < len(left) {
		begin = begin[:len(begin)-1]
	}
	if begin != "" {
		below := spotsOf(place+begin, cut(left, begin))
		return append([]spot{{place, extText(begin, sumOf(below[0].text))}}, below...)
	}
	kids, below := map[int]string{}, []spot(nil)
	for i := range 16 {
		half := string([]byte{byte(i)})
		if l := spotsOf(place+half, cut(left, half)); l != nil {
			kids[i] = sumOf(l[0].text)
			below = append(below, l...)
		}
	}
	return append([]spot{{place, branchText(left[""], kids)}}, below...)
}

// cut is what is left behind begin, of those that begin so.
func cut(left map[string]string, begin string) map[string]string {
	l := map[string]string{}
	for path, value := range left {
		if strings.HasPrefix(path, begin) {
			l[path[len(begin):]] = value
		}
	}
	return l
}

// side is Side by the words of chapter 1.
func side(path, mark string) int {
	switch {
	case path >= mark:
		return 1
	case strings.HasPrefix(mark, path) && len(mark) > len(path):
		return 0
	}
	return -1
}

// all is the bytes of nodes.
func all(l []spot) []string {
	var texts []string
	for _, n := range l {
		texts = append(texts, n.text)
	}
	return texts
}

// trail is what Trail is to tell.
func trail(l []spot, key string) []string {
	var texts []string
	for _, n := range l {
		if strings.HasPrefix(pathOf(key), n.place) {
			texts = append(texts, n.text)
		}
	}
	return texts
}

// cover is what Cover is to tell.
func cover(l []spot, from, end string) []string {
	var texts []string
	for _, n := range l {
		if side(n.place, pathOf(from)) != -1 && (end == "" || side(n.place, pathOf(end)) != 1) {
			texts = append(texts, n.text)
		}
	}
	return texts
}

// root is what Root is to tell.
func root(l []spot) string {
	if len(l) == 0 {
		return ""
	}
	return sumOf(l[0].text)
}

// trieOf is a trie of items, which Of is not to refuse.
func trieOf(t *testing.T, l []api.Item) *Trie {
	t.Helper()
	x, e := Of(l)
	if e != api.OK || x == nil {
		t.Fatalf("Of(%q) = %v, %d", l, x, e)
	}
	return x
}

// wantPut is the trie behind a Put that is not to be refused.
func wantPut(t *testing.T, x *Trie, key, value string) *Trie {
	t.Helper()
	y, e := x.Put(key, value)
	if e != api.OK || y == nil {
		t.Fatalf("Put(%q, %q) = %v, %d", key, value, y, e)
	}
	return y
}

// wantDel is the trie behind a Del that is not to be refused.
func wantDel(t *testing.T, x *Trie, key string) *Trie {
	t.Helper()
	y, e := x.Del(key)
	if e != api.OK || y == nil {
		t.Fatalf("Del(%q) = %v, %d", key, y, e)
	}
	return y
}

// wantTrie holds all that a trie tells without an argument, and the values of its keys, to the items that it is to have.
func wantTrie(t *testing.T, x *Trie, p plain) {
	t.Helper()
	wantSpots(t, x, p, p.spots())
}

// wantSpots is wantTrie, where the nodes were worked out ahead.
func wantSpots(t *testing.T, x *Trie, p plain, l []spot) {
	t.Helper()
	if got := x.Nodes(); !slices.Equal(got, all(l)) {
		t.Fatalf("of %q Nodes: %q, want %q", p.items(), got, all(l))
	}
	if x.Root() != root(l) {
		t.Fatalf("of %q Root: %x, want %x", p.items(), x.Root(), root(l))
	}
	if x.Len() != len(p) {
		t.Fatalf("of %q Len: %d", p.items(), x.Len())
	}
	if got := x.Items(); !slices.Equal(got, p.items()) {
		t.Fatalf("Items: %q, want %q", got, p.items())
	}
	for key, value := range p {
		if got, e := x.Get(key); got != value || e != api.OK {
			t.Fatalf("of %q Get(%q) = %q, %d", p.items(), key, got, e)
		}
	}
}

// wantNone holds a trie to having no items of these keys.
func wantNone(t *testing.T, x *Trie, keys ...string) {
	t.Helper()
	for _, key := range keys {
		if value, e := x.Get(key); value != "" || e != api.ErrNone {
			t.Errorf("of %q Get(%q) = %q, %d", x.Items(), key, value, e)
		}
		if y, e := x.Del(key); y != nil || e != api.ErrNone {
			t.Errorf("of %q Del(%q) = %v, %d", x.Items(), key, y, e)
		}
	}
}

// wantWays holds Trail and Cover to keys and ends that are asked for.
func wantWays(t *testing.T, x *Trie, l []spot, keys []string) {
	t.Helper()
	for _, a := range keys {
		if got := x.Trail(a); !slices.Equal(got, trail(l, a)) {
			t.Fatalf("of %q Trail(%q) = %q, want %q", x.Items(), a, got, trail(l, a))
		}
		for _, b := range keys {
			if got := x.Cover(a, b); !slices.Equal(got, cover(l, a, b)) {
				t.Fatalf("of %q Cover(%q, %q) = %q, want %q", x.Items(), a, b, got, cover(l, a, b))
			}
		}
	}
}
