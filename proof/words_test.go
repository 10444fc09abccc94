package proof

import (
	"crypto/sha256"
	"maps"
	"slices"
	"strings"
	"testing"

	"pharos/api"
	"pharos/trie"
)

// What the words say of tries, their nodes and proofs, done plainly: nodes are worked out from all items, read byte by byte, and summed by Go's own library.

// sumOf is a text's sum with the tag 1.
func sumOf(text string) string { return sumBy(1, text) }

// sumBy is a text's sum with a tag.
func sumBy(tag byte, text string) string {
	s := sha256.Sum256([]byte(string([]byte{tag}) + text))
	return string(s[:])
}

// pathOf is a key's path.
func pathOf(key string) string {
	var l []byte
	for i := range len(key) {
		l = append(l, key[i]/16, key[i]%16)
	}
	return string(l)
}

// keyOf is the key of a path.
func keyOf(path string) string {
	var l []byte
	for i := 0; i < len(path); i += 2 {
		l = append(l, path[i]*16+path[i+1])
	}
	return string(l)
}

// text is a short text as bytes.
func text(s string) string {
	if s == "" {
		return "\x00"
	}
	return "\x01" + string([]byte{byte(len(s))}) + s
}

// packed is a path, packed, as a text; kind is 2 of a leaf's, 0 of another one.
func packed(path string, kind byte) string {
	if len(path)%2 == 1 {
		return text(string([]byte{kind*16 + 16 + path[0]}) + keyOf(path[1:]))
	}
	return text(string([]byte{kind * 16}) + keyOf(path))
}

func leafText(path, value string) string { return "\x01" + packed(path, 2) + text(value) }

func extText(path, kid string) string { return "\x02" + packed(path, 0) + kid }

func branchText(value string, kids map[int]string) string {
	var bits [2]byte
	s := ""
	for i := range 16 {
		if kids[i] != "" {
			bits[i/8] |= 128 >> (i % 8)
			s += kids[i]
		}
	}
	return "\x03" + string(bits[:]) + s + text(value)
}

// parts is a node as it was read: an extension's child is kids' first one.
type parts struct {
	kind        byte
	path, value string
	kids        map[int]string
}

// readText is the short text with which s begins, and what is behind it.
func readText(s string) (text, rest string, ok bool) {
	switch {
	case strings.HasPrefix(s, "\x00"):
		return "", s[1:], true
	case len(s) < 2 || s[0] != 1 || len(s) < 2+int(s[1]):
		return "", "", false
	}
	return s[2 : 2+int(s[1])], s[2+int(s[1]):], true
}

// readPath is the path of a packed one; whose it is, and whether it was packed so, is told by packing it again.
func readPath(s string) string {
	path := pathOf(s)
	switch {
	case len(path) == 0:
		return ""
	case path[0]%2 == 1:
		return path[1:]
	}
	return path[2:]
}

// readNode is the node whose bytes are s; false, if there is none.
func readNode(s string) (n parts, ok bool) {
	if s == "" {
		return n, false
	}
	n = parts{kind: s[0], kids: map[int]string{}}
	rest, again, has := s[1:], "", 0
	switch n.kind {
	case 1, 2:
		packed, behind, ok := readText(rest)
		if !ok {
			return n, false
		}
		n.path, rest = readPath(packed), behind
	case 3:
		if len(rest) < 2 {
			return n, false
		}
		bits := rest[:2]
		rest = rest[2:]
		for i := range 16 {
			if bits[i/8]&(128>>(i%8)) != 0 && len(rest) >= 32 {
				n.kids[i], rest = rest[:32], rest[32:]
				has++
			}
		}
	}
	switch n.kind {
	case 1, 3:
		n.value, _, ok = readText(rest)
		if !ok || len(n.value) > 32 {
			return n, false
		}
	case 2:
		n.kids[0] = rest
	}
	if n.value != "" {
		has++
	}
	switch n.kind {
	case 1:
		again = leafText(n.path, n.value)
		ok = n.value != ""
	case 2:
		again = extText(n.path, n.kids[0])
		ok = n.path != "" && len(n.kids[0]) == 32
	case 3:
		again = branchText(n.value, n.kids)
		ok = has >= 2
	}
	return n, ok && len(n.path) <= 16 && again == s
}

// followed is what nodes say of what is left of a key's path below the sum that is sought: "", if there is no value; false, if they are no proof.
func followed(sought, left string, nodes []string) (value string, ok bool) {
	if sought == "" {
		return "", len(nodes) == 0
	}
	if len(nodes) == 0 || sumOf(nodes[0]) != sought {
		return "", false
	}
	n, ok := readNode(nodes[0])
	if !ok {
		return "", false
	}
	nodes = nodes[1:]
	is, goesOn := n.path == left, strings.HasPrefix(left, n.path)
	switch {
	case n.kind == 1 && is, n.kind == 3 && left == "":
		return n.value, len(nodes) == 0
	case n.kind == 1, !goesOn:
		return "", len(nodes) == 0
	case n.kind == 2:
		return followed(n.kids[0], left[len(n.path):], nodes)
	}
	return followed(n.kids[int(left[0])], left[1:], nodes)
}

// wantOf is what Verify is to answer.
func wantOf(root, key string, nodes []string) (string, bool, api.Code) {
	if len(key) < 1 || len(key) > 8 {
		return "", false, 1
	}
	value, ok := followed(root, pathOf(key), nodes)
	if !ok {
		return "", false, 130
	}
	return value, value != "", 0
}

// plain is a trie as the words say it: its values by their keys.
type plain map[string]string

// plainOf is the trie of items.
func plainOf(l []api.Item) plain {
	p := plain{}
	for _, x := range l {
		p[x.Key] = x.Value
	}
	return p
}

// spot is a node's bytes, and its place.
type spot struct{ place, text string }

// spots is the trie's nodes, in order.
func (p plain) spots() []spot {
	left := map[string]string{}
	for key, value := range p {
		left[pathOf(key)] = value
	}
	return spotsOf("", left)
}

// spotsOf is the nodes, from a place on, of values by what is left of their paths there.
func spotsOf(place string, left map[string]string) []spot {
	if len(left) == 0 {
		return nil
	}
	begin := slices.Sorted(maps.Keys(left))[0]
	if len(left) == 1 {
		return []spot{{place, leafText(begin, left[begin])}}
	}
	for len(cut(left, begin)) < len(left) {
		begin = begin[:len(begin)-1]
	}
	if begin != "" {
		below := spotsOf(place+begin, cut(left, begin))
		return append([]spot{{place, extText(begin, sumOf(below[0].text))}}, below...)
	}
	kids, below := map[int]string{}, []spot(nil)
	for i := range 16 {
		half := string([]byte{byte(i)})
		if l := spotsOf(place+half, cut(left, half)); l != nil {
			kids[i] = sumOf(l[0].text)
			below = append(below, l...)
		}
	}
	return append([]spot{{place, branchText(left[""], kids)}}, below...)
}

// cut is what is left behind begin, of those that begin so.
func cut(left map[string]string, begin string) map[string]string {
	some := map[string]string{}
	for path, value := range left {
		if rest, ok := strings.CutPrefix(path, begin); ok {
			some[rest] = value
		}
	}
	return some
}

// trail is the nodes on the way to key, of all of a trie's.
func trail(all []spot, key string) []string {
	var l []string
	for _, s := range all {
		if strings.HasPrefix(pathOf(key), s.place) {
			l = append(l, s.text)
		}
	}
	return l
}

// rootOf is the root of a trie of these nodes.
func rootOf(all []spot) string {
	if len(all) == 0 {
		return ""
	}
	return sumOf(all[0].text)
}

// trieOf is a trie of items, which Of is not to refuse.
func trieOf(t testing.TB, l []api.Item) *trie.Trie {
	t.Helper()
	x, e := trie.Of(l)
	if e != api.OK {
		t.Fatalf("Of(%q): %d", l, e)
	}
	return x
}

// wantVerify holds two calls of Verify to what a test has written down, and that to the words.
func wantVerify(t *testing.T, root, key string, nodes []string, value string, there bool, want api.Code) {
	t.Helper()
	if v, is, e := wantOf(root, key, nodes); v != value || is != there || e != want {
		t.Fatalf("by the words %q, %v, %d, by the test %q, %v, %d: of %x, %q, %q", v, is, e, value, there, want, root, key, nodes)
	}
	ahead := strings.Join(nodes, "/")
	for range 2 {
		if v, is, e := Verify(root, key, nodes); v != value || is != there || e != want {
			t.Fatalf("Verify(%x, %q, %q) = %q, %v, %d, want %q, %v, %d", root, key, nodes, v, is, e, value, there, want)
		}
	}
	if strings.Join(nodes, "/") != ahead {
		t.Fatal("the nodes have changed")
	}
}

// wantNoProof holds Verify to refusing the nodes.
func wantNoProof(t *testing.T, root, key string, nodes ...string) {
	t.Helper()
	wantVerify(t, root, key, nodes, "", false, 130)
}

// wantByWords holds a call of Verify to the words, and tells whether the nodes are a proof.
func wantByWords(t *testing.T, root, key string, nodes []string) bool {
	t.Helper()
	value, there, want := wantOf(root, key, nodes)
	if v, is, e := Verify(root, key, nodes); v != value || is != there || e != want {
		t.Fatalf("Verify(%x, %q, %q) = %q, %v, %d, want %q, %v, %d", root, key, nodes, v, is, e, value, there, want)
	}
	return want == 0
}

// wantProve holds two calls of Prove to the nodes of the way.
func wantProve(t *testing.T, x *trie.Trie, key string, want []string) {
	t.Helper()
	for range 2 {
		if nodes, e := Prove(x, key); !slices.Equal(nodes, want) || e != api.OK {
			t.Fatalf("Prove(%q) = %q, %d, want %q", key, nodes, e, want)
		}
	}
}

// told is all that a trie tells, in one text.
func told(x *trie.Trie) string {
	l := slices.Concat([]string{x.Root()}, x.Nodes())
	for _, item := range x.Items() {
		l = append(l, item.Key, item.Value)
	}
	return strings.Join(l, "/")
}
