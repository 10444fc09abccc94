package span

import (
	"crypto/sha256"
	"maps"
	"slices"
	"strings"
	"testing"

	"pharos/api"
	"pharos/trie"
)

// What the words say of tries, their nodes and pages, done plainly: nodes are worked out from all items, read byte by byte, and summed by Go's own library; places are kept whole.

// sumOf is a text's sum with the tag 1.
func sumOf(text string) string { return sumBy(1, text) }

// sumBy is a text's sum with a tag.
func sumBy(tag byte, text string) string {
	s := sha256.Sum256([]byte(string([]byte{tag}) + text))
	return string(s[:])
}

// pathOf is a key's path.
func pathOf(key string) string {
	var l []byte
	for i := range len(key) {
		l = append(l, key[i]/16, key[i]%16)
	}
	return string(l)
}

// keyOf is the key of a path.
func keyOf(path string) string {
	var l []byte
	for i := 0; i < len(path); i += 2 {
		l = append(l, path[i]*16+path[i+1])
	}
	return string(l)
}

// text is a short text as bytes.
func text(s string) string {
	if s == "" {
		return "\x00"
	}
	return "\x01" + string([]byte{byte(len(s))}) + s
}

// packed is a path, packed, as a text; kind is 2 of a leaf's, 0 of another one.
func packed(path string, kind byte) string {
	if len(path)%2 == 1 {
		return text(string([]byte{kind*16 + 16 + path[0]}) + keyOf(path[1:]))
	}
	return text(string([]byte{kind * 16}) + keyOf(path))
}

func leafText(path, value string) string { return "\x01" + packed(path, 2) + text(value) }

func extText(path, kid string) string { return "\x02" + packed(path, 0) + kid }

func branchText(value string, kids map[int]string) string {
	var bits [2]byte
	s := ""
	for i := range 16 {
		if kids[i] != "" {
			bits[i/8] |= 128 >> (i % 8)
			s += kids[i]
		}
	}
	return "\x03" + string(bits[:]) + s + text(value)
}

// parts is a node as it was read: an extension's child is kids' first one.
type parts struct {
	kind        byte
	path, value string
	kids        map[int]string
}

// readText is the short text with which s begins, and what is behind it.
func readText(s string) (text, rest string, ok bool) {
	switch {
	case strings.HasPrefix(s, "\x00"):
		return "", s[1:], true
	case len(s) < 2 || s[0] != 1 || len(s) < 2+int(s[1]):
		return "", "", false
	}
	return s[2 : 2+int(s[1])], s[2+int(s[1]):], true
}

// readPath is the path of a packed one; whose it is, and whether it was packed so, is told by packing it again.
func readPath(s string) string {
	path := pathOf(s)
	switch {
	case len(path) == 0:
		return ""
	case path[0]%2 == 1:
		return path[1:]
	}
	return path[2:]
}

// readNode is the node whose bytes are s; false, if there is none.
func readNode(s string) (n parts, ok bool) {
	if s == "" {
		return n, false
	}
	n = parts{kind: s[0], kids: map[int]string{}}
	rest, again, has := s[1:], "", 0
	switch n.kind {
	case 1, 2:
		packed, behind, ok := readText(rest)
		if !ok {
			return n, false
		}
		n.path, rest = readPath(packed), behind
	case 3:
		if len(rest) < 2 {
			return n, false
		}
		bits := rest[:2]
		rest = rest[2:]
		for i := range 16 {
			if bits[i/8]&(128>>(i%8)) != 0 && len(rest) >= 32 {
				n.kids[i], rest = rest[:32], rest[32:]
				has++
			}
		}
	}
	switch n.kind {
	case 1, 3:
		n.value, _, ok = readText(rest)
		if !ok || len(n.value) > 32 {
			return n, false
		}
	case 2:
		n.kids[0] = rest
	}
	if n.value != "" {
		has++
	}
	switch n.kind {
	case 1:
		again = leafText(n.path, n.value)
		ok = n.value != ""
	case 2:
		again = extText(n.path, n.kids[0])
		ok = n.path != "" && len(n.kids[0]) == 32
	case 3:
		again = branchText(n.value, n.kids)
		ok = has >= 2
	}
	return n, ok && len(n.path) <= 16 && again == s
}

// side is on which side of a mark the texts stand that begin with a place.
func side(place, mark string) int {
	switch {
	case strings.Compare(place, mark) >= 0:
		return 1
	case strings.HasPrefix(mark, place):
		return 0
	}
	return -1
}

// plays tells whether a place plays a part in a range.
func plays(place, from, end string) bool {
	return side(place, pathOf(from)) != -1 && (end == "" || side(place, pathOf(end)) != 1)
}

// inRange tells whether a key is in a range.
func inRange(key, from, end string) bool {
	return strings.Compare(key, from) >= 0 && (end == "" || strings.Compare(key, end) < 0)
}

// gathered is the items within a range that nodes have from a sum at a place on, and the nodes behind these; false, if they show nothing.
func gathered(sought, place, from, end string, nodes []string) (items []api.Item, behind []string, ok bool) {
	if !plays(place, from, end) {
		return nil, nodes, true
	}
	if len(nodes) == 0 || sumOf(nodes[0]) != sought {
		return nil, nil, false
	}
	n, ok := readNode(nodes[0])
	if !ok {
		return nil, nil, false
	}
	nodes = nodes[1:]
	if n.value != "" {
		path := place + n.path
		if len(path)%2 != 0 || len(path) < 2 || len(path) > 16 {
			return nil, nil, false
		}
		if inRange(keyOf(path), from, end) {
			items = append(items, api.Item{Key: keyOf(path), Value: n.value})
		}
	}
	for i := range 16 {
		if n.kids[i] == "" {
			continue
		}
		at := place + n.path
		if n.kind == 3 {
			at += string([]byte{byte(i)})
		}
		more, left, ok := gathered(n.kids[i], at, from, end, nodes)
		if !ok {
			return nil, nil, false
		}
		items, nodes = append(items, more...), left
	}
	return items, nodes, true
}

// behindOf is the least text of at most 8 bytes above one of them; "", if there is none.
func behindOf(key string) string {
	switch {
	case len(key) > 8:
		return ""
	case len(key) < 8:
		return key + "\x00"
	}
	for strings.HasSuffix(key, "\xff") { // bytes, not runes
		key = key[:len(key)-1]
	}
	if key == "" {
		return ""
	}
	return key[:len(key)-1] + string([]byte{key[len(key)-1] + 1})
}

// shows tells whether a page is one of a range, by the words.
func shows(root, from, end string, most int, p api.Page) bool {
	if len(p.Items) > most {
		return false
	}
	upTo := end
	if p.Next != "" {
		if len(p.Items) != most || behindOf(p.Items[most-1].Key) != p.Next || end != "" && strings.Compare(p.Next, end) >= 0 {
			return false
		}
		upTo = p.Next
	}
	if root == "" {
		return len(p.Nodes) == 0 && len(p.Items) == 0
	}
	items, left, ok := gathered(root, "", from, upTo, p.Nodes)
	return ok && len(left) == 0 && slices.Equal(items, p.Items)
}

// wantOf is what Verify is to answer.
func wantOf(root, from, end string, most int, p api.Page) ([]api.Item, string, api.Code) {
	switch {
	case most < 1 || most > 16:
		return nil, "", 1
	case !shows(root, from, end, most, p):
		return nil, "", 130
	}
	return p.Items, p.Next, 0
}

// plain is a trie as the words say it: its values by their keys.
type plain map[string]string

// plainOf is the trie of items.
func plainOf(l []api.Item) plain {
	p := plain{}
	for _, x := range l {
		p[x.Key] = x.Value
	}
	return p
}

// spotted is a node's bytes, and its place.
type spotted struct{ place, text string }

// spots is the trie's nodes, in order.
func (p plain) spots() []spotted {
	left := map[string]string{}
	for key, value := range p {
		left[pathOf(key)] = value
	}
	return spotsOf("", left)
}

// spotsOf is the nodes, from a place on, of values by what is left of their paths there.
func spotsOf(place string, left map[string]string) []spotted {
	if len(left) == 0 {
		return nil
	}
	begin := slices.Sorted(maps.Keys(left))[0]
	if len(left) == 1 {
		return []spotted{{place, leafText(begin, left[begin])}}
	}
	for len(cut(left, begin)) < len(left) {
		begin = begin[:len(begin)-1]
	}
	if begin != "" {
		below := spotsOf(place+begin, cut(left, begin))
		return append([]spotted{{place, extText(begin, sumOf(below[0].text))}}, below...)
	}
	kids, below := map[int]string{}, []spotted(nil)
	for i := range 16 {
		half := string([]byte{byte(i)})
		if l := spotsOf(place+half, cut(left, half)); l != nil {
			kids[i] = sumOf(l[0].text)
			below = append(below, l...)
		}
	}
	return append([]spotted{{place, branchText(left[""], kids)}}, below...)
}

// cut is what is left behind begin, of those that begin so.
func cut(left map[string]string, begin string) map[string]string {
	some := map[string]string{}
	for path, value := range left {
		if rest, ok := strings.CutPrefix(path, begin); ok {
			some[rest] = value
		}
	}
	return some
}

// items is all items, their keys rising.
func (p plain) items() []api.Item {
	var l []api.Item
	for _, key := range slices.Sorted(maps.Keys(p)) {
		l = append(l, api.Item{Key: key, Value: p[key]})
	}
	return l
}

// within is the items of a range, their keys rising.
func (p plain) within(from, end string) []api.Item {
	return slices.DeleteFunc(p.items(), func(x api.Item) bool { return !inRange(x.Key, from, end) })
}

// page is what Prove is to answer of a trie of these items, with all of its nodes.
func (p plain) page(all []spotted, from, end string, most int) api.Page {
	g, upTo := api.Page{Items: p.within(from, end)}, end
	if len(g.Items) > most {
		g.Items = g.Items[:most]
		g.Next = behindOf(g.Items[most-1].Key)
		upTo = g.Next
	}
	for _, s := range all {
		if plays(s.place, from, upTo) {
			g.Nodes = append(g.Nodes, s.text)
		}
	}
	return g
}

// rootOf is the root of a trie of these nodes.
func rootOf(all []spotted) string {
	if len(all) == 0 {
		return ""
	}
	return sumOf(all[0].text)
}

// trieOf is a trie of items, which Of is not to refuse.
func trieOf(t testing.TB, l []api.Item) *trie.Trie {
	t.Helper()
	x, e := trie.Of(l)
	if e != api.OK {
		t.Fatalf("Of(%q): %d", l, e)
	}
	return x
}

// same tells whether two pages are.
func same(a, b api.Page) bool {
	return slices.Equal(a.Items, b.Items) && a.Next == b.Next && slices.Equal(a.Nodes, b.Nodes)
}

// copyOf is the same page in other memory.
func copyOf(p api.Page) api.Page {
	return api.Page{Items: slices.Clone(p.Items), Next: p.Next, Nodes: slices.Clone(p.Nodes)}
}

// wantVerify holds two calls of Verify to what a test says of a page, and that to the words.
func wantVerify(t *testing.T, root, from, end string, most int, p api.Page, want api.Code) {
	t.Helper()
	if e := wantByWords(t, root, from, end, most, p); e != want {
		t.Fatalf("by the words and by Verify %d, by the test %d: of %x, %q, %q, %d, %q", e, want, root, from, end, most, p)
	}
	ahead := copyOf(p)
	wantByWords(t, root, from, end, most, p)
	if !same(p, ahead) {
		t.Fatal("the page has changed")
	}
}

// wantNothing holds Verify to refusing a page.
func wantNothing(t *testing.T, root, from, end string, most int, p api.Page) {
	t.Helper()
	wantVerify(t, root, from, end, most, p, 130)
}

// wantByWords holds a call of Verify to the words, and tells the code.
func wantByWords(t *testing.T, root, from, end string, most int, p api.Page) api.Code {
	t.Helper()
	items, next, want := wantOf(root, from, end, most, p)
	l, at, e := Verify(root, from, end, most, p)
	if !slices.Equal(l, items) || at != next || e != want {
		t.Fatalf("Verify(%x, %q, %q, %d, %q) = %q, %q, %d, want %q, %q, %d", root, from, end, most, p, l, at, e, items, next, want)
	}
	return want
}

// wantProve holds two calls of Prove to a page.
func wantProve(t *testing.T, x *trie.Trie, from, end string, most int, want api.Page) {
	t.Helper()
	for range 2 {
		if p, e := Prove(x, from, end, most); !same(p, want) || e != api.OK {
			t.Fatalf("Prove(%q, %q, %d) = %q, %d, want %q", from, end, most, p, e, want)
		}
	}
}

// wantPage holds Prove and Verify to a page of a range that a test has written down, and that to the words.
func wantPage(t *testing.T, x *trie.Trie, p plain, from, end string, most int, want api.Page) {
	t.Helper()
	all := p.spots()
	if by := p.page(all, from, end, most); !same(by, want) {
		t.Fatalf("of %q, %q, %d by the words %q, by the test %q", from, end, most, by, want)
	}
	wantProve(t, x, from, end, most, want)
	wantVerify(t, rootOf(all), from, end, most, want, 0)
}

// told is all that a trie tells, in one text.
func told(x *trie.Trie) string {
	l := slices.Concat([]string{x.Root()}, x.Nodes())
	for _, item := range x.Items() {
		l = append(l, item.Key, item.Value)
	}
	return strings.Join(l, "/")
}
