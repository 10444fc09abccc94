package proof

import (
	"math/rand"
	"slices"
	"strconv"
	"strings"
	"testing"
	"unsafe"

	"pharos/api"
	"pharos/trie"
)

// most is a value of as many bytes as one may have.
var most = strings.Repeat("m", 32)

// itemsOf is items of keys and values by turns.
func itemsOf(l ...string) []api.Item {
	var items []api.Item
	for i := 0; i+1 < len(l); i += 2 {
		items = append(items, api.Item{Key: l[i], Value: l[i+1]})
	}
	return items
}

// many is n items of keys of two bytes.
func many(n int) []api.Item {
	var l []api.Item
	for i := range n {
		l = append(l, api.Item{Key: string([]byte{byte(i >> 8), byte(i)}), Value: strconv.Itoa(i)})
	}
	return l
}

// badKeys is texts that no item may have as its key.
func badKeys() []string {
	return []string{"", "abcdefghi", strings.Repeat("\x00", 9), strings.Repeat("\xff", 9), "abcdefgh\x00", strings.Repeat("a", 16), strings.Repeat("k", 1<<16)}
}

// asked is what a test has written down of a key: at how many of the trie's nodes the way leads along, by their numbers, and the value there.
type asked struct {
	key   string
	nodes []int
	value string
}

// sample is items, their nodes' bytes in order, and keys of it.
type sample struct {
	items []api.Item
	nodes []string
	keys  []asked
}

// way is the numbers of nodes.
func way(l ...int) []int { return l }

// samples is tries whose nodes are written out one by one, with a key of each kind.
func samples() []sample {
	var l []sample
	add := func(items []api.Item, nodes []string, keys ...asked) { l = append(l, sample{items, nodes, keys}) }
	kids := func(value string, l ...string) string { // places as texts, and nodes, by turns
		m := map[int]string{}
		for i := 0; i+1 < len(l); i += 2 {
			at, _ := strconv.Atoi(l[i])
			m[at] = sumOf(l[i+1])
		}
		return branchText(value, m)
	}
	add(nil, nil, asked{"a", nil, ""}, asked{"\x00", nil, ""}, asked{"abcdefgh", nil, ""}, asked{"\xff\xff\xff\xff\xff\xff\xff\xff", nil, ""})

	add(itemsOf("k", "v"), []string{leafText("\x06\x0b", "v")},
		asked{"k", way(0), "v"}, asked{"x", way(0), ""}, asked{"j", way(0), ""}, asked{"l", way(0), ""}, asked{"\xbb", way(0), ""}, // the first half byte is another one, and the last one
		asked{"kk", way(0), ""}, asked{"k\x00", way(0), ""}, asked{"kkkkkkkk", way(0), ""}, asked{"\x00", way(0), ""})
	add(itemsOf("abcdefgh", most), []string{leafText(pathOf("abcdefgh"), most)},
		asked{"abcdefgh", way(0), most}, asked{"abcdefg", way(0), ""}, asked{"a", way(0), ""}, asked{"abcdefgi", way(0), ""}, asked{"abcdefgx", way(0), ""}, asked{"bbcdefgh", way(0), ""}, asked{"b", way(0), ""})

	one, two := leafText("", "1"), leafText("", "2")
	fork := kids("", "1", one, "2", two)
	add(itemsOf("a", "1", "b", "2"), []string{extText("\x06", sumOf(fork)), fork, one, two},
		asked{"a", way(0, 1, 2), "1"}, asked{"b", way(0, 1, 3), "2"}, asked{"c", way(0, 1), ""}, asked{"`", way(0, 1), ""}, asked{"o", way(0, 1), ""},
		asked{"q", way(0), ""}, asked{"\x16", way(0), ""}, asked{"\x00", way(0), ""}, asked{"aa", way(0, 1, 2), ""}, asked{"b\x00", way(0, 1, 3), ""}, asked{"cc", way(0, 1), ""})

	below := leafText("\x02", "2")
	fork = kids("1", "6", below)
	add(itemsOf("a", "1", "ab", "2"), []string{extText("\x06\x01", sumOf(fork)), fork, below},
		asked{"a", way(0, 1), "1"}, asked{"ab", way(0, 1, 2), "2"}, asked{"ac", way(0, 1, 2), ""}, asked{"aq", way(0, 1), ""}, asked{"a\x00", way(0, 1), ""},
		asked{"abc", way(0, 1, 2), ""}, asked{"b", way(0), ""}, asked{"f", way(0), ""}, asked{"bb", way(0), ""}, asked{"aaaaaaaa", way(0, 1, 2), ""})

	a, b := leafText("\x00", "1"), leafText("\x00", "2") // a's own path ends at a branch without a value
	fork = kids("", "1", a, "2", b)
	add(itemsOf("a\x10", "1", "a\x20", "2"), []string{extText("\x06\x01", sumOf(fork)), fork, a, b},
		asked{"a", way(0, 1), ""}, asked{"a\x10", way(0, 1, 2), "1"}, asked{"a\x20", way(0, 1, 3), "2"}, asked{"a\x11", way(0, 1, 2), ""}, asked{"a\x30", way(0, 1), ""},
		asked{"a\x10\x00", way(0, 1, 2), ""}, asked{"a\x01", way(0, 1), ""}, asked{"\x61\x02", way(0, 1), ""}, asked{"\x60", way(0), ""})

	fork = kids("", "2", one, "3", two) // a ends within the extension
	add(itemsOf("ab", "1", "ac", "2"), []string{extText("\x06\x01\x06", sumOf(fork)), fork, one, two},
		asked{"a", way(0), ""}, asked{"ab", way(0, 1, 2), "1"}, asked{"ac", way(0, 1, 3), "2"}, asked{"ad", way(0, 1), ""}, asked{"aq", way(0), ""}, asked{"aba", way(0, 1, 2), ""}, asked{"ada", way(0, 1), ""})

	at := kids("", "1", one, "2", two) // \x21 ends at an extension, of which all is ahead
	in := extText("\x01", sumOf(at))
	top := kids("", "0", leafText("", "0"), "1", in)
	add(itemsOf("\x20", "0", "\x21\x11", "1", "\x21\x12", "2"), []string{extText("\x02", sumOf(top)), top, leafText("", "0"), in, at, one, two},
		asked{"\x20", way(0, 1, 2), "0"}, asked{"\x21", way(0, 1, 3), ""}, asked{"\x21\x11", way(0, 1, 3, 4, 5), "1"}, asked{"\x21\x12", way(0, 1, 3, 4, 6), "2"},
		asked{"\x21\x13", way(0, 1, 3, 4), ""}, asked{"\x21\x21", way(0, 1, 3), ""}, asked{"\x22", way(0, 1), ""}, asked{"\x20\x11", way(0, 1, 2), ""}, asked{"\x31", way(0), ""})

	in = leafText("\x01\x01", "1") // \x21 ends at a leaf, of which all is ahead
	top = kids("", "0", leafText("", "0"), "1", in)
	add(itemsOf("\x20", "0", "\x21\x11", "1"), []string{extText("\x02", sumOf(top)), top, leafText("", "0"), in},
		asked{"\x21", way(0, 1, 3), ""}, asked{"\x21\x11", way(0, 1, 3), "1"}, asked{"\x21\x12", way(0, 1, 3), ""}, asked{"\x21\x21", way(0, 1, 3), ""}, asked{"\x21\x11\x11", way(0, 1, 3), ""}, asked{"\x20", way(0, 1, 2), "0"})

	a, b = leafText("\x01", "1"), leafText("\x0f", "2") // a branch at the top, of the first and the last half byte
	add(itemsOf("\x01", "1", "\xff", "2"), []string{kids("", "0", a, "15", b), a, b},
		asked{"\x01", way(0, 1), "1"}, asked{"\xff", way(0, 2), "2"}, asked{"\x0f", way(0, 1), ""}, asked{"\xf1", way(0, 2), ""}, asked{"\x11", way(0), ""}, asked{"\xef", way(0), ""}, asked{"\xff\xff", way(0, 2), ""})
	return append(l, line())
}

// line is a trie of a branch for each half byte of its longest key: that has as many nodes on its way as there may be.
func line() sample {
	key := pathOf("\x00\x11\x22\x33\x44\x55\x66\x77")
	items := itemsOf(keyOf(key), "all")
	node := leafText("", "all")
	nodes, longest := []string{node}, way(0)
	for i := 15; i >= 0; i-- {
		value, kids := "", map[int]string{int(key[i]): sumOf(node)}
		if i > 0 && i%2 == 0 { // an item of each number of bytes
			value = "v" + strconv.Itoa(i)
			items = append(items, api.Item{Key: keyOf(key[:i]), Value: value})
		} else {
			other := key[:i] + "\x0f"
			if len(other)%2 == 1 {
				other += "\x0f"
			}
			leaf := leafText(other[i+1:], "o")
			kids[15] = sumOf(leaf)
			items = append(items, api.Item{Key: keyOf(other), Value: "o"})
			nodes = append(nodes, leaf)
		}
		node = branchText(value, kids)
		nodes = append([]string{node}, nodes...)
		for j := range longest {
			longest[j]++
		}
		longest = append(way(0), longest...)
	}
	s := sample{items: items, nodes: nodes, keys: []asked{{keyOf(key), longest, "all"}, {keyOf(key[:14]), longest[:15], "v14"}, {keyOf(key[:2]), longest[:3], "v2"}}}
	for i := 2; i <= 14; i += 2 {
		s.keys = append(s.keys, asked{keyOf(key[:i] + "\x0e\x0e"), longest[:i+1], ""})
	}
	return s
}

// of is the nodes of these numbers.
func of(nodes []string, numbers []int) []string {
	var l []string
	for _, i := range numbers {
		l = append(l, nodes[i])
	}
	return l
}

func TestExamples(t *testing.T) {
	x, node := trieOf(t, itemsOf("k", "v")), leafText("\x06\x0b", "v")
	for _, c := range []asked{{"k", nil, "v"}, {"x", nil, ""}} {
		wantProve(t, x, c.key, []string{node})
		wantVerify(t, sumOf(node), c.key, []string{node}, c.value, c.value != "", 0)
	}
	for _, x := range []*trie.Trie{trie.New(), trieOf(t, nil)} {
		wantProve(t, x, "k", nil)
	}
	wantVerify(t, "", "k", nil, "", false, 0)
	wantVerify(t, "", "k", []string{}, "", false, 0)
}

// TestSamples has tries, keys and proofs that are written down.
func TestSamples(t *testing.T) {
	for i, c := range samples() {
		x := trieOf(t, c.items)
		if !slices.Equal(x.Nodes(), c.nodes) {
			t.Fatalf("trie %d has the nodes %q, want %q", i, x.Nodes(), c.nodes)
		}
		ahead := told(x)
		for _, k := range c.keys {
			nodes := of(c.nodes, k.nodes)
			wantProve(t, x, k.key, nodes)
			wantVerify(t, x.Root(), k.key, nodes, k.value, k.value != "", 0)
		}
		if told(x) != ahead {
			t.Fatalf("trie %d has changed", i)
		}
	}
}

// TestOnlyItsOwnNodes changes each proof that is written down, in each way that leaves none.
func TestOnlyItsOwnNodes(t *testing.T) {
	for _, c := range samples() {
		root := ""
		if len(c.nodes) > 0 {
			root = sumOf(c.nodes[0])
		}
		for _, k := range c.keys {
			nodes := of(c.nodes, k.nodes)
			for i := range nodes { // one is not there, or there twice; the last ones are not there
				wantNoProof(t, root, k.key, slices.Delete(slices.Clone(nodes), i, i+1)...)
				wantNoProof(t, root, k.key, slices.Insert(slices.Clone(nodes), i, nodes[i])...)
				wantNoProof(t, root, k.key, nodes[:i]...) // the others lie in the spare room
				for j := range i {
					turned := slices.Clone(nodes)
					turned[i], turned[j] = turned[j], turned[i]
					wantNoProof(t, root, k.key, turned...)
				}
			}
			for _, more := range slices.Concat(c.nodes, []string{"", "x", leafText("", "v"), leafText(pathOf(k.key), "v")}) {
				for i := range len(nodes) + 1 {
					wantNoProof(t, root, k.key, slices.Insert(slices.Clone(nodes), i, more)...)
				}
				for i := range nodes {
					if nodes[i] != more {
						other := slices.Clone(nodes)
						other[i] = more
						wantNoProof(t, root, k.key, other...)
					}
				}
			}
			if len(nodes) > 0 {
				wantNoProof(t, root, k.key, slices.Concat(nodes, nodes)...)
			}
		}
	}
}

// TestEachBit changes each bit of each node, and takes a byte away or puts one more to it.
func TestEachBit(t *testing.T) {
	for _, c := range samples()[:6] {
		for _, k := range c.keys {
			nodes := of(c.nodes, k.nodes)
			for i, node := range nodes {
				var odd []string
				for j := range len(node) {
					for bit := range 8 {
						odd = append(odd, node[:j]+string([]byte{node[j] ^ 1<<bit})+node[j+1:])
					}
					odd = append(odd, node[:j]+node[j+1:], node[:j])
				}
				for _, text := range append(odd, node+"\x00", node+"x", "\x00"+node, node+node) {
					other := slices.Clone(nodes)
					other[i] = text
					wantNoProof(t, sumOf(c.nodes[0]), k.key, other...)
				}
			}
		}
	}
}

// TestOtherRoots holds proofs to no other root than their own: those of other lengths, of nodes below, and of other tags are none.
func TestOtherRoots(t *testing.T) {
	for _, c := range samples() {
		for _, k := range c.keys {
			nodes := of(c.nodes, k.nodes)
			roots := []string{"x", "\x00", strings.Repeat("z", 32), strings.Repeat("\x00", 32), strings.Repeat("z", 1<<16)}
			if len(nodes) > 0 {
				root := sumOf(nodes[0])
				roots = append(roots, "", root[:31], root+"\x00", "\x00"+root, root+root, root[1:]+root[:1], nodes[0], root[:31]+string([]byte{root[31] ^ 1}), string([]byte{root[0] ^ 128})+root[1:])
				for tag := range 9 {
					if tag != 1 {
						roots = append(roots, sumBy(byte(tag), nodes[0]))
					}
				}
				for _, node := range nodes[1:] {
					roots = append(roots, sumOf(node))
				}
			}
			for _, root := range roots {
				wantNoProof(t, root, k.key, nodes...)
				if root != "" {
					wantNoProof(t, root, k.key)
				}
			}
		}
	}
}

// TestOtherKeys holds proofs of one key to others: they are none, or what they say is as the trie has it.
func TestOtherKeys(t *testing.T) {
	for _, c := range samples() {
		x, p := trieOf(t, c.items), plainOf(c.items)
		both := [2]int{}
		for _, k := range c.keys {
			nodes := of(c.nodes, k.nodes)
			for _, other := range c.keys {
				if !wantByWords(t, x.Root(), other.key, nodes) {
					both[0]++
					continue
				}
				both[1]++
				if value, there, e := Verify(x.Root(), other.key, nodes); value != p[other.key] || there != (value != "") || e != api.OK {
					t.Fatalf("of %q %q, %v, %d", other.key, value, there, e)
				}
			}
		}
		if both[1] < len(c.keys) || len(c.nodes) > 2 && both[0] == 0 {
			t.Errorf("%d, %d", both[0], both[1])
		}
	}
}

// hand is nodes that a test puts together as no trie has them: the words ask a proof for no more than that they follow one another.
type hand struct {
	key   string
	nodes []string
	value string
	e     api.Code
}

// chain is nodes made from the last one on: each of the others is made of the sum of the one behind it.
func chain(last string, l ...func(kid string) string) []string {
	nodes := []string{last}
	for i := len(l) - 1; i >= 0; i-- {
		nodes = append([]string{l[i](sumOf(nodes[0]))}, nodes...)
	}
	return nodes
}

// ext is extensions of a path.
func ext(path string) func(string) string {
	return func(kid string) string { return extText(path, kid) }
}

// branch is branches with this value, a kid at this place, and another one, that is not there, at the next place.
func branch(value string, at int) func(string) string {
	return func(kid string) string {
		return branchText(value, map[int]string{at: kid, (at + 1) % 16: sumOf("none")})
	}
}

func TestNodesOfNoTrie(t *testing.T) {
	at8 := pathOf("abcdefgh")
	var halves []func(string) string
	for i := range len(at8) {
		halves = append(halves, branch("v", int(at8[i])))
	}
	deep := append(slices.Clone(halves), branch("v", 0))
	for i, c := range []hand{
		{"k", chain(leafText("", "v"), ext("\x06\x0b")), "v", 0}, // a leaf below an extension
		{"k", chain(leafText("\x0b", "v"), ext("\x06")), "v", 0},
		{"k", chain(leafText("\x0c", "v"), ext("\x06")), "", 0},
		{"k", chain(leafText("", "v"), ext("\x06")), "", 0}, // a leaf whose path is too short
		{"k", chain(leafText("\x0b\x00", "v"), ext("\x06")), "", 0},
		{"k", chain(leafText("\x06\x0b", "v"), ext("\x06")), "", 0},
		{"k", chain(leafText("", "v"), ext("\x06"), ext("\x0b")), "v", 0}, // an extension below another one
		{"k", chain(leafText("", "v"), ext("\x06\x0b"), ext("\x00")), "", 130},
		{"k", chain(leafText("", "v"), ext("\x06\x0b"), ext("\x00"))[:2], "", 0}, // nothing is left for its path
		{"k", chain(leafText("", "v"), ext("\x06\x0b\x00")), "", 130},
		{"k", chain(leafText("", "v"), ext("\x06\x0b\x00"))[:1], "", 0},
		{"k", chain(leafText("", "v"), ext("\x07")), "", 130},
		{"k", chain(leafText("", "v"), ext("\x0b\x06"))[:1], "", 0},
		{"k", chain(leafText("", "v"), ext(at8)), "", 130},
		{"abcdefgh", chain(leafText("", "v"), ext(at8)), "v", 0}, // an extension of all of the path
		{"abcdefgi", chain(leafText("", "v"), ext(at8))[:1], "", 0},
		{"abcdefgh", chain(leafText("", "v"), halves...), "v", 0},
		{"abcdefgh", chain(leafText("\x00", "v"), halves...), "", 0},
		{"abcdefgh", chain(leafText("", "v"), deep...)[:17], "v", 0}, // a branch's value, where nothing is left
		{"abcdefgh", chain(leafText("", "v"), deep...), "", 130},
		{"abcdefg", chain(leafText("", "v"), halves...)[:15], "v", 0},
		{"abcdefg", chain(leafText("", "v"), halves...)[:16], "", 130},
		{"k", chain(leafText("", "w"), branch("v", 6), branch("x", 11)), "w", 0}, // values of branches that are gone by
		{"k", chain(leafText("", "w"), branch("v", 6), branch("x", 12))[:2], "", 0},
		{"k", chain(leafText("", "w"), branch("v", 7), branch("x", 11))[:1], "", 0},
		{"k", chain(leafText("", "w"), branch("v", 7), branch("x", 11)), "", 130},
		{"k", chain(leafText("\x0b", "w"), branch("v", 6)), "w", 0},
		{"k", chain(leafText("\x06\x0b", "w"), branch("v", 6)), "", 0},
		{"k", chain(leafText("", "w"), ext("\x06\x0b"), branch("v", 6)), "", 130},
		{"k", chain(leafText("", "w"), ext("\x06\x0b"), branch("v", 6))[:2], "v", 0},
		{"k", chain(leafText("", "w"), ext("\x06\x0b"), branch("", 6)), "", 130},
		{"k", chain(branchText("", map[int]string{0: sumOf("a"), 15: sumOf("b")}), ext("\x06\x0b")), "", 0}, // no value
		{"k", chain(leafText("\x06", "v"), ext("\x0b")), "", 130},                                           // the halves of the byte, turned
		{"\xff", chain(leafText("\x0f", "v"), branch("", 14)), "", 130},                                     // the other kid is sought
		{"\xff", []string{branchText("v", map[int]string{15: sumOf("text")}), "text"}, "", 130},             // it has the sum, and is no node
		{"\xff", []string{branchText("v", map[int]string{15: sumOf("")}), ""}, "", 130},
		{"\xff", []string{extText("\x0f", sumOf("text")), "text"}, "", 130},
		{"\xff", chain(leafText("\x0f", most), branch(most, 15)), most, 0},                                       // as great as they may be
		{"\xff", chain(leafText("\x0f", "\x00"), branch("\x00", 15)), "\x00", 0},                                 // a value of a byte 0 is one
		{"\xff", chain(leafText("\x0f", leafText("\x0f", "v")), branch("", 15)), "\x01\x01\x01\x3f\x01\x01v", 0}, // a value that is a node's bytes
	} {
		t.Logf("case %d", i)
		wantVerify(t, sumOf(c.nodes[0]), c.key, c.nodes, c.value, c.value != "", c.e)
	}
}

// noNodes is texts that are the bytes of no node that may be.
func noNodes() []string {
	full, kid := leafText("\x06\x0b", "v"), sumOf("kid")
	long, path17 := leafText("\x06\x0b", "v"+most), strings.Repeat("\x01", 17)
	pair := branchText("v", map[int]string{6: kid, 7: kid})
	return []string{
		"", "x", "text", "\x00", "\x01", "\x02", "\x03", strings.Repeat("\x01", 1<<16),
		"\x00" + full[1:], "\x02" + full[1:], "\x03" + full[1:], "\x04" + full[1:], "\xff" + full[1:], "\x11" + full[1:], // kinds
		"\x04" + pair[1:], "\x00" + pair[1:], "\x01" + pair[1:], "\x02" + pair[1:],
		full + "\x00", full + "x", full + full, pair + "\x00", pair + kid, extText("\x06", kid) + "\x00", extText("\x06", kid) + kid, // bytes behind it
		full[:len(full)-1], full[1:], pair[:len(pair)-1], extText("\x06", kid)[:33], extText("\x06", kid[:31]), // bytes too few
		leafText("\x06\x0b", ""), long, leafText(path17, "v"), leafText(path17+"\x01", "v"),
		extText("", kid), extText(path17, kid), extText("\x06", ""),
		branchText("", nil), branchText("v", nil), branchText("", map[int]string{6: kid}), branchText("v"+most, map[int]string{6: kid, 7: kid}),
		branchText("v", map[int]string{6: kid[:31], 7: kid}),
		"\x01" + packed("\x06\x0b", 0) + text("v"), "\x02" + packed("\x06", 2) + kid, // packed as the other one
		"\x01" + text("\x26\x6b") + text("v"), "\x01" + text("\x46\x6b") + text("v"), "\x01" + text("") + text("v"), // no packed path
		"\x01" + "\x02\x00\x02\x20\x6b" + text("v"), "\x01" + packed("\x06\x0b", 2) + "\x02\x00\x01v", // a number with a byte 0 ahead
	}
}

// TestNoNodes has texts that are no node, and have the sum that is sought: at first, and below others.
func TestNoNodes(t *testing.T) {
	for i, s := range noNodes() {
		t.Logf("text %d", i)
		for _, key := range []string{"k", "a", "abcdefgh", "\x00"} {
			wantNoProof(t, sumOf(s), key, s)
			half, path := int(pathOf(key)[0]), pathOf(key)
			for _, l := range [][]string{
				chain(s, branch("v", half)), chain(s, ext(path[:1])), chain(s, ext(path)), chain(s, branch("", half), branch("v", int(path[1]))),
				append(chain(s, branch("v", half)), leafText("", "v")), append(chain(s, ext(path[:1])), leafText(path[1:], "v")),
			} {
				wantNoProof(t, sumOf(l[0]), key, l...)
			}
		}
	}
}

// TestRootOfNothing has the root of no items, with any nodes.
func TestRootOfNothing(t *testing.T) {
	good := leafText("\x06\x0b", "v")
	for _, key := range []string{"k", "\x00", "abcdefgh", "\xff"} {
		wantVerify(t, "", key, nil, "", false, 0)
		wantVerify(t, "", key, make([]string, 0, 3), "", false, 0)
		for _, l := range [][]string{{""}, {"x"}, {good}, {leafText("", "v")}, {good, good}, {"", ""}, make([]string, 1000)} {
			wantNoProof(t, "", key, l...)
		}
	}
}

// TestBadKeys has keys that may not be, with nodes that are a proof, and with all else wrong: the key is told first.
func TestBadKeys(t *testing.T) {
	all := samples()
	for _, key := range badKeys() {
		for _, c := range all {
			x := trieOf(t, c.items)
			ahead := told(x)
			for range 2 {
				if nodes, e := Prove(x, key); len(nodes) != 0 || e != api.ErrRange {
					t.Fatalf("Prove(%.20q) = %q, %d", key, nodes, e)
				}
			}
			if told(x) != ahead {
				t.Fatal("the trie has changed")
			}
			for _, k := range c.keys {
				nodes := of(c.nodes, k.nodes)
				wantVerify(t, x.Root(), key, nodes, "", false, 1)
				wantVerify(t, "x", key, nodes, "", false, 1)
				wantVerify(t, x.Root(), key, append(nodes, "x"), "", false, 1)
			}
		}
		for _, root := range []string{"", "x", strings.Repeat("z", 32), sumOf("text"), sumOf("")} {
			for _, l := range [][]string{nil, {""}, {"text"}, {leafText("", "v")}, {"text", "text"}} {
				wantVerify(t, root, key, l, "", false, 1)
			}
		}
	}
	for n := 1; n <= 8; n++ { // of 1 to 8 bytes all may be
		for _, b := range []string{"\x00", "a", "\xff"} {
			key := strings.Repeat(b, n)
			x := trieOf(t, itemsOf(key, "v"))
			wantProve(t, x, key, []string{leafText(pathOf(key), "v")})
			wantVerify(t, x.Root(), key, []string{leafText(pathOf(key), "v")}, "v", true, 0)
			wantProve(t, trie.New(), key, nil)
			wantVerify(t, "", key, nil, "", false, 0)
		}
	}
}

// wantProofs holds proofs of all these keys to the trie's values.
func wantProofs(t *testing.T, x *trie.Trie, p plain, keys []string) {
	t.Helper()
	all := p.spots()
	for _, key := range keys {
		nodes := trail(all, key)
		wantProve(t, x, key, nodes)
		wantVerify(t, rootOf(all), key, nodes, p[key], p[key] != "", 0)
		for i := range nodes {
			wantNoProof(t, rootOf(all), key, nodes[:i]...)
		}
		wantNoProof(t, rootOf(all), key, append(nodes, "x")...)
	}
}

// around is keys that items' keys have something in common with, and these.
func around(l []api.Item) []string {
	keys := []string{"\x00", "a", "\xff", strings.Repeat("\xff", 8)}
	for _, x := range l {
		last := x.Key[len(x.Key)-1]
		keys = append(keys, x.Key, x.Key[:len(x.Key)-1], x.Key+"\x00", x.Key+"\xff", x.Key[:len(x.Key)-1]+string([]byte{last ^ 1}), x.Key[:len(x.Key)-1]+string([]byte{last ^ 16}))
	}
	slices.Sort(keys)
	return slices.DeleteFunc(slices.Compact(keys), func(key string) bool { return len(key) < 1 || len(key) > 8 })
}

// TestManyItems has tries of as many items as may be, and of a byte each.
func TestManyItems(t *testing.T) {
	l := many(1024)
	x := trieOf(t, l)
	for i, key := range around(l) {
		if i%7 == 0 {
			nodes, e := Prove(x, key)
			value, there, v := Verify(x.Root(), key, nodes)
			want, w := x.Get(key)
			if e != api.OK || v != api.OK || value != want || there != (w == api.OK) {
				t.Fatalf("of %q %q, %v, %d, %d", key, value, there, e, v)
			}
			if len(nodes) < 2 || len(nodes) > 5 {
				t.Fatalf("%d nodes", len(nodes))
			}
		}
	}
	wantProofs(t, x, plainOf(l), []string{"\x00\x00", "\x03\xff", "\x04\x00", "\x00", "\x01\x80\x00", "\xff"})
	var bytes []api.Item
	for i := range 256 {
		bytes = append(bytes, api.Item{Key: string([]byte{byte(i)}), Value: "v" + strconv.Itoa(i)})
	}
	var keys []string
	for _, x := range bytes {
		keys = append(keys, x.Key)
	}
	wantProofs(t, trieOf(t, bytes), plainOf(bytes), append(keys, "ab", "\x00\x00"))
}

// TestChangedTries holds proofs of tries that were made of one another each to its own root.
func TestChangedTries(t *testing.T) {
	l := itemsOf("a", "1", "ab", "2", "b", "3", "bcd", "4", "abcdefgh", "5")
	keys := append(around(l), "c", "q")
	x, p := trie.New(), plain{}
	for _, item := range append(l, l[1], l[0]) {
		next, f := x.Put(item.Key, item.Value+"x")
		if f != api.OK {
			t.Fatal(f)
		}
		q := plain{item.Key: item.Value + "x"}
		for key, value := range p {
			if key != item.Key {
				q[key] = value
			}
		}
		wantProofs(t, next, q, keys)
		wantProofs(t, x, p, keys)
		for _, key := range keys { // a proof by one root is no other one's, or says what holds by both
			nodes, _ := Prove(x, key)
			if wantByWords(t, next.Root(), key, nodes) && next.Root() != x.Root() {
				t.Errorf("of %q a proof by two roots", key)
			}
		}
		x, p = next, q
	}
}

// TestAllListsOfNodes holds all short lists of a trie's nodes, and other texts, to the words, by all roots and keys.
func TestAllListsOfNodes(t *testing.T) {
	l := itemsOf("a", "1", "ab", "2", "\x71", "3")
	p := plainOf(l)
	x := trieOf(t, l)
	texts := append(x.Nodes(), leafText("\x02", "9"), "x")
	roots := []string{"", sumOf("x"), strings.Repeat("z", 32)}
	for _, node := range x.Nodes() {
		roots = append(roots, sumOf(node))
	}
	proofs := 0
	var lists func(l []string)
	lists = func(l []string) {
		for _, key := range []string{"a", "ab", "ac", "abc", "b", "q", "p", "\x00", "\x06", "", "abcdefghi"} {
			for _, root := range roots {
				if !wantByWords(t, root, key, l) {
					continue
				}
				proofs++
				if value, there, _ := Verify(root, key, l); root == x.Root() && (value != p[key] || there != (value != "")) {
					t.Fatalf("%q shows %q of %q", l, value, key)
				}
			}
		}
		if len(l) < 4 {
			for _, s := range texts {
				lists(append(slices.Clone(l), s))
			}
		}
	}
	lists(nil)
	if proofs < 30 {
		t.Errorf("%d proofs", proofs)
	}
}

// TestListsAreTheirs changes lists that were handed in and out, behind their length too.
func TestListsAreTheirs(t *testing.T) {
	for _, c := range samples() {
		x := trieOf(t, c.items)
		ahead := told(x)
		for _, k := range c.keys {
			nodes, _ := Prove(x, k.key)
			other, _ := Prove(x, k.key)
			kept := slices.Clone(other)
			spare := nodes[:cap(nodes)]
			for i := range spare {
				spare[i] = "q"
			}
			if !slices.Equal(other, kept) || told(x) != ahead {
				t.Fatal("something else has changed")
			}
			wantProve(t, x, k.key, kept)

			room := append(slices.Clone(kept), "behind", leafText("", "v"), "")
			in := room[:len(kept)]
			was := slices.Clone(room)
			wantVerify(t, x.Root(), k.key, in, k.value, k.value != "", 0)
			if !slices.Equal(room, was) {
				t.Fatalf("the list is %q, was %q", room, was)
			}
			for i := range room {
				room[i] = "q"
			}
			wantVerify(t, x.Root(), k.key, kept, k.value, k.value != "", 0)
		}
	}
}

// lieOf is texts that lie in memory which a test can change.
type lieOf []byte

func (l lieOf) text(from, size int) string { return unsafe.String(&l[from], size) }

// TestTextsAreNotShared looks at where the texts lie, those of what was handed in too: nothing else could tell.
func TestTextsAreNotShared(t *testing.T) {
	l := itemsOf("abc", "first", "abd", "other", "abcd", most)
	x := trieOf(t, l)
	places := map[*byte]bool{}
	alone := func(s, what string) {
		if s == "" {
			return
		}
		if places[unsafe.StringData(s)] {
			t.Errorf("%s, %q, lies where another text does", what, s)
		}
		places[unsafe.StringData(s)] = true
	}
	for _, item := range x.Items() {
		alone(item.Value, "an item's value")
	}
	for range 2 {
		for _, key := range []string{"abc", "abd", "abcd", "x"} {
			nodes, _ := Prove(x, key)
			for _, node := range nodes {
				alone(node, "a node")
			}
			if value, _, e := Verify(x.Root(), key, nodes); e != api.OK {
				t.Fatal(e)
			} else {
				alone(value, "a value")
			}
		}
	}
	for _, c := range samples() {
		for _, k := range c.keys {
			nodes, root := of(c.nodes, k.nodes), ""
			if len(nodes) > 0 {
				root = sumOf(nodes[0])
			}
			lie := lieOf(root + k.key + strings.Join(nodes, ""))
			at := len(root) + len(k.key)
			if root != "" {
				root = lie.text(0, len(root))
			}
			key := lie.text(len(root), len(k.key))
			for i, node := range nodes {
				nodes[i] = lie.text(at, len(node))
				at += len(node)
			}
			value, there, e := Verify(root, key, nodes)
			for i := range lie {
				lie[i] = '!'
			}
			if value != k.value || there != (k.value != "") || e != api.OK {
				t.Fatalf("of %q %q, %v, %d, want %q", k.key, value, there, e, k.value)
			}
		}
	}
}

// few is the bytes that keys made by chance have, so that they have much in common.
const few = "\x60a\x01\x10\xff"

// itemsBy is items: each byte of steps is a key, what is left of the one ahead of it and one of few bytes more.
func itemsBy(steps string) []api.Item {
	var l []api.Item
	key := ""
	for i := range min(len(steps), 60) {
		left := min(len(key), int(steps[i]/5)%api.MaxKey)
		key = key[:left] + few[steps[i]%5:][:1]
		l = append(l, api.Item{Key: key, Value: "v" + strconv.Itoa(i)})
	}
	return l
}

// changedBy is a proof that is changed: each two bytes of turns say at which place, and how, by texts of which some lie there.
func changedBy(nodes, texts []string, turns string) []string {
	l := slices.Clone(nodes)
	for i := 0; i+1 < len(turns) && i < 16; i += 2 {
		at, how := int(turns[i])%(len(l)+1), int(turns[i+1])
		more := texts[how/8%len(texts)]
		switch {
		case how%8 < 3:
			l = slices.Insert(l, at, more)
		case at == len(l):
		case how%8 < 5:
			l = slices.Delete(l, at, at+1)
		case how%8 == 5:
			l[at] = more
		case how%8 == 6:
			l[at], l[0] = l[0], l[at]
		default:
			l[at] += "\x00"
		}
	}
	return l
}

// play holds a trie's proof of any key to the words, and so what is made of it, by the trie's root and by any other one.
func play(t *testing.T, steps, key, turns, root string) {
	t.Helper()
	l := itemsBy(steps)
	x, p := trieOf(t, l), plainOf(l)
	if len(key) < 1 || len(key) > 8 {
		if nodes, e := Prove(x, key); len(nodes) != 0 || e != api.ErrRange {
			t.Fatalf("Prove(%q) = %q, %d", key, nodes, e)
		}
		wantByWords(t, x.Root(), key, x.Trail(key))
		return
	}
	wantProofs(t, x, p, []string{key})
	nodes, _ := Prove(x, key)
	texts := append(x.Nodes(), "", root, leafText(pathOf(key), "v"))
	changed := changedBy(nodes, texts, turns)
	if wantByWords(t, x.Root(), key, changed) != slices.Equal(changed, nodes) {
		t.Fatalf("of %q, changed, %q", nodes, changed)
	}
	wantByWords(t, root, key, changed)
	for _, s := range changed {
		wantByWords(t, sumOf(s), key, changed)
		wantByWords(t, sumOf(s), key, []string{s})
	}
}

func TestAnyProofs(t *testing.T) {
	r := rand.New(rand.NewSource(13))
	text := func(most int, bytes string) string {
		l := make([]byte, r.Intn(most+1))
		for i := range l {
			l[i] = byte(r.Intn(256))
			if bytes != "" {
				l[i] = bytes[int(l[i])%len(bytes)]
			}
		}
		return string(l)
	}
	for range 1500 {
		play(t, text(40, ""), text(9, few), text(6, ""), text(33, ""))
	}
}

func FuzzProof(f *testing.F) {
	f.Add("", "a", "", "")
	f.Add("\x00\x01\x06\x0b", "a", "\x00\x00", "x")
	f.Add("\x00\x06\x07\x08\x0c", "aa", "\x01\x05", leafText("\x06\x01", "v"))
	f.Add("\x01\x02\x03\x04\x09\x0e\x13", "\x60", "\x02\x07\x00\x06", extText("\x06", strings.Repeat("k", 32)))
	f.Add("\x01", "abcdefghi", "", branchText("v", map[int]string{6: strings.Repeat("k", 32)}))
	f.Fuzz(play)
}
