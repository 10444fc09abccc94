package span

import (
	"math"
	"math/rand"
	"runtime"
	"runtime/debug"
	"slices"
	"strconv"
	"strings"
	"testing"
	"unsafe"

	"pharos/api"
	"pharos/trie"
)

// greatest is a value of as many bytes as one may have.
var greatest = strings.Repeat("m", 32)

// high is so many bytes 255.
func high(n int) string { return strings.Repeat("\xff", n) }

// itemsOf is items of keys and values by turns.
func itemsOf(l ...string) []api.Item {
	var items []api.Item
	for i := 0; i+1 < len(l); i += 2 {
		items = append(items, api.Item{Key: l[i], Value: l[i+1]})
	}
	return items
}

// many is n items of keys of two bytes, rising.
func many(n int) []api.Item {
	var l []api.Item
	for i := range n {
		l = append(l, api.Item{Key: string([]byte{byte(i >> 8), byte(i)}), Value: strconv.Itoa(i)})
	}
	return l
}

// badMosts is numbers of items that no page may have at most.
func badMosts() []int {
	return []int{0, 17, -1, -16, 18, 256, 257, math.MaxInt, math.MinInt, math.MinInt + 1, 1 << 32, 1<<32 + 1}
}

// asked is a page of a range that a test has written down: its items and its nodes by their numbers.
type asked struct {
	from, end string
	most      int
	items     []int
	next      string
	nodes     []int
}

// sample is items, their keys rising, their nodes' bytes in order, and pages.
type sample struct {
	items []api.Item
	nodes []string
	pages []asked
}

// page is one of the sample's pages.
func (c sample) page(a asked) api.Page {
	p := api.Page{Next: a.next}
	for _, i := range a.items {
		p.Items = append(p.Items, c.items[i])
	}
	for _, i := range a.nodes {
		p.Nodes = append(p.Nodes, c.nodes[i])
	}
	return p
}

// root is the sample's root.
func (c sample) root() string {
	if len(c.nodes) == 0 {
		return ""
	}
	return sumOf(c.nodes[0])
}

// of is numbers.
func of(l ...int) []int { return l }

// fork is a branch of a value, places and nodes below them by turns.
func fork(value string, l ...any) string {
	m := map[int]string{}
	for i := 0; i+1 < len(l); i += 2 {
		m[l[i].(int)] = sumOf(l[i+1].(string))
	}
	return branchText(value, m)
}

// samples is tries whose nodes are written out one by one, with pages of ranges of each kind.
func samples() []sample {
	long := "abcdefgh"
	l := []sample{
		{nil, nil, []asked{{"", "", 1, nil, "", nil}, {"a", "b", 16, nil, "", nil}, {"b", "a", 3, nil, "", nil}, {"", "a", 1, nil, "", nil}, {high(9), "", 2, nil, "", nil}}},
		{itemsOf("k", "v"), []string{leafText("\x06\x0b", "v")}, []asked{
			{"", "", 1, of(0), "", of(0)}, {"", "", 16, of(0), "", of(0)}, {"k", "", 1, of(0), "", of(0)}, {"k", "k\x00", 1, of(0), "", of(0)}, {"j", "l", 2, of(0), "", of(0)},
			{"k\x00", "", 1, nil, "", of(0)}, {"", "k", 1, nil, "", of(0)}, {"l", "", 1, nil, "", of(0)}, {"z", "a", 1, nil, "", of(0)}, {"k", "k", 1, nil, "", of(0)}, {"k\x00", "k", 1, nil, "", of(0)},
			{"\xbb", "", 1, nil, "", of(0)}, {"", "\x00", 1, nil, "", of(0)},
		}},
		{itemsOf(long, greatest), []string{leafText(pathOf(long), greatest)}, []asked{
			{long, "", 1, of(0), "", of(0)}, {long + "\x00", "", 1, nil, "", of(0)}, {"", long, 1, nil, "", of(0)}, {"", long + "\x00", 1, of(0), "", of(0)}, {"abcdefg", "abcdefgi", 1, of(0), "", of(0)}, {"abcdefgi", "", 1, nil, "", of(0)},
		}},
	}
	l = append(l, threeKeys(), valueWithin(), extWithin(), leafWithin(), longKeys(), lastKeys(), farApart())
	return l
}

// threeKeys is the chapter's example, with more ranges.
func threeKeys() sample {
	a, b, c := leafText("", "1"), leafText("", "2"), leafText("", "3")
	at := fork("", 1, a, 2, b, 3, c)
	return sample{itemsOf("a", "1", "b", "2", "c", "3"), []string{extText("\x06", sumOf(at)), at, a, b, c}, []asked{
		{"b", "c", 5, of(1), "", of(0, 1, 3)}, // the chapter's examples
		{"b", "", 1, of(1), "b\x00", of(0, 1, 3)},
		{"", "", 16, of(0, 1, 2), "", of(0, 1, 2, 3, 4)}, {"", "", 4, of(0, 1, 2), "", of(0, 1, 2, 3, 4)},
		{"", "", 3, of(0, 1, 2), "", of(0, 1, 2, 3, 4)}, {"", "", 2, of(0, 1), "b\x00", of(0, 1, 2, 3)}, {"", "", 1, of(0), "a\x00", of(0, 1, 2)}, // just as many, and fewer
		{"a", "", 3, of(0, 1, 2), "", of(0, 1, 2, 3, 4)}, {"a\x00", "", 1, of(1), "b\x00", of(0, 1, 2, 3)}, {"a", "b", 1, of(0), "", of(0, 1, 2)}, {"a", "b\x00", 1, of(0), "a\x00", of(0, 1, 2)},
		{"b\x00", "", 16, of(2), "", of(0, 1, 3, 4)}, {"c", "", 1, of(2), "", of(0, 1, 4)}, {"c\x00", "", 1, nil, "", of(0, 1, 4)}, {"bb", "", 1, of(2), "", of(0, 1, 3, 4)},
		{"", "a", 1, nil, "", of(0, 1)}, {"", "a\x00", 1, of(0), "", of(0, 1, 2)}, {"", "c", 2, of(0, 1), "", of(0, 1, 2, 3)}, {"", "c", 1, of(0), "a\x00", of(0, 1, 2)},
		{"d", "", 1, nil, "", of(0, 1)}, {"o", "", 1, nil, "", of(0, 1)}, {"p", "", 1, nil, "", of(0)}, {"\xff", "", 1, nil, "", of(0)}, {"\x00", "P", 1, nil, "", of(0)}, {"", "\x00", 1, nil, "", of(0)}, {"", "`", 1, nil, "", of(0, 1)},
		{"b", "a", 1, nil, "", of(0, 1)}, {"b", "b", 1, nil, "", of(0, 1)}, {"c", "b", 16, nil, "", of(0, 1)}, {"q", "a", 1, nil, "", of(0)}, {"b\x00", "b", 2, nil, "", of(0, 1)}, {"b\x00", "b\x00", 2, nil, "", of(0, 1, 3)},
	}}
}

// valueWithin has a branch with a value, and another one below it.
func valueWithin() sample {
	aa, ab, b := leafText("", "2"), leafText("", "3"), leafText("", "4")
	below := fork("", 1, aa, 2, ab)
	a := fork("1", 6, below)
	at := fork("", 1, a, 2, b)
	return sample{itemsOf("a", "1", "aa", "2", "ab", "3", "b", "4"), []string{extText("\x06", sumOf(at)), at, a, below, aa, ab, b}, []asked{
		{"", "", 16, of(0, 1, 2, 3), "", of(0, 1, 2, 3, 4, 5, 6)}, {"", "", 4, of(0, 1, 2, 3), "", of(0, 1, 2, 3, 4, 5, 6)},
		{"", "", 3, of(0, 1, 2), "ab\x00", of(0, 1, 2, 3, 4, 5)}, {"", "", 2, of(0, 1), "aa\x00", of(0, 1, 2, 3, 4)}, {"", "", 1, of(0), "a\x00", of(0, 1, 2)},
		{"a", "b", 3, of(0, 1, 2), "", of(0, 1, 2, 3, 4, 5)}, {"a\x00", "", 1, of(1), "aa\x00", of(0, 1, 2, 3, 4)}, // the branch's own value is out of the range, and its place plays a part
		{"a\x00", "a`", 5, nil, "", of(0, 1, 2, 3)}, {"a\x00", "a\x10", 5, nil, "", of(0, 1, 2)}, {"aa", "ab", 2, of(1), "", of(0, 1, 2, 3, 4)}, {"aa\x00", "ab", 2, nil, "", of(0, 1, 2, 3, 4)},
		{"ac", "", 2, of(3), "", of(0, 1, 2, 3, 6)}, {"ab", "", 1, of(2), "ab\x00", of(0, 1, 2, 3, 5)}, {"b", "", 1, of(3), "", of(0, 1, 6)}, {"aq", "b", 2, nil, "", of(0, 1, 2)},
		{"", "a", 2, nil, "", of(0, 1)}, {"", "a\x00", 2, of(0), "", of(0, 1, 2)}, {"", "aa", 2, of(0), "", of(0, 1, 2, 3)}, {"b\x00", "", 3, nil, "", of(0, 1, 6)}, {"c", "", 3, nil, "", of(0, 1)},
		{"p", "", 3, nil, "", of(0)}, {"", "P", 3, nil, "", of(0)}, {"c", "a", 3, nil, "", of(0, 1)}, {"ab", "aa", 3, nil, "", of(0, 1, 2, 3)}, {"aa", "a\x00", 3, nil, "", of(0, 1, 2)},
	}}
}

// extWithin has an extension below a branch: ranges begin and end at its place, within its path, and behind it.
func extWithin() sample {
	zero, one, two := leafText("", "0"), leafText("", "1"), leafText("", "2")
	below := fork("", 1, one, 2, two)
	ext := extText("\x01", sumOf(below))
	at := fork("", 0, zero, 1, ext)
	return sample{itemsOf("\x20", "0", "\x21\x11", "1", "\x21\x12", "2"), []string{extText("\x02", sumOf(at)), at, zero, ext, below, one, two}, []asked{
		{"", "", 3, of(0, 1, 2), "", of(0, 1, 2, 3, 4, 5, 6)}, {"\x21", "", 2, of(1, 2), "", of(0, 1, 3, 4, 5, 6)}, {"\x21\x10", "", 1, of(1), "\x21\x11\x00", of(0, 1, 3, 4, 5)},
		{"\x21\x12", "", 2, of(2), "", of(0, 1, 3, 4, 6)}, {"\x21\x20", "", 2, nil, "", of(0, 1, 3)}, {"\x21\x01", "\x21\x02", 2, nil, "", of(0, 1, 3)}, {"\x21\x01", "", 2, of(1, 2), "", of(0, 1, 3, 4, 5, 6)},
		{"\x22", "", 2, nil, "", of(0, 1)}, {"", "\x21", 2, of(0), "", of(0, 1, 2)}, {"", "\x21\x11", 2, of(0), "", of(0, 1, 2, 3, 4)}, {"", "\x21\x10", 2, of(0), "", of(0, 1, 2, 3, 4)}, {"", "\x21\x0f", 2, of(0), "", of(0, 1, 2, 3)},
		{"", "", 1, of(0), "\x20\x00", of(0, 1, 2)}, {"\x20\x00", "", 1, of(1), "\x21\x11\x00", of(0, 1, 2, 3, 4, 5)}, {"\x21\x13", "", 1, nil, "", of(0, 1, 3, 4)}, {"\x21\x20", "\x21\x10", 1, nil, "", of(0, 1, 3)},
	}}
}

// leafWithin has a leaf of which some is left below a branch.
func leafWithin() sample {
	zero, one := leafText("", "0"), leafText("\x01\x01", "1")
	at := fork("", 0, zero, 1, one)
	return sample{itemsOf("\x20", "0", "\x21\x11", "1"), []string{extText("\x02", sumOf(at)), at, zero, one}, []asked{
		{"", "", 2, of(0, 1), "", of(0, 1, 2, 3)}, {"\x21\x12", "", 1, nil, "", of(0, 1, 3)}, {"\x21\x11\x00", "", 1, nil, "", of(0, 1, 3)}, {"\x22", "", 1, nil, "", of(0, 1)},
		{"", "\x21\x11", 3, of(0), "", of(0, 1, 2, 3)}, {"", "\x21", 3, of(0), "", of(0, 1, 2)}, {"\x21\x11", "\x21\x11\x00", 1, of(1), "", of(0, 1, 3)}, {"\x21\x10", "\x21\x11", 1, nil, "", of(0, 1, 3)},
		{"\x21", "", 1, of(1), "", of(0, 1, 3)}, {"", "", 1, of(0), "\x20\x00", of(0, 1, 2)}, {"\x21\x12", "\x21\x11", 1, nil, "", of(0, 1, 3)},
	}}
}

// longKeys has keys of as many bytes as may be: what is behind them is no longer.
func longKeys() sample {
	e, f, h := leafText("", "1"), leafText("", "2"), leafText("", "3")
	below := fork("", 14, e, 15, f)
	ext := extText("\x0f", sumOf(below))
	at := fork("", 7, ext, 8, h)
	return sample{itemsOf("abcdefg\xfe", "1", "abcdefg\xff", "2", "abcdefh", "3"), []string{extText(pathOf("abcdef")+"\x06", sumOf(at)), at, ext, below, e, f, h}, []asked{
		{"", "", 3, of(0, 1, 2), "", of(0, 1, 2, 3, 4, 5, 6)}, {"", "", 1, of(0), "abcdefg\xff", of(0, 1, 2, 3, 4)}, {"", "", 2, of(0, 1), "abcdefh", of(0, 1, 2, 3, 4, 5)},
		{"abcdefg\xff", "", 1, of(1), "abcdefh", of(0, 1, 2, 3, 5)}, {"abcdefh", "", 1, of(2), "", of(0, 1, 6)}, {"", "abcdefh", 2, of(0, 1), "", of(0, 1, 2, 3, 4, 5)},
		{"", "abcdefh", 1, of(0), "abcdefg\xff", of(0, 1, 2, 3, 4)}, {"abcdefg\xff", "abcdefh", 1, of(1), "", of(0, 1, 2, 3, 5)}, {"abcdefg\xff\x00", "abcdefh", 1, nil, "", of(0, 1, 2, 3, 5)},
		{"abcdefg\xff", "abcdefg\xff\x00", 1, of(1), "", of(0, 1, 2, 3, 5)}, {"abcdefg", "abcdefg\xf0", 1, nil, "", of(0, 1, 2, 3)}, {"abcdefg", "abcdefg\x0f", 1, nil, "", of(0, 1, 2)},
	}}
}

// lastKeys has the last key of all, behind which there is none.
func lastKeys() sample {
	e, f := leafText("", "1"), leafText("", "2")
	at := fork("", 14, e, 15, f)
	return sample{itemsOf(high(7)+"\xfe", "1", high(8), "2"), []string{extText(strings.Repeat("\x0f", 15), sumOf(at)), at, e, f}, []asked{
		{"", "", 2, of(0, 1), "", of(0, 1, 2, 3)}, {"", "", 1, of(0), high(8), of(0, 1, 2)}, {high(8), "", 1, of(1), "", of(0, 1, 3)}, {high(9), "", 1, nil, "", of(0, 1, 3)},
		{high(8) + "\x00", "", 1, nil, "", of(0, 1, 3)}, {"", high(9), 2, of(0, 1), "", of(0, 1, 2, 3)}, {"", high(8), 2, of(0), "", of(0, 1, 2)}, {high(7), "", 1, of(0), high(8), of(0, 1, 2)},
		{"", high(7), 1, nil, "", of(0)}, {high(9), high(10), 1, nil, "", of(0, 1, 3)}, {high(10), high(9), 1, nil, "", of(0, 1, 3)},
	}}
}

// farApart has a branch at the top, with the first and the last half byte.
func farApart() sample {
	first, last := leafText("\x01", "1"), leafText("\x0f", "2")
	return sample{itemsOf("\x01", "1", "\xff", "2"), []string{fork("", 0, first, 15, last), first, last}, []asked{
		{"", "", 2, of(0, 1), "", of(0, 1, 2)}, {"", "", 1, of(0), "\x01\x00", of(0, 1)}, {"\x01\x00", "", 1, of(1), "", of(0, 1, 2)}, {"\x02", "\xf0", 3, nil, "", of(0, 1, 2)},
		{"\x10", "\xe0", 3, nil, "", of(0)}, {"\x10", "\xf0", 3, nil, "", of(0, 2)}, {"\x00", "\x01", 2, nil, "", of(0, 1)}, {"\xff", "", 1, of(1), "", of(0, 2)}, {"\x0f", "\xff", 1, nil, "", of(0, 1, 2)}, {"\xff\x00", "", 1, nil, "", of(0, 2)},
	}}
}

// eachPage calls f with each page that is written down.
func eachPage(f func(c sample, a asked, p api.Page)) {
	for _, c := range samples() {
		for _, a := range c.pages {
			f(c, a, c.page(a))
		}
	}
}

func TestExamples(t *testing.T) {
	l := itemsOf("a", "1", "b", "2", "c", "3")
	x := trieOf(t, l)
	a, b, c := leafText("", "1"), leafText("", "2"), leafText("", "3")
	at := fork("", 1, a, 2, b, 3, c)
	nodes := []string{extText("\x06", sumOf(at)), at, b}
	wantPage(t, x, plainOf(l), "b", "c", 5, api.Page{Items: itemsOf("b", "2"), Nodes: nodes})
	wantPage(t, x, plainOf(l), "b", "", 1, api.Page{Items: itemsOf("b", "2"), Next: "b\x00", Nodes: nodes})
}

// TestSamples has tries, ranges and pages that are written down.
func TestSamples(t *testing.T) {
	for i, c := range samples() {
		x := trieOf(t, c.items)
		if !slices.Equal(x.Nodes(), c.nodes) || x.Root() != c.root() {
			t.Fatalf("trie %d has the nodes %q, want %q", i, x.Nodes(), c.nodes)
		}
		ahead := told(x)
		for _, a := range c.pages {
			wantPage(t, x, plainOf(c.items), a.from, a.end, a.most, c.page(a))
		}
		if told(x) != ahead {
			t.Fatalf("trie %d has changed", i)
		}
	}
}

// TestBadMosts has numbers that may not be, with pages that are right, and with all else wrong: the number is told first.
func TestBadMosts(t *testing.T) {
	for _, most := range badMosts() {
		eachPage(func(c sample, a asked, p api.Page) {
			x := trieOf(t, c.items)
			for range 2 {
				if p, e := Prove(x, a.from, a.end, most); !same(p, api.Page{}) || e != api.ErrRange {
					t.Fatalf("Prove(%q, %q, %d) = %q, %d", a.from, a.end, most, p, e)
				}
			}
			wantVerify(t, c.root(), a.from, a.end, most, p, 1)
			wantVerify(t, "x", a.from, a.end, most, p, 1)
			wantVerify(t, "", a.from, a.end, most, p, 1)
			wantVerify(t, c.root(), a.from, a.end, most, api.Page{Next: "x"}, 1)
			wantVerify(t, c.root(), a.from, a.end, most, api.Page{Items: many(20), Next: "x", Nodes: []string{"x"}}, 1)
			p.Nodes = append(p.Nodes, "x")
			wantVerify(t, c.root(), a.from, a.end, most, p, 1)
		})
	}
	l := many(16)
	for most := 1; most <= 16; most++ { // from 1 to 16 all may be
		wantPage(t, trie.New(), nil, "", "", most, api.Page{})
		p := plainOf(l)
		page := p.page(p.spots(), "", "", most)
		if len(page.Items) != most || (page.Next == "") != (most == 16) {
			t.Fatalf("%q", page)
		}
		wantPage(t, trieOf(t, l), p, "", "", most, page)
	}
}

// TestOnlyItsOwnNodes changes the nodes of each page that is written down, in each way: no other list of nodes shows it.
func TestOnlyItsOwnNodes(t *testing.T) {
	eachPage(func(c sample, a asked, p api.Page) {
		refused := func(nodes []string) {
			t.Helper()
			if !slices.Equal(nodes, p.Nodes) {
				wantNothing(t, c.root(), a.from, a.end, a.most, api.Page{Items: p.Items, Next: p.Next, Nodes: nodes})
			}
		}
		refused(nil)
		for i, node := range p.Nodes { // one is not there, or there twice; the last ones are not there; two are exchanged
			refused(slices.Delete(slices.Clone(p.Nodes), i, i+1))
			refused(slices.Insert(slices.Clone(p.Nodes), i, node))
			refused(append(slices.Clone(p.Nodes), node))
			refused(p.Nodes[:i]) // the others lie in the spare room
			refused(p.Nodes[i+1:])
			for j := range i {
				turned := slices.Clone(p.Nodes)
				turned[i], turned[j] = turned[j], turned[i]
				refused(turned)
			}
		}
		for _, more := range slices.Concat(c.nodes, []string{"", "x", leafText("", "v"), leafText("\x06\x0b", "v")}) {
			for i := range len(p.Nodes) + 1 {
				refused(slices.Insert(slices.Clone(p.Nodes), i, more))
			}
			for i := range p.Nodes {
				other := slices.Clone(p.Nodes)
				other[i] = more
				refused(other)
			}
		}
		refused(slices.Concat(p.Nodes, p.Nodes))
		refused(c.nodes)
	})
}

// TestEachBit changes each bit of each node, and takes a byte away or puts one more to it.
func TestEachBit(t *testing.T) {
	for _, c := range samples()[:6] {
		for k, a := range c.pages {
			p := c.page(a)
			for i, node := range p.Nodes {
				var odd []string
				for j := range len(node) {
					for bit := range 8 {
						if bit == (j+k)%8 || k < 2 {
							odd = append(odd, node[:j]+string([]byte{node[j] ^ 1<<bit})+node[j+1:])
						}
					}
					odd = append(odd, node[:j]+node[j+1:], node[:j])
				}
				for _, text := range append(odd, node+"\x00", node+"x", "\x00"+node, node+node) {
					other := copyOf(p)
					other.Nodes[i] = text
					wantNothing(t, c.root(), a.from, a.end, a.most, other)
				}
			}
		}
	}
}

// TestOtherRoots holds pages to no other root than their own: those of other lengths, of nodes below, and of other tags show nothing.
func TestOtherRoots(t *testing.T) {
	eachPage(func(c sample, a asked, p api.Page) {
		roots := []string{"x", "\x00", strings.Repeat("z", 32), strings.Repeat("\x00", 32), strings.Repeat("z", 1<<16)}
		if root := c.root(); root != "" {
			roots = append(roots, "", root[:31], root+"\x00", "\x00"+root, root+root, root[1:]+root[:1], p.Nodes[0], root[:31]+string([]byte{root[31] ^ 1}), string([]byte{root[0] ^ 128})+root[1:])
			for tag := range 9 {
				if tag != 1 {
					roots = append(roots, sumBy(byte(tag), p.Nodes[0]))
				}
			}
			for _, node := range c.nodes[1:] {
				roots = append(roots, sumOf(node))
			}
		}
		for _, root := range roots {
			wantNothing(t, root, a.from, a.end, a.most, p)
			wantNothing(t, root, a.from, a.end, a.most, api.Page{Nodes: []string{"x"}})
			if root != "" {
				wantNothing(t, root, a.from, a.end, a.most, api.Page{}) // no page but of the root "" is without nodes
				wantNothing(t, root, a.from, a.end, a.most, api.Page{Items: p.Items, Next: p.Next})
			}
		}
	})
}

// wantSound holds Verify to the words, and what it takes to what a trie of that root has.
func wantSound(t *testing.T, p plain, root, from, end string, most int, page api.Page) bool {
	t.Helper()
	if wantByWords(t, root, from, end, most, page) != 0 {
		return false
	}
	upTo := end
	if page.Next != "" {
		upTo = page.Next
	}
	if !slices.Equal(page.Items, p.within(from, upTo)) {
		t.Fatalf("of %q, %q, %d it takes %q", from, end, most, page)
	}
	return true
}

// TestOtherRanges holds each page to other ranges: it shows nothing of them, or what the trie has there.
func TestOtherRanges(t *testing.T) {
	for i, c := range samples() {
		p, taken, refused := plainOf(c.items), 0, 0
		for _, a := range c.pages {
			for _, b := range c.pages {
				for _, most := range []int{a.most, b.most, 1, 2, 16} {
					if wantSound(t, p, c.root(), b.from, b.end, most, c.page(a)) {
						taken++
					} else {
						refused++
					}
				}
			}
		}
		if taken < len(c.pages) || refused == 0 && i > 0 {
			t.Errorf("trie %d: %d taken, %d refused", i, taken, refused)
		}
	}
}

// otherItems is lists that are not l: one less, one more, another key or value, another order.
func otherItems(l, more []api.Item) [][]api.Item {
	var lists [][]api.Item
	for i, x := range l {
		lists = append(lists, slices.Delete(slices.Clone(l), i, i+1), slices.Insert(slices.Clone(l), i, x), l[:i], l[i+1:])
		for _, y := range []api.Item{{Key: x.Key, Value: "other"}, {Key: x.Key}, {Value: x.Value}, {}, {Key: x.Value, Value: x.Key}, {Key: x.Key + "\x00", Value: x.Value}, {Key: x.Key[:len(x.Key)-1], Value: x.Value}, {Key: x.Key, Value: x.Value + "\x00"}, {Key: x.Key + "12345678", Value: x.Value}} {
			other := slices.Clone(l)
			other[i] = y
			lists = append(lists, other)
		}
		for j := range i {
			turned := slices.Clone(l)
			turned[i], turned[j] = turned[j], turned[i]
			lists = append(lists, turned)
		}
	}
	for _, y := range append(more, api.Item{}, api.Item{Key: "k", Value: "v"}, api.Item{Key: "abcdefghi", Value: "v"}) {
		for i := range len(l) + 1 {
			lists = append(lists, slices.Insert(slices.Clone(l), i, y))
		}
	}
	return append(lists, nil, slices.Concat(l, l), slices.Concat(l, many(16)))
}

// TestOnlyItsOwnItems changes the items of each page: with its nodes no other ones are shown, go it on as it did, or not, or as it may behind them.
func TestOnlyItsOwnItems(t *testing.T) {
	eachPage(func(c sample, a asked, p api.Page) {
		for _, l := range otherItems(p.Items, c.items) {
			if slices.Equal(l, p.Items) {
				continue
			}
			nexts := []string{p.Next, "", "x"}
			if len(l) > 0 {
				nexts = append(nexts, behindOf(l[len(l)-1].Key))
			}
			for _, next := range nexts {
				other := api.Page{Items: l, Next: next, Nodes: p.Nodes}
				wantNothing(t, c.root(), a.from, a.end, a.most, other)
				wantNothing(t, "", a.from, a.end, a.most, other)
				wantSound(t, plainOf(c.items), c.root(), a.from, a.end, max(1, min(16, len(l))), other)
				wantSound(t, plainOf(c.items), c.root(), a.from, a.end, 16, other)
			}
		}
	})
}

// TestNexts has pages whose Next is not what is to be, with the nodes of what they are to reach.
func TestNexts(t *testing.T) {
	l := itemsOf("a", "1", "b", "2", "c", "3")
	p := plainOf(l)
	all := p.spots()
	cover := func(from, upTo string) []string {
		var nodes []string
		for _, s := range all {
			if plays(s.place, from, upTo) {
				nodes = append(nodes, s.text)
			}
		}
		return nodes
	}
	for i, c := range []struct {
		from, end string
		most      int
		items     []api.Item
		next      string
		want      api.Code
	}{
		{"", "", 2, l[:2], "b\x00", 0},
		{"", "", 2, l[:2], "", 130}, // there are more
		{"", "", 2, l[:2], "b", 130},
		{"", "", 2, l[:2], "c", 130}, // no item is between, and it is not what is behind b
		{"", "", 2, l[:2], "b\x00\x00", 130},
		{"", "", 2, l[:2], "b\x01", 130},
		{"", "", 2, l[:2], "bb", 130},
		{"", "", 2, l[:2], "a\x00", 130}, // behind the first one
		{"", "", 2, l[:2], "\x00", 130},
		{"", "", 2, l[:2], high(8), 130},
		{"", "", 3, l[:2], "b\x00", 130}, // fewer than most
		{"", "", 16, l[:2], "b\x00", 130},
		{"", "", 1, l[:2], "b\x00", 130}, // more than most
		{"", "", 1, l[:2], "", 130},
		{"", "c", 1, l[:2], "", 130},
		{"", "c", 2, l[:2], "", 0},
		{"", "c", 2, l[:2], "b\x00", 0},
		{"", "b\x00\x00", 2, l[:2], "b\x00", 0}, // just below the end
		{"", "b\x00", 2, l[:2], "b\x00", 130},   // at the end
		{"", "b", 2, l[:2], "b\x00", 130},       // above it
		{"", "a", 2, l[:2], "b\x00", 130},
		{"", "\x00", 2, l[:2], "b\x00", 130},
		{"", "b", 1, l[:1], "a\x00", 0},
		{"", "a\x00", 1, l[:1], "a\x00", 130},
		{"", "a\x00", 1, l[:1], "", 0},
		{"", "", 3, l, "", 0},
		{"", "", 3, l, "c\x00", 0}, // the words do not ask that there be more
		{"", "", 4, l, "c\x00", 130},
		{"", "", 1, nil, "a", 130}, // no item, behind which it could be
		{"", "", 1, nil, "\x00", 130},
		{"", "", 16, nil, "\x00", 130},
		{"b", "a", 1, nil, "\x00", 130},
		{"", "", 1, itemsOf("abcdefghi", "v"), "abcdefghi\x00", 130}, // behind a key that is too long there is none
		{"", "", 1, itemsOf("abcdefghi", "v"), "abcdefgi", 130},
		{"", "", 1, itemsOf(high(8), "v"), "\x00", 130}, // and none behind the last one
		{"", "", 1, itemsOf(high(8), "v"), high(8) + "\x00", 130},
		{"", "", 1, itemsOf("", "v"), "\x00", 130}, // what no node has
		{"", "", 1, itemsOf("q", "v"), "q\x00", 130},
		{"b", "", 1, itemsOf("a", "1"), "a\x00", 130}, // below the beginning
		{"c", "", 2, l[1:], "c\x00", 130},
		{"b", "", 2, l[1:], "c\x00", 0},
	} {
		t.Logf("case %d", i)
		upTo := c.end
		if c.next != "" {
			upTo = c.next
		}
		page := api.Page{Items: c.items, Next: c.next, Nodes: cover(c.from, upTo)}
		wantVerify(t, rootOf(all), c.from, c.end, c.most, page, c.want)
		for _, nodes := range [][]string{cover(c.from, c.end), cover("", ""), nil} { // with nodes of another range
			page.Nodes = nodes
			wantSound(t, p, rootOf(all), c.from, c.end, c.most, page)
		}
		if c.next != "" {
			wantNothing(t, "", c.from, c.end, c.most, api.Page{Items: c.items, Next: c.next})
		}
	}
	eachPage(func(c sample, a asked, p api.Page) { // each page that is written down, with each other Next
		nexts := []string{"", "\x00", "x", a.from, a.end, a.end + "\x00", behindOf(a.end), p.Next + "\x00", high(8), high(9)}
		for _, x := range append(c.items, p.Items...) {
			nexts = append(nexts, x.Key, behindOf(x.Key), x.Key+"\x01")
		}
		for _, next := range nexts {
			other := api.Page{Items: p.Items, Next: next, Nodes: p.Nodes}
			isBehind := len(p.Items) == a.most && next == behindOf(p.Items[a.most-1].Key)
			if wantSound(t, plainOf(c.items), c.root(), a.from, a.end, a.most, other) && next != p.Next && !isBehind {
				t.Fatalf("of %q, %q, %d it takes %q", a.from, a.end, a.most, other)
			}
		}
	})
}

// hand is nodes that a test puts together, as no trie may have them, and what they show of a range.
type hand struct {
	from, end string
	nodes     []string
	items     []api.Item
	want      api.Code
}

// chain is nodes made from the last one on: each of the others is made of the sum of the one behind it.
func chain(last string, l ...func(kid string) string) []string {
	nodes := []string{last}
	for i := len(l) - 1; i >= 0; i-- {
		nodes = append([]string{l[i](sumOf(nodes[0]))}, nodes...)
	}
	return nodes
}

// ext is extensions of a path.
func ext(path string) func(string) string {
	return func(kid string) string { return extText(path, kid) }
}

// branch is branches with this value, a kid at this place, and others, that are not there, at others.
func branch(value string, at int, others ...int) func(string) string {
	return func(kid string) string {
		m := map[int]string{}
		for _, i := range others {
			m[i] = sumOf("none")
		}
		m[at] = kid
		return branchText(value, m)
	}
}

// wantHand holds Verify to what nodes show, by the words and as it is written down.
func wantHand(t *testing.T, c hand) {
	t.Helper()
	wantVerify(t, sumOf(c.nodes[0]), c.from, c.end, 16, api.Page{Items: c.items, Nodes: c.nodes}, c.want)
	if c.want == 0 { // nor is a node too few or too many, nor an item
		for i := range c.nodes {
			wantNothing(t, sumOf(c.nodes[0]), c.from, c.end, 16, api.Page{Items: c.items, Nodes: c.nodes[:i]})
		}
		wantNothing(t, sumOf(c.nodes[0]), c.from, c.end, 16, api.Page{Items: c.items, Nodes: append(c.nodes, leafText("", "v"))})
		wantNothing(t, sumOf(c.nodes[0]), c.from, c.end, 16, api.Page{Items: append(c.items, api.Item{Key: "x", Value: "v"}), Nodes: c.nodes})
	}
}

// TestValuesOfNoKey has values whose paths are those of no key, in the range and out of it, and such ones whose nodes are not taken.
func TestValuesOfNoKey(t *testing.T) {
	at14, at15, at16 := strings.Repeat("\x06", 14), strings.Repeat("\x06", 15), strings.Repeat("\x06", 16)
	v := func(path string) []api.Item { return itemsOf(keyOf(path), "v") }
	for i, c := range []hand{
		{"", "", chain(leafText("\x06\x06", "v")), v("\x06\x06"), 0},
		{"", "", chain(leafText("", "v")), nil, 130}, // of no half bytes
		{"", "", chain(leafText("", "v")), itemsOf("", "v"), 130},
		{"a", "", chain(leafText("", "v")), nil, 130},
		{"", "a", chain(leafText("", "v")), nil, 130},
		{"", "", chain(leafText("\x06", "v")), nil, 130}, // an odd number
		{"", "", chain(leafText("\x06", "v")), itemsOf("", "v"), 130},
		{"q", "", chain(leafText("\x06", "v")), nil, 130},
		{"", "a", chain(leafText("\x06\x06\x06", "v")), nil, 130},
		{"", "", chain(leafText(at14, "v")), v(at14), 0},
		{"", "", chain(leafText(at15, "v")), nil, 130},
		{"", "", chain(leafText(at15, "v")), v(at14), 130},
		{"", "", chain(leafText(at16, "v")), v(at16), 0},
		{"", "", chain(leafText("", "v"), ext(at16)), v(at16), 0},
		{"", "", chain(leafText("\x06", "v"), ext(at15)), v(at16), 0},
		{"", "", chain(leafText("\x06", "v"), ext(at16)), nil, 130}, // 17
		{"", "", chain(leafText("\x06", "v"), ext(at16)), v(at16), 130},
		{"", "", chain(leafText("\x06\x06", "v"), ext(at16)), nil, 130}, // 18: a key of 9 bytes
		{"", "", chain(leafText("\x06\x06", "v"), ext(at16)), v(at16 + "\x06\x06"), 130},
		{"q", "", chain(leafText("\x06\x06", "v"), ext(at16)), nil, 130},
		{"q", "", chain(leafText("\x06\x06", "v"), ext(at16))[:1], nil, 0}, // not taken: below the beginning
		{"ffffffff\x66", "", chain(leafText("\x06\x06", "v"), ext(at16)), nil, 130},
		{"", "", chain(leafText("\x06\x06\x06", "v"), ext(at15)), nil, 130},
		{"", "", chain(leafText(at16, "v"), ext(at16)), nil, 130}, // 32
		{"", "", chain(leafText(at16, "v"), ext(at16), ext(at16)), nil, 130},
		{"", "", chain(leafText("", "v"), ext(at16), ext("\x06")), nil, 130},
		{"", "", chain(leafText("", "v"), ext(at16), ext("\x06\x06")), nil, 130},
		{"", "", chain(leafText("", "v"), branch("w", 6)), nil, 130}, // a branch at the top
		{"z", "", chain(leafText("\x06", "v"), branch("w", 6)), nil, 130},
		{"", "", chain(leafText("", "v"), ext("\x06"), branch("w", 6)), nil, 130}, // a branch at an odd number
		{"", "", chain(leafText("\x06", "v"), ext("\x06"), branch("w", 6)), nil, 130},
		{"", "", chain(leafText("\x06", "v"), ext("\x06\x06"), branch("w", 6)), itemsOf("f", "w", "ff", "v"), 0},
		{"f\x00", "", chain(leafText("\x06", "v"), ext("\x06\x06"), branch("w", 6)), itemsOf("ff", "v"), 0}, // its value is out of the range
		{"", "ff", chain(leafText("\x06", "v"), ext("\x06\x06"), branch("w", 6)), nil, 130},                 // and the leaf's place plays a part, but it has no item
		{"", "ff", chain(leafText("\x06", "v"), ext("\x06\x06"), branch("w", 6)), itemsOf("f", "w"), 0},
		{"", "f\x00", chain(leafText("\x06", "v"), ext("\x06\x06"), branch("w", 6))[:2], itemsOf("f", "w"), 0},
		{"", "f\x60", chain(leafText("\x06", "v"), ext("\x06\x06"), branch("w", 6)), itemsOf("f", "w"), 0},
		{"", "f\x60", chain(leafText("", "v"), ext("\x06\x06"), branch("w", 6)), itemsOf("f", "w"), 130}, // out of the range, and of no key
		{"f\xf0", "", chain(leafText("\x06", "v"), ext("\x06\x06"), branch("w", 6))[:2], nil, 0},
		{"", "", chain(leafText("", "v"), ext(at16), branch("w", 6)), nil, 130}, // a branch at 16, its kid at 17
		{"", "", chain(leafText("\x06", "v"), ext(at16), branch("w", 6)), nil, 130},
		{"", keyOf(at16) + "\x00", chain(leafText("\x06", "v"), ext(at16), branch("w", 6))[:2], itemsOf(keyOf(at16), "w"), 0}, // its kid is not taken
		{"", "", chain(leafText("", "v"), ext(at15), branch("", 6, 7)), v(at16), 130},                                         // the other kid is not there
		{"", keyOf(at15 + "\x07"), chain(leafText("", "v"), ext(at15), branch("", 6, 7)), v(at16), 0},
	} {
		t.Logf("case %d", i)
		wantHand(t, c)
	}
}

// TestNodesOfNoTrie has nodes that no trie has so: the words ask of them no more than that they have the sums that are sought.
func TestNodesOfNoTrie(t *testing.T) {
	twin, full := leafText("\x0f", "v"), leafText("\x0f", greatest)
	for i, c := range []hand{
		{"", "", chain(leafText("\x0b", "v"), ext("\x06")), itemsOf("k", "v"), 0}, // a leaf below an extension
		{"", "", chain(leafText("", "v"), ext("\x06"), ext("\x0b")), itemsOf("k", "v"), 0},
		{"", "", chain(leafText("\x0b", "v"), branch("", 6, 7)), itemsOf("k", "v"), 130}, // a kid that is not there
		{"", "o", chain(leafText("\x0b", "v"), branch("", 6, 7)), itemsOf("k", "v"), 0},  // it plays no part
		{"", "p", chain(leafText("\x0b", "v"), branch("", 6, 7)), itemsOf("k", "v"), 130},
		{"`", "o", chain(leafText("\x0b", "v"), branch("", 6, 5, 7)), itemsOf("k", "v"), 0},
		{"_", "o", chain(leafText("\x0b", "v"), branch("", 6, 5, 7)), itemsOf("k", "v"), 130},
		{"\x10", "\xef", []string{fork("", 0, "none", 15, "none")}, nil, 0},
		{"\x10", "\xf0", []string{fork("", 0, "none", 15, "none")}, nil, 130},
		{"\x0f", "\xef", []string{fork("", 0, "none", 15, "none")}, nil, 130},
		{"", "\x06", []string{extText("\x06", sumOf("none"))}, nil, 0}, // the byte 6 is ahead of the half byte 6
		{"p", "", []string{extText("\x06", sumOf("none"))}, nil, 0},
		{"o", "", []string{extText("\x06", sumOf("none"))}, nil, 130},
		{"\x66\x01", "\x66\x02", []string{extText("\x06\x06\x06", sumOf("none"))}, nil, 0},
		{"\x66\x01", "\x66\x61", []string{extText("\x06\x06\x06", sumOf("none"))}, nil, 130},
		{"a\x70", "a\x71", chain(fork("", 3, "none", 4, "none"), ext("\x06\x01"), branch("1", 7, 6)), nil, 0},
		{"a\x60", "a\x71", chain(fork("", 3, "none", 4, "none"), ext("\x06\x01"), branch("1", 7, 6)), nil, 130},
		{"a\x70", "a\x73", chain(fork("", 3, "none", 4, "none"), ext("\x06\x01"), branch("1", 7, 6)), nil, 0},
		{"a\x70", "a\x74", chain(fork("", 3, "none", 4, "none"), ext("\x06\x01"), branch("1", 7, 6)), nil, 130},
		{"", "", chain(leafText("\x06", greatest), branch("", 6)), nil, 130}, // a branch of one kid is no node
		{"", "", chain(leafText("\x06", greatest), branch("", 6)), itemsOf("f", greatest), 130},
		{"\xe0", "", chain(leafText("\x0f", twin), branch("", 15, 1)), itemsOf("\xff", twin), 0},      // a value that is a node's bytes
		{"\xe0", "", chain(full, branch(greatest, 15, 1)), itemsOf("\xff", greatest), 130},            // a value at the top
		{"\xe0", "", chain(full, branch("", 15, 1)), itemsOf("\xff", greatest), 0},                    // as great as it may be
		{"", "", []string{fork("", 1, twin, 15, twin), twin}, itemsOf("\x1f", "v"), 130},              // a node that two name is there for each of them
		{"", "", []string{fork("", 1, twin, 15, twin), twin}, itemsOf("\x1f", "v", "\xff", "v"), 130}, // once is not enough
		{"", "", []string{fork("", 1, twin, 15, twin), twin, twin}, itemsOf("\x1f", "v", "\xff", "v"), 0},
		{"", "\xf0", []string{fork("", 1, twin, 15, twin), twin, twin}, itemsOf("\x1f", "v"), 0},
		{"", "\xef", []string{fork("", 1, twin, 15, twin), twin}, itemsOf("\x1f", "v"), 0},
		{"\x20", "", []string{fork("", 1, twin, 15, twin), twin}, itemsOf("\xff", "v"), 0},
	} {
		t.Logf("case %d", i)
		wantHand(t, c)
	}
}

// TestFarBelow has places that are longer than any key's path: they play a part in ranges whose ends are as long.
func TestFarBelow(t *testing.T) {
	key := "abcdefgh"
	down := func(l ...string) (fs []func(string) string) { // extensions down the key, and further
		for _, path := range append([]string{pathOf(key)}, l...) {
			fs = append(fs, ext(path))
		}
		return fs
	}
	none := sumOf("none")
	pair := func(a, b int) string { return branchText("", map[int]string{a: none, b: none}) }
	zeros := strings.Repeat("\x00", 10)
	for i, c := range []hand{
		{"", key + "\x00", chain(extText("\x00\x00", none), down()...), nil, 0}, // the child's place is the end
		{"", key + "\x00", chain(extText("\x00", none), down()...), nil, 130},
		{"", key + "\x00", chain(pair(1, 2), down("\x00")...), nil, 0}, // the kids' places are above the end
		{"", key + "\x00", chain(pair(0, 15), down("\x00")...), nil, 0},
		{"", key + "\x01", chain(pair(0, 15), down("\x00")...), nil, 130},
		{"", key + "\x01", chain(pair(1, 15), down("\x00")...), nil, 0},
		{"", key + "\x10", chain(pair(1, 15), down("\x00")...), nil, 130},
		{key + "\xff", "", chain(pair(0, 14), down("\x0f")...), nil, 0}, // below the beginning
		{key + "\xff", "", chain(pair(0, 15), down("\x0f")...), nil, 130},
		{key + "\xff", "", chain(pair(0, 15), down("\x0e")...)[:2], nil, 0},
		{key + "\xf0", "", chain(pair(0, 14), down("\x0f")...), nil, 130},
		{key + "\x55", key + "\x56", chain(pair(4, 6), down("\x05")...), nil, 0}, // between both
		{key + "\x55", key + "\x56", chain(pair(4, 5), down("\x05")...), nil, 130},
		{key + "\x55", key + "\x56", chain(branchText("v", map[int]string{4: none, 6: none}), down("\x05")...), nil, 130}, // with a value of no key
		{key + "\x55", key + "\x56", chain(branchText("v", map[int]string{4: none, 6: none}), down("\x05")...), itemsOf(key, "v"), 130},
		{key + "\x55\x55", key + "\x55\x56", chain(branchText("v", map[int]string{4: none, 6: none}), down("\x05\x05")...), nil, 130},
		{key + "\x55\x55", key + "\x55\x57", chain(pair(4, 6), down("\x05\x05")...), nil, 0},
		{key + "\x55\x57", key + "\x55\x55", chain(pair(4, 6), down("\x05\x05\x05")...), nil, 0}, // an end that is not behind the beginning
		{key + "\x55\x57", key + "\x55\x55", chain(pair(5, 8), down("\x05\x05\x05")...), nil, 0},
		{key + "\x55\x57", key + "\x55\x55", chain(pair(5, 8), down("\x05\x05\x04")...), nil, 130},
		{key + zeros + "\x01", "", chain(extText("\x00\x00", none), down(zeros, zeros)...), nil, 0},
		{key + zeros + "\x01", "", chain(extText("\x00\x01", none), down(zeros, zeros)...), nil, 130},
		{key + zeros + "\x01", "", chain(leafText("\x00", "v"), down(zeros, zeros)...), nil, 130},
		{"", key + zeros + "\x01", chain(extText("\x00\x01", none), down(zeros, zeros)...), nil, 0},
		{"", key + zeros + "\x01", chain(extText("\x00\x00", none), down(zeros, zeros)...), nil, 130},
		{"", key + zeros + "\x01", chain(leafText("\x01", "v"), down(zeros, zeros)...), nil, 130},
	} {
		t.Logf("case %d", i)
		wantHand(t, c)
	}
}

// TestLongWays has very many nodes below one another, along a beginning or an end as long: calls within calls would be too many, and whole places too much.
func TestLongWays(t *testing.T) {
	const size = 1 << 17
	below := func(last string, one func(kid string) string) []string {
		nodes := make([]string, size+1)
		nodes[size] = last
		for i := size - 1; i >= 0; i-- {
			nodes[i] = one(sumOf(nodes[i+1]))
		}
		return nodes
	}
	none, along := sumOf("none"), strings.Repeat("\x00", size/2) // along has size half bytes
	for i, c := range []struct {
		from, end string
		nodes     []string
		want      api.Code
	}{
		{along + "\x01", "", below(extText("\x00\x00", none), ext("\x00")), 0},
		{"", along, below(fork("", 0, "none", 15, "none"), branch("", 0, 15))[:size], 0},
		{"", along + "\x00", below(fork("", 1, "none", 15, "none"), branch("", 0, 15)), 0},
		{"", "", below(leafText("", "v"), ext("\x00")), 130},
		{"", "", below(leafText("", "v"), branch("", 0, 15)), 130},
	} {
		root := sumOf(c.nodes[0])
		usual := debug.SetMaxStack(1 << 25) // 256 bytes for each node
		var ahead, behind runtime.MemStats
		runtime.ReadMemStats(&ahead)
		items, next, e := Verify(root, c.from, c.end, 16, api.Page{Nodes: c.nodes})
		runtime.ReadMemStats(&behind)
		debug.SetMaxStack(usual)
		if len(items) != 0 || next != "" || e != c.want {
			t.Errorf("way %d: %q, %q, %d, want %d", i, items, next, e, c.want)
		}
		if took := behind.TotalAlloc - ahead.TotalAlloc; took > size<<13 {
			t.Errorf("way %d: took %d bytes", i, took)
		}
	}
}

// noNodes is texts that are the bytes of no node that may be.
func noNodes() []string {
	full, kid := leafText("\x06\x0b", "v"), sumOf("kid")
	long, path17 := leafText("\x06\x0b", "v"+greatest), strings.Repeat("\x01", 17)
	pair := branchText("v", map[int]string{6: kid, 7: kid})
	return []string{
		"", "x", "text", "\x00", "\x01", "\x02", "\x03", strings.Repeat("\x01", 1<<16),
		"\x00" + full[1:], "\x02" + full[1:], "\x03" + full[1:], "\x04" + full[1:], "\xff" + full[1:], "\x11" + full[1:], // kinds
		"\x04" + pair[1:], "\x00" + pair[1:], "\x01" + pair[1:], "\x02" + pair[1:],
		full + "\x00", full + "x", full + full, pair + "\x00", pair + kid, extText("\x06", kid) + "\x00", extText("\x06", kid) + kid, // bytes behind it
		full[:len(full)-1], full[1:], pair[:len(pair)-1], extText("\x06", kid)[:33], extText("\x06", kid[:31]), // bytes too few
		leafText("\x06\x0b", ""), long, leafText(path17, "v"), leafText(path17+"\x01", "v"),
		extText("", kid), extText(path17, kid), extText("\x06", ""),
		branchText("", nil), branchText("v", nil), branchText("", map[int]string{6: kid}), branchText("v"+greatest, map[int]string{6: kid, 7: kid}),
		branchText("v", map[int]string{6: kid[:31], 7: kid}),
		"\x01" + packed("\x06\x0b", 0) + text("v"), "\x02" + packed("\x06", 2) + kid, // packed as the other one
		"\x01" + text("\x26\x6b") + text("v"), "\x01" + text("\x46\x6b") + text("v"), "\x01" + text("") + text("v"), // no packed path
		"\x01" + "\x02\x00\x02\x20\x6b" + text("v"), "\x01" + packed("\x06\x0b", 2) + "\x02\x00\x01v", // a number with a byte 0 ahead
	}
}

// TestNoNodes has texts that are no node, and have the sum that is sought: at first, and below others, where they play a part, and where they play none.
func TestNoNodes(t *testing.T) {
	for i, s := range noNodes() {
		t.Logf("text %d", i)
		for _, items := range [][]api.Item{nil, itemsOf("k", "v")} {
			for _, l := range [][]string{
				{s}, {s, s}, {s, leafText("\x06\x0b", "v")}, chain(s, ext("\x06")), chain(s, ext("\x06\x0b")), chain(s, ext("\x06"), branch("", 11, 12)), chain(s, branch("", 6, 7)),
				append(chain(s, branch("", 6, 7)), leafText("\x0b", "v")), append(chain(s, ext("\x06")), leafText("\x0b", "v")),
			} {
				for _, end := range []string{"", "l"} {
					wantNothing(t, sumOf(l[0]), "", end, 16, api.Page{Items: items, Nodes: l})
				}
			}
		}
		wantVerify(t, sumOf(chain(s, ext("\x06"))[0]), "p", "", 1, api.Page{Nodes: chain(s, ext("\x06"))[:1]}, 0)
		wantNothing(t, sumOf(chain(s, ext("\x06"))[0]), "p", "", 1, api.Page{Nodes: chain(s, ext("\x06"))})
		one := leafText("\x0b", "v")
		beside := []string{fork("", 5, s, 6, one, 7, s), one}
		wantVerify(t, sumOf(beside[0]), "`", "o", 1, api.Page{Items: itemsOf("k", "v"), Nodes: beside}, 0)
		wantNothing(t, sumOf(beside[0]), "`", "o", 1, api.Page{Items: itemsOf("k", "v"), Nodes: []string{beside[0], s, one}})
		wantNothing(t, sumOf(beside[0]), "", "o", 1, api.Page{Items: itemsOf("k", "v"), Nodes: []string{beside[0], s, one}})
		wantNothing(t, sumOf(beside[0]), "`", "", 1, api.Page{Items: itemsOf("k", "v"), Nodes: []string{beside[0], one, s}})
	}
}

// TestRootOfNothing has the root of no items, with nodes and items and a Next.
func TestRootOfNothing(t *testing.T) {
	good := leafText("\x06\x0b", "v")
	for _, c := range [][2]string{{"", ""}, {"k", ""}, {"", "k"}, {"a", "z"}, {"z", "a"}, {high(9), high(20)}} {
		for _, most := range []int{1, 2, 15, 16} {
			wantVerify(t, "", c[0], c[1], most, api.Page{}, 0)
			wantVerify(t, "", c[0], c[1], most, api.Page{Items: make([]api.Item, 0, 3), Nodes: make([]string, 0, 3)}, 0)
			wantProve(t, trie.New(), c[0], c[1], most, api.Page{})
			for _, l := range [][]string{{""}, {"x"}, {good}, {leafText("", "v")}, {good, good}, {"", ""}, make([]string, 1000)} {
				wantNothing(t, "", c[0], c[1], most, api.Page{Nodes: l})
				wantNothing(t, "", c[0], c[1], most, api.Page{Items: itemsOf("k", "v"), Nodes: l})
			}
			for _, l := range [][]api.Item{itemsOf("k", "v"), {{}}, itemsOf("", ""), many(most), many(most + 1)} {
				wantNothing(t, "", c[0], c[1], most, api.Page{Items: l})
				wantNothing(t, "", c[0], c[1], most, api.Page{Items: l, Next: behindOf(l[len(l)-1].Key)})
			}
			wantNothing(t, "", c[0], c[1], most, api.Page{Next: "\x00"})
			wantNothing(t, "", c[0], c[1], most, api.Page{Next: c[0] + "\x00"})
		}
	}
}

// wantPages holds all pages of a range, one behind the other, to the words, and to be just the range.
func wantPages(t *testing.T, x *trie.Trie, p plain, all []spotted, from, end string, most int) {
	t.Helper()
	var l []api.Item
	for at := from; ; {
		want := p.page(all, at, end, most)
		wantProve(t, x, at, end, most, want)
		items, next, e := Verify(rootOf(all), at, end, most, want)
		if !slices.Equal(items, want.Items) || next != want.Next || e != api.OK || !shows(rootOf(all), at, end, most, want) {
			t.Fatalf("Verify(%q, %q, %d, %q) = %q, %q, %d", at, end, most, want, items, next, e)
		}
		l = append(l, items...)
		if next == "" {
			break
		}
		at = next
	}
	if !slices.Equal(l, p.within(from, end)) {
		t.Fatalf("the pages from %q, %q, %d are %q", from, end, most, l)
	}
}

// around is texts at which ranges may begin and end: keys, what is around them, and what is no key.
func around(l []api.Item) []string {
	keys := []string{"", "\x00", "a", high(8), high(9), strings.Repeat("a", 9)}
	for _, x := range l {
		last := x.Key[len(x.Key)-1]
		begin := x.Key[:len(x.Key)-1]
		keys = append(keys, x.Key, begin, x.Key+"\x00", x.Key+high(9), begin+string([]byte{last ^ 1}), begin+string([]byte{last ^ 16}))
	}
	slices.Sort(keys)
	return slices.Compact(keys)
}

// TestEveryRange has tries of each choice of some keys, and ranges between all texts in and around them.
func TestEveryRange(t *testing.T) {
	pool := itemsOf("a", "1", "a\x00", "2", "ab", "3", "abcdefgh", "4", "q", "5", high(8), "6")
	marks := around(pool)
	for choice := range 1 << len(pool) {
		var l []api.Item
		for i, x := range pool {
			if choice>>i&1 == 1 {
				l = append(l, x)
			}
		}
		x, p := trieOf(t, l), plainOf(l)
		all := p.spots()
		for i, from := range marks {
			for j, end := range marks {
				wantPages(t, x, p, all, from, end, 1+(i+j+choice)%(len(pool)+1))
			}
		}
	}
}

// TestManyItems has tries of as many items as pages have, and as tries have.
func TestManyItems(t *testing.T) {
	for _, size := range []int{15, 16, 17, 31, 32, 33, 300} {
		l := many(size)
		x, p := trieOf(t, l), plainOf(l)
		all := p.spots()
		for _, most := range []int{1, 2, 15, 16} {
			for _, c := range [][2]string{{"", ""}, {"\x00\x01", ""}, {"\x00\x0f\x00", "\x00\x11"}, {"\x00\x10", "\x00\x20"}, {"\x01", "\x02"}, {"\x00\x0e\x01", "\x01\x00\x00"}} {
				wantPages(t, x, p, all, c[0], c[1], most)
			}
		}
	}
	l := many(1024)
	x, p := trieOf(t, l), plainOf(l)
	all := p.spots()
	for _, c := range [][2]string{{"", "\x00\x20"}, {"\x03\xf8", ""}, {"\x01\xfa", "\x02\x06\x00"}, {"\x04", ""}, {"\x00\x10\x00", "\x00\x11"}} {
		wantPages(t, x, p, all, c[0], c[1], 16)
	}
	wantPage(t, x, p, "\x01", "", 16, p.page(all, "\x01", "", 16))
	whole := api.Page{Items: l[:16], Next: behindOf(l[15].Key), Nodes: x.Nodes()} // right items, with all nodes
	wantNothing(t, x.Root(), "", "", 16, whole)
	wantNothing(t, x.Root(), "", "", 16, api.Page{Items: l, Nodes: x.Nodes()})
	wantNothing(t, x.Root(), "", "", 16, api.Page{Items: l[:17], Nodes: x.Nodes()})
	wantNothing(t, x.Root(), "", "", 16, api.Page{Items: l[:16], Nodes: x.Nodes()})
}

// TestChangedTries holds pages of tries that were made of one another each to its own root.
func TestChangedTries(t *testing.T) {
	l := itemsOf("a", "1", "ab", "2", "b", "3", "bcd", "4", "abcdefgh", "5")
	x, p := trie.New(), plain{}
	for _, item := range append(l, l[1], l[0]) {
		next, f := x.Put(item.Key, item.Value+"x")
		if f != api.OK {
			t.Fatal(f)
		}
		q := plain{item.Key: item.Value + "x"}
		for key, value := range p {
			if key != item.Key {
				q[key] = value
			}
		}
		for _, from := range []string{"", "a", "ab", "abd", "b", "q"} {
			for _, end := range []string{"", "ab", "b", "bb"} {
				wantPages(t, next, q, q.spots(), from, end, 2)
				wantPages(t, x, p, p.spots(), from, end, 2)
				page, _ := Prove(x, from, end, 2)
				if wantByWords(t, next.Root(), from, end, 2, page) == 0 && next.Root() != x.Root() {
					t.Errorf("of %q, %q a page by two roots", from, end)
				}
			}
		}
		x, p = next, q
	}
}

// TestAllListsOfNodes holds all short lists of a trie's nodes, and other texts, to the words, in several ranges, with its items and with others.
func TestAllListsOfNodes(t *testing.T) {
	l := itemsOf("a", "1", "ab", "2", "\x71", "3")
	p := plainOf(l)
	x := trieOf(t, l)
	texts := append(x.Nodes(), leafText("\x02", "9"), "x")
	roots := []string{x.Root(), "", sumOf("x"), sumOf(texts[1]), sumOf(texts[len(texts)-2])}
	ranges := []asked{{"", "", 1, nil, "", nil}, {"", "", 3, nil, "", nil}, {"a", "b", 2, nil, "", nil}, {"ab", "", 1, nil, "", nil}, {"c", "q", 2, nil, "", nil}, {"q", "", 1, nil, "", nil}, {"b", "a", 1, nil, "", nil}}
	var pages []api.Page
	for _, a := range ranges {
		pages = append(pages, p.page(nil, a.from, a.end, a.most))
	}
	taken := map[int]int{}
	var lists func(l []string)
	lists = func(l []string) {
		for i, a := range ranges {
			for _, page := range []api.Page{pages[i], {}, pages[(i+1)%len(pages)]} {
				page.Nodes = l
				for k, root := range roots {
					if k == 0 && wantSound(t, p, root, a.from, a.end, a.most, page) || k > 0 && wantByWords(t, root, a.from, a.end, a.most, page) == 0 {
						taken[k]++
					}
				}
			}
		}
		if len(l) < 4 {
			for _, s := range texts {
				lists(append(slices.Clone(l), s))
			}
		}
	}
	lists(nil)
	if taken[0] < 6 || taken[1] == 0 || taken[2] > 0 || taken[3]+taken[4] == 0 {
		t.Errorf("taken: %v", taken)
	}
}

// TestPagesAreTheirs changes pages that were handed in and out, behind their lists' lengths too.
func TestPagesAreTheirs(t *testing.T) {
	for _, c := range samples() {
		x := trieOf(t, c.items)
		ahead := told(x)
		for _, a := range c.pages {
			p, _ := Prove(x, a.from, a.end, a.most)
			other, _ := Prove(x, a.from, a.end, a.most)
			kept := copyOf(other)
			fill(p)
			if !same(other, kept) || told(x) != ahead {
				t.Fatal("something else has changed")
			}
			wantProve(t, x, a.from, a.end, a.most, kept)

			room := api.Page{Items: append(slices.Clone(kept.Items), itemsOf("k", "v", "behind", "b")...), Nodes: append(slices.Clone(kept.Nodes), "behind", leafText("", "v"), "")}
			was := copyOf(room)
			in := api.Page{Items: room.Items[:len(kept.Items)], Next: kept.Next, Nodes: room.Nodes[:len(kept.Nodes)]}
			wantVerify(t, x.Root(), a.from, a.end, a.most, in, 0)
			items, _, _ := Verify(x.Root(), a.from, a.end, a.most, in)
			again, _, _ := Verify(x.Root(), a.from, a.end, a.most, in)
			if !same(room, was) {
				t.Fatalf("the lists are %q, were %q", room, was)
			}
			fill(api.Page{Items: items})
			if !same(room, was) || !slices.Equal(again, kept.Items) {
				t.Fatal("an answer shares memory")
			}
			fill(room)
			if !slices.Equal(again, kept.Items) {
				t.Fatal("an answer shares memory with the page")
			}
			wantVerify(t, x.Root(), a.from, a.end, a.most, kept, 0)
		}
	}
}

// fill changes all that the page's lists have, and their spare room.
func fill(p api.Page) {
	for i := range cap(p.Items) {
		p.Items[:cap(p.Items)][i] = api.Item{Key: "q", Value: "q"}
	}
	for i := range cap(p.Nodes) {
		p.Nodes[:cap(p.Nodes)][i] = "q"
	}
}

// lieOf is texts that lie in memory which a test can change.
type lieOf []byte

func (l *lieOf) text(s string) string {
	if s == "" {
		return ""
	}
	from := len(*l)
	*l = append(*l, s...)
	return unsafe.String(&(*l)[from], len(s))
}

// TestTextsAreNotShared looks at where the texts lie, those of what was handed in too: nothing else could tell.
func TestTextsAreNotShared(t *testing.T) {
	x := trieOf(t, itemsOf("abc", "first", "abcd", greatest, "abd", "other", "abcdefgh", "last"))
	places := map[*byte]bool{}
	alone := func(l ...string) {
		for _, s := range l {
			if s != "" && places[unsafe.StringData(s)] {
				t.Errorf("%q lies where another text does", s)
			}
			places[unsafe.StringData(s)] = true
		}
	}
	for _, item := range x.Items() {
		alone(item.Key, item.Value)
	}
	for range 2 {
		for _, c := range []asked{{"", "", 2, nil, "", nil}, {"", "", 16, nil, "", nil}, {"abcd", "abd", 1, nil, "", nil}, {"abcd", "abce", 2, nil, "", nil}} {
			alone(c.from, c.end)
			page, _ := Prove(x, c.from, c.end, c.most)
			alone(page.Nodes...)
			items, next, e := Verify(x.Root(), c.from, c.end, c.most, page)
			if e != api.OK {
				t.Fatal(e)
			}
			alone(page.Next, next)
			for _, item := range slices.Concat(page.Items, items) {
				alone(item.Key, item.Value)
			}
			delete(places, unsafe.StringData(c.from)) // the same text is handed in again
			delete(places, unsafe.StringData(c.end))
		}
	}
	eachPage(func(c sample, a asked, p api.Page) {
		lie := make(lieOf, 0, 1<<16)
		root, from, end := lie.text(c.root()), lie.text(a.from), lie.text(a.end)
		in := api.Page{Next: lie.text(p.Next)}
		for _, node := range p.Nodes {
			in.Nodes = append(in.Nodes, lie.text(node))
		}
		for _, item := range p.Items {
			in.Items = append(in.Items, api.Item{Key: lie.text(item.Key), Value: lie.text(item.Value)})
		}
		items, next, e := Verify(root, from, end, a.most, in)
		x := trieOf(t, c.items)
		page, _ := Prove(x, from, end, a.most)
		for i := range lie {
			lie[i] = '!'
		}
		if !slices.Equal(items, p.Items) || next != p.Next || e != api.OK {
			t.Fatalf("of %q, %q, %d %q, %q, %d, want %q", a.from, a.end, a.most, items, next, e, p)
		}
		if !same(page, p) {
			t.Fatalf("of %q, %q, %d %q, want %q", a.from, a.end, a.most, page, p)
		}
	})
}

// few is the bytes that keys made by chance have, so that they have much in common.
const few = "\x60a\x01\x10\xff"

// itemsBy is items: each byte of steps is a key, what is left of the one ahead of it and one of few bytes more.
func itemsBy(steps string) []api.Item {
	var l []api.Item
	key := ""
	for i := range min(len(steps), 60) {
		left := min(len(key), int(steps[i]/5)%api.MaxKey)
		key = key[:left] + few[steps[i]%5:][:1]
		l = append(l, api.Item{Key: key, Value: "v" + strconv.Itoa(i)})
	}
	return l
}

// changedBy is a list that is changed: by what is at, and how, by elements of which some are there.
func changedBy[T any](l, some []T, at, how int) []T {
	l = slices.Clone(l)
	at %= len(l) + 1
	switch {
	case how%4 == 0 || at == len(l):
		return slices.Insert(l, at, some[how/4%len(some)])
	case how%4 == 1:
		return slices.Delete(l, at, at+1)
	case how%4 == 2:
		l[at] = some[how/4%len(some)]
	default:
		l[at], l[0] = l[0], l[at]
	}
	return l
}

// pageBy is a page that is changed: each three bytes of turns say what of it, at which place, and how.
func pageBy(p api.Page, texts []string, items []api.Item, turns string) api.Page {
	for i := 0; i+2 < len(turns) && i < 12; i += 3 {
		at, how := int(turns[i+1]), int(turns[i+2])
		switch turns[i] % 8 {
		case 0, 1, 2:
			p.Nodes = changedBy(p.Nodes, texts, at, how)
		case 3, 4:
			p.Items = changedBy(p.Items, items, at, how)
		case 5:
			p.Next = behindOf(items[how%len(items)].Key)
		case 6:
			p.Next = ""
		default:
			if len(p.Items) > 0 {
				p.Next = behindOf(p.Items[len(p.Items)-1].Key)
			}
		}
	}
	return p
}

// play holds a trie's pages of any range to the words, and so what is made of one, by the trie's root, by any other one, and in another range.
func play(t *testing.T, steps, from, end string, most int, turns, root string) {
	t.Helper()
	l := itemsBy(steps)
	x, p := trieOf(t, l), plainOf(l)
	all := p.spots()
	if most < 1 || most > 16 {
		if page, e := Prove(x, from, end, most); !same(page, api.Page{}) || e != api.ErrRange {
			t.Fatalf("Prove(%q, %q, %d) = %q, %d", from, end, most, page, e)
		}
		wantByWords(t, x.Root(), from, end, most, p.page(all, from, end, 3))
		return
	}
	wantPages(t, x, p, all, from, end, most)
	page, _ := Prove(x, from, end, most)
	changed := pageBy(page, append(x.Nodes(), "", root, leafText(pathOf(from), "v")), append(x.Items(), itemsOf(from, "v", end, "v", "", "")...), turns)
	wantSound(t, p, x.Root(), from, end, most, changed)
	wantSound(t, p, x.Root(), end, from, most, changed)
	wantSound(t, p, x.Root(), from, changed.Next, most, changed)
	wantByWords(t, root, from, end, most, changed)
	for _, s := range changed.Nodes {
		wantByWords(t, sumOf(s), from, end, most, changed)
		wantByWords(t, sumOf(s), from, end, most, api.Page{Items: changed.Items, Nodes: []string{s}})
	}
}

func TestAnyPages(t *testing.T) {
	r := rand.New(rand.NewSource(14))
	text := func(most int, bytes string) string {
		l := make([]byte, r.Intn(most+1))
		for i := range l {
			l[i] = byte(r.Intn(256))
			if bytes != "" {
				l[i] = bytes[int(l[i])%len(bytes)]
			}
		}
		return string(l)
	}
	for i := range 3000 {
		end := ""
		if i%3 > 0 {
			end = text(9, few)
		}
		play(t, text(40, ""), text(9, few), end, r.Intn(18), text(9, ""), text(33, ""))
	}
}

func FuzzSpan(f *testing.F) {
	f.Add("", "a", "", 1, "", "")
	f.Add("\x00\x01\x06\x0b", "a", "b", 2, "\x00\x00\x00", "x")
	f.Add("\x00\x06\x07\x08\x0c", "aa", "", 16, "\x03\x01\x05", leafText("\x06\x01", "v"))
	f.Add("\x01\x02\x03\x04\x09\x0e\x13", "\x60", "\xff", 3, "\x05\x02\x07\x07\x00\x06", extText("\x06", strings.Repeat("k", 32)))
	f.Add("\x01", "abcdefghi", "", 17, "", branchText("v", map[int]string{6: strings.Repeat("k", 32)}))
	f.Fuzz(play)
}
