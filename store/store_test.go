package store

import (
	"crypto/sha256"
	"encoding/hex"
	"math/rand"
	"runtime/debug"
	"slices"
	"strconv"
	"strings"
	"testing"
	"unsafe"

	"pharos/api"
	"pharos/node"
)

// sumOf is a text's sum with the tag 1, by Go's own library.
func sumOf(text string) string {
	s := sha256.Sum256([]byte("\x01" + text))
	return string(s[:])
}

// sumsOf is the texts' sums, rising.
func sumsOf(texts ...string) []string {
	var l []string
	for _, text := range texts {
		l = append(l, sumOf(text))
	}
	slices.Sort(l)
	return l
}

// leafText is the bytes of a leaf of the path 4 1.
func leafText(value string) string {
	return "\x01" + "\x01\x02\x20\x41" + "\x01" + string([]byte{byte(len(value))}) + value
}

// extText is the bytes of an extension of the path 4 1.
func extText(kid string) string {
	return "\x02" + "\x01\x02\x00\x41" + kid
}

// branchText is the bytes of a branch with these kids, "" for none, from its first place on.
func branchText(value string, kids ...string) string {
	bits := 0
	for i, k := range kids {
		if k != "" {
			bits |= 1 << (15 - i)
		}
	}
	s := "\x03" + string([]byte{byte(bits >> 8), byte(bits)}) + strings.Join(kids, "")
	if value == "" {
		return s + "\x00"
	}
	return s + "\x01" + string([]byte{byte(len(value))}) + value
}

// absent is a sum of no text that a test puts.
func absent() string {
	return strings.Repeat("z", 32)
}

// noTexts is sums that are not there beside these ones: some are no sums at all.
func noTexts(texts ...string) []string {
	l := []string{"", "x", "\x00", absent(), absent()[:31], absent() + "z", strings.Repeat("\x00", 32), strings.Repeat("\xff", 32), strings.Repeat("z", 1<<16)}
	for _, text := range texts {
		sum := sumOf(text)
		untagged := sha256.Sum256([]byte(text))
		l = append(l, sum[:31], sum[1:], sum[:1], sum+"\x00", "\x00"+sum, sum+sum, hex.EncodeToString([]byte(sum)), string(untagged[:]), "\x00"+sum[1:], sum[:31]+"\x00")
	}
	return slices.DeleteFunc(l, func(sum string) bool {
		return slices.ContainsFunc(texts, func(text string) bool { return text == sum || sumOf(text) == sum })
	})
}

// plain is a store as the words say it: its texts, in the order in which they came.
type plain []string

// has tells whether a text of this sum is there, and which.
func (p plain) has(sum string) (string, bool) {
	for _, text := range p {
		if sumOf(text) == sum {
			return text, true
		}
	}
	return "", false
}

// put is the store behind Put.
func (p plain) put(text string) plain {
	if slices.Contains(p, text) {
		return p
	}
	return append(slices.Clone(p), text)
}

// named is the sums that a text names.
func named(text string) []string {
	n, _ := node.Decode(text)
	return slices.DeleteFunc(slices.Clone(n.Kids[:]), func(k string) bool { return k == "" })
}

// reached is the texts that any of sums reaches: more and more, till no text more is named by one of them.
func (p plain) reached(sums []string) plain {
	var in plain
	wanted := slices.Clone(sums)
	for more := true; more; {
		more = false
		for _, text := range p {
			if !slices.Contains(in, text) && slices.Contains(wanted, sumOf(text)) {
				in, wanted, more = append(in, text), append(wanted, named(text)...), true
			}
		}
	}
	return in
}

// keep is the store behind Keep, and how many went.
func (p plain) keep(sums []string) (plain, int) {
	in := p.reached(sums)
	left := slices.DeleteFunc(slices.Clone(p), func(text string) bool { return !slices.Contains(in, text) })
	return left, len(p) - len(left)
}

// storeOf is a store of texts.
func storeOf(t *testing.T, texts ...string) *Store {
	t.Helper()
	s := New()
	for _, text := range texts {
		wantPut(t, s, text)
	}
	return s
}

// wantPut puts a text, and holds the answer to its sum.
func wantPut(t *testing.T, s *Store, text string) {
	t.Helper()
	if sum := s.Put(text); sum != sumOf(text) {
		t.Fatalf("Put(%.100q) = %x, want %x", text, sum, sumOf(text))
	}
}

// wantStore holds all that a store tells without a list to the texts that it is to have.
func wantStore(t *testing.T, s *Store, p plain) {
	t.Helper()
	if l := s.Sums(); !slices.Equal(l, sumsOf(p...)) {
		t.Fatalf("Sums: %d %x, want %d %x", len(l), l, len(p), sumsOf(p...))
	}
	for _, text := range p {
		if got, there := s.Get(sumOf(text)); got != text || !there {
			t.Fatalf("Get(%x) = %.100q, %v, want %.100q", sumOf(text), got, there, text)
		}
		want, wantE := node.Decode(text)
		if n, e := s.Node(sumOf(text)); n != want || e != wantE {
			t.Fatalf("Node(%x) = %#v, %d, want %#v, %d", sumOf(text), n, e, want, wantE)
		}
	}
}

// wantNone holds a store to telling that no text of this sum is there.
func wantNone(t *testing.T, s *Store, sum string) {
	t.Helper()
	if text, there := s.Get(sum); text != "" || there {
		t.Errorf("Get(%x) = %q, %v", sum, text, there)
	}
	if n, e := s.Node(sum); n != (api.Node{}) || e != api.ErrLost {
		t.Errorf("Node(%x) = %#v, %d", sum, n, e)
	}
	if l := s.Reach([]string{sum}); len(l) != 0 {
		t.Errorf("Reach of %x alone: %x", sum, l)
	}
}

// wantReach holds Reach to the texts that sums are to reach.
func wantReach(t *testing.T, s *Store, sums []string, texts ...string) {
	t.Helper()
	if l := s.Reach(sums); !slices.Equal(l, sumsOf(texts...)) {
		t.Fatalf("Reach(%x) = %x, want %x", sums, l, sumsOf(texts...))
	}
}

// wantKeep holds Keep to how many are to go, and to the texts that are to stay.
func wantKeep(t *testing.T, s *Store, sums []string, gone int, texts ...string) {
	t.Helper()
	if n := s.Keep(sums); n != gone {
		t.Fatalf("Keep(%x) = %d, want %d", sums, n, gone)
	}
	wantStore(t, s, texts)
}

// someNodes is texts that are nodes of each kind.
func someNodes() []string {
	x, y := sumOf("x"), sumOf("y")
	all := slices.Repeat([]string{x, y}, 8)
	return []string{leafText("v"), leafText("\xff"), leafText(x), extText(x), extText(absent()), branchText("v", x), branchText("", x, y), branchText("", x, x), branchText(y, "", x), branchText("", all...), branchText("v", all...)}
}

// noNodes is texts that are none, some of them nearly.
func noNodes() []string {
	x, y := sumOf("x"), sumOf("y")
	return []string{
		"", "x", "y", "\x00", "\x01", "\x02", "\x03", "\xff", x, x + y, "\u00e9\u4e16\u754c", strings.Repeat("t", 1<<16),
		"\x04" + leafText("v")[1:], "\x00" + leafText("v"), leafText("v") + "\x00", leafText(""), leafText(x + "v"),
		extText(x) + "\x00", extText(x[:31]), extText(x + "x"), extText(""), "\x02\x01\x01\x00" + x, "\x02\x01\x02\x20\x41" + x,
		branchText("", x), branchText("v"), branchText("", x, y)[:66], branchText("", x, y) + "\x00", branchText("v", x[:31]), branchText(x+"v", x, y), "\x02" + branchText("", x, y)[1:],
	}
}

func TestExample(t *testing.T) {
	s := New()
	x, y := s.Put("x"), s.Put("y")
	if n := s.Keep([]string{x}); n != 1 {
		t.Errorf("Keep = %d", n)
	}
	wantNone(t, s, y)
	wantStore(t, s, plain{"x"})
}

func TestStoreOfNothing(t *testing.T) {
	s := New()
	if s == nil {
		t.Fatal("no store")
	}
	sums := noTexts("x", "")
	for range 2 {
		wantStore(t, s, nil)
		for _, sum := range append(sums, sumsOf("x", "")...) {
			wantNone(t, s, sum)
		}
		wantReach(t, s, nil)
		wantReach(t, s, []string{})
		wantReach(t, s, sums)
		wantKeep(t, s, nil, 0)
		wantKeep(t, s, sums, 0)
		s = s.Fork()
	}
}

func TestSumsWrittenDown(t *testing.T) {
	x, err := hex.DecodeString("23c86a8aded0ad81f8111bb07e6ec0ffb00ce5bfef001417c07243f43fd70b2f")
	if err != nil {
		t.Fatal(err)
	}
	for _, c := range []struct{ text, sum string }{
		{"", "4bf5122f344554c53bde2ebb8cd2b7e3d1600ad631c385a5d7cce23c7785459a"},
		{"x", "23c86a8aded0ad81f8111bb07e6ec0ffb00ce5bfef001417c07243f43fd70b2f"},
		{"\x01" + "\x01\x02\x20\x41" + "\x01\x01v", "fe81ccf06b91b000d59ab5d624d481106ea7078c3e859c19f304d7ae9153d0a3"},
		{"\x02" + "\x01\x01\x15" + string(x), "7ba3c298002f9e926484c98eb8bb2e3b8c784e3a31a77708486c01be5c527e0b"},
	} {
		s := New()
		if sum := hex.EncodeToString([]byte(s.Put(c.text))); sum != c.sum {
			t.Errorf("Put(%q) = %s, want %s", c.text, sum, c.sum)
		}
		wantStore(t, s, plain{c.text})
	}
}

func TestPut(t *testing.T) {
	s, p := New(), plain(nil)
	for _, text := range append(someNodes(), noNodes()...) {
		one := storeOf(t, text)
		wantStore(t, one, plain{text})
		wantReach(t, one, sumsOf(text), text)
		wantNone(t, s, sumOf(text))
		wantPut(t, s, text)
		p = p.put(text)
		wantStore(t, s, p)
	}
	for _, sum := range noTexts(p...) {
		if _, there := p.has(sum); there {
			t.Fatalf("%x is there", sum)
		}
		wantNone(t, s, sum)
	}
	wantStore(t, s, p)
}

// TestTheEmptyText tells it from none at all.
func TestTheEmptyText(t *testing.T) {
	s := New()
	wantNone(t, s, sumOf(""))
	wantPut(t, s, "")
	for range 2 {
		if text, there := s.Get(sumOf("")); text != "" || !there {
			t.Errorf("Get = %q, %v", text, there)
		}
		if n, e := s.Node(sumOf("")); n != (api.Node{}) || e != api.ErrNode {
			t.Errorf("Node = %#v, %d", n, e)
		}
		wantNone(t, s, "")
		wantPut(t, s, "")
		wantKeep(t, s, sumsOf(""), 0, "")
	}
	wantKeep(t, s, []string{""}, 1)
	wantNone(t, s, sumOf(""))
}

func TestPutTwice(t *testing.T) {
	texts := append(someNodes(), "", "x", "y")
	s := New()
	for _, text := range texts {
		wantPut(t, s, text)
		wantPut(t, s, text)
	}
	wantStore(t, s, texts)
	slices.Reverse(texts)
	for _, text := range texts {
		wantPut(t, s, text)
		wantStore(t, s, texts)
	}
}

// TestTheFirstTextStays plants a text under another one's sum, since two of one sum are not to be had.
func TestTheFirstTextStays(t *testing.T) {
	for _, first := range []string{"y", "", leafText("v"), extText(sumOf("y"))} {
		s := New()
		s.texts[sumOf("x")] = entry{first}
		f := s.Fork()
		for _, one := range []*Store{s, f, s} {
			wantPut(t, one, "x")
			if text, there := one.Get(sumOf("x")); text != first || !there || len(one.Sums()) != 1 {
				t.Errorf("Get = %q, %v, want %q, of %d", text, there, first, len(one.Sums()))
			}
		}
		if n := s.Keep(nil); n != 1 {
			t.Error(n)
		}
		wantPut(t, s, "x")
		wantStore(t, s, plain{"x"})
	}
}

func TestNode(t *testing.T) {
	x, y := sumOf("x"), sumOf("y")
	for _, c := range []struct {
		text string
		n    api.Node
	}{
		{"\x01" + "\x01\x02\x20\x41" + "\x01\x01v", api.Node{Kind: api.NLeaf, Path: "\x04\x01", Value: "v"}},
		{"\x01" + "\x01\x01\x3f" + "\x01\x20" + x, api.Node{Kind: api.NLeaf, Path: "\x0f", Value: x}},
		{"\x02" + "\x01\x01\x15" + x, api.Node{Kind: api.NExt, Path: "\x05", Kids: [16]string{x}}},
		{"\x03" + "\x80\x01" + x + y + "\x00", api.Node{Kind: api.NBranch, Kids: [16]string{0: x, 15: y}}},
		{"\x03" + "\x01\x00" + y + "\x01\x02ab", api.Node{Kind: api.NBranch, Value: "ab", Kids: [16]string{7: y}}},
	} {
		s := storeOf(t, c.text)
		for range 2 {
			if n, e := s.Node(sumOf(c.text)); n != c.n || e != api.OK {
				t.Errorf("Node of %q = %#v, %d, want %#v", c.text, n, e, c.n)
			}
		}
		if text, e := node.Encode(c.n); text != c.text || node.Digest(c.n) != sumOf(c.text) || e != api.OK {
			t.Errorf("%#v has the bytes %q", c.n, text)
		}
		wantKeep(t, s, nil, 1)
		wantNone(t, s, sumOf(c.text))
	}
}

func TestNodeRefuses(t *testing.T) {
	s := storeOf(t, append(someNodes(), noNodes()...)...)
	for _, text := range noNodes() {
		if n, e := s.Node(sumOf(text)); n != (api.Node{}) || e != api.ErrNode {
			t.Errorf("Node of %.100q = %#v, %d", text, n, e)
		}
	}
	for _, text := range someNodes() {
		if n, e := s.Node(sumOf(text)); n == (api.Node{}) || e != api.OK {
			t.Errorf("Node of %q = %#v, %d", text, n, e)
		}
	}
	for _, sum := range noTexts(append(someNodes(), noNodes()...)...) {
		if n, e := s.Node(sum); n != (api.Node{}) || e != api.ErrLost {
			t.Errorf("Node(%x) = %#v, %d", sum, n, e)
		}
	}
}

func TestSumsRise(t *testing.T) {
	var texts plain
	for i := range 400 {
		texts = append(texts, strconv.Itoa(i))
	}
	want := sumsOf(texts...)
	if want[0][0] > 15 || want[399][0] < 240 {
		t.Errorf("sums from %x to %x alone", want[0], want[399])
	}
	for _, stride := range []int{1, 7, 199, 399} { // each has no factor in common with 400: all come, in another order
		s := New()
		for i := range texts {
			wantPut(t, s, texts[i*stride%len(texts)])
		}
		wantStore(t, s, texts)
		lists := [][]string{s.Sums(), s.Reach(want), s.Reach(append(slices.Clone(want), want...))}
		slices.Reverse(want)
		lists = append(lists, s.Reach(want))
		slices.Reverse(want)
		for _, l := range lists {
			if !slices.Equal(l, want) {
				t.Errorf("by strides of %d: %x", stride, l)
			}
		}
	}
}

// TestReach has trees of nodes, and what their sums reach.
func TestReach(t *testing.T) {
	v, w := leafText("v"), leafText("w")
	ext, both := extText(sumOf(v)), branchText("", sumOf(v), "", sumOf(w))
	toExt, lost := branchText("n", sumOf(ext)), branchText("", absent(), sumOf(w))
	far, nothing := extText(sumOf(toExt)), extText(absent())
	texts := plain{v, w, ext, both, toExt, lost, far, nothing, "x", ""}
	s := storeOf(t, texts...)
	for _, c := range []struct {
		from string
		want []string
	}{
		{v, []string{v}},
		{w, []string{w}},
		{"x", []string{"x"}},
		{"", []string{""}},
		{nothing, []string{nothing}}, // its kid is not there
		{ext, []string{ext, v}},
		{both, []string{both, v, w}},
		{toExt, []string{toExt, ext, v}},
		{far, []string{far, toExt, ext, v}},
		{lost, []string{lost, w}}, // one of its kids is not there
	} {
		wantReach(t, s, sumsOf(c.from), c.want...)
		wantReach(t, s, append(sumsOf(c.from), sumsOf(c.from)...), c.want...)
		wantReach(t, s, append(noTexts(texts...), sumOf(c.from), absent()), c.want...)
		wantReach(t, s, sumsOf(c.want...), c.want...)
		wantKeep(t, s.Fork(), sumsOf(c.from), len(texts)-len(c.want), c.want...)
	}
	wantReach(t, s, nil)
	wantReach(t, s, noTexts(texts...))
	wantReach(t, s, sumsOf(far, both), far, toExt, ext, v, both, w)
	wantReach(t, s, sumsOf(ext, "x", lost), ext, v, "x", lost, w)
	wantReach(t, s, sumsOf(texts...), texts...)
	wantStore(t, s, texts)
}

// TestKidsAtEveryPlace holds each of the sixteen to being named, alone and beside the others.
func TestKidsAtEveryPlace(t *testing.T) {
	var texts plain
	var all []string
	for i := range 16 {
		texts = append(texts, leafText(strconv.Itoa(i)))
		all = append(all, sumOf(texts[i]))
	}
	for i := range 16 {
		alone, others := make([]string, 16), slices.Clone(all)
		alone[i], others[i] = all[i], ""
		one, most := branchText("v", alone...), branchText("", others...)
		s := storeOf(t, append(texts, one, most, "x")...)
		wantReach(t, s, sumsOf(one), one, texts[i])
		wantReach(t, s, sumsOf(most), append(slices.Delete(slices.Clone(texts), i, i+1), most)...)
		wantReach(t, s, sumsOf(one, most), append(texts, one, most)...)
		wantKeep(t, s, sumsOf(one), 17, one, texts[i])
	}
	full := branchText("v", all...)
	s := storeOf(t, append(texts, full, "x")...)
	wantKeep(t, s, sumsOf(full), 1, append(texts, full)...)
}

// TestLeavesNameNothing has values, of leaves and branches, that are sums which are there.
func TestLeavesNameNothing(t *testing.T) {
	x := sumOf("x")
	leaf := leafText(x)
	branch, ext := branchText(x, sumOf(leaf)), extText(sumOf(leaf))
	texts := plain{"x", leaf, branch, ext}
	s := storeOf(t, texts...)
	wantReach(t, s, sumsOf(leaf), leaf)
	wantReach(t, s, sumsOf(branch), branch, leaf)
	wantReach(t, s, sumsOf(ext), ext, leaf)
	wantReach(t, s, sumsOf(branch, "x"), branch, leaf, "x")
	wantKeep(t, s.Fork(), sumsOf(branch, ext), 1, leaf, branch, ext)
	wantKeep(t, s, sumsOf(leaf), 3, leaf)
}

// TestNoNodesNameNothing has texts that hold the sums of x and y, and are no nodes.
func TestNoNodesNameNothing(t *testing.T) {
	s := storeOf(t, noNodes()...)
	wantStore(t, s, noNodes())
	for _, text := range noNodes() {
		wantReach(t, s, sumsOf(text), text)
		wantKeep(t, s.Fork(), sumsOf(text), len(noNodes())-1, text)
	}
	top := branchText("", sumOf(extText(sumOf("x"))+"\x00"), sumOf("y")) // they are named all the same
	wantPut(t, s, top)
	wantKeep(t, s, sumsOf(top), len(noNodes())-2, top, extText(sumOf("x"))+"\x00", "y")
}

// TestNamedLater has nodes that name sums of texts that come behind them.
func TestNamedLater(t *testing.T) {
	v := leafText("v")
	ext := extText(sumOf(v))
	top := branchText("", sumOf(ext), sumOf("x"))
	s := storeOf(t, top)
	wantReach(t, s, sumsOf(top), top)
	wantPut(t, s, v)
	wantReach(t, s, sumsOf(top), top) // what leads there is not there
	wantPut(t, s, "x")
	wantReach(t, s, sumsOf(top), top, "x")
	wantPut(t, s, ext)
	wantReach(t, s, sumsOf(top), top, "x", ext, v)
	wantKeep(t, s, sumsOf(top), 0, top, "x", ext, v)
}

// TestTheSameNodeIsNamedTwice has two nodes that name the same one, and one node that names it at two places.
func TestTheSameNodeIsNamedTwice(t *testing.T) {
	v := leafText("v")
	a, b := extText(sumOf(v)), branchText("b", sumOf(v))
	top, twice := branchText("", sumOf(a), sumOf(b)), branchText("", sumOf(v), sumOf(v))
	texts := plain{v, a, b, top, twice}
	s := storeOf(t, texts...)
	wantReach(t, s, sumsOf(a, b), a, b, v)
	wantReach(t, s, sumsOf(top), top, a, b, v)
	wantReach(t, s, sumsOf(twice), twice, v)
	wantReach(t, s, sumsOf(twice, top), texts...)
	wantKeep(t, s, sumsOf(top), 1, top, a, b, v)
	wantKeep(t, s, sumsOf(a), 2, a, v) // what is named by one that goes stays, named by one that stays
	wantKeep(t, s, sumsOf(v), 1, v)
	wantKeep(t, s, sumsOf(a), 1) // and a is not there
}

// TestDeepChains has a chain of extensions and branches so deep that a call within a call for each node would not end well.
func TestDeepChains(t *testing.T) {
	const depth = 50000
	defer debug.SetMaxStack(debug.SetMaxStack(4 << 20))
	s := New()
	chain := []string{s.Put(leafText("v"))}
	for i := range depth {
		text := extText(chain[i])
		if i%2 == 1 {
			text = branchText(strconv.Itoa(i), slices.Repeat([]string{chain[i]}, 1+i%16)...)
		}
		chain = append(chain, s.Put(text))
	}
	other := s.Put("x")
	for _, at := range []int{depth, depth - 1, depth / 2, 1, 0} {
		want := slices.Sorted(slices.Values(chain[:at+1]))
		if l := s.Reach([]string{chain[at]}); !slices.Equal(l, want) {
			t.Errorf("from node %d: %d reached", at, len(l))
		}
		if n := s.Keep([]string{chain[at], other}); n != len(chain)-1-at || !slices.Equal(s.Sums(), sorted(append(want, other))) {
			t.Errorf("from node %d: %d went", at, n)
		}
		chain = chain[:at+1]
	}
}

// sorted is the list's texts, rising.
func sorted(l []string) []string {
	return slices.Sorted(slices.Values(l))
}

// TestLadders has nodes that each name the next one at sixteen places: more ways lead to the last one than could be gone.
func TestLadders(t *testing.T) {
	texts := plain{leafText("v")}
	for i := range 100 {
		texts = append(texts, branchText("", slices.Repeat([]string{sumOf(texts[i])}, 16)...))
	}
	s := storeOf(t, append(texts, "x")...)
	wantReach(t, s, sumsOf(texts[100]), texts...)
	wantReach(t, s, sumsOf(texts[50]), texts[:51]...)
	wantKeep(t, s, sumsOf(texts[99], texts[3]), 2, texts[:100]...)
}

// TestCallsEnd plants nodes that name one another, since such ones are not to be had.
func TestCallsEnd(t *testing.T) {
	a, b := strings.Repeat("a", 32), strings.Repeat("b", 32)
	s := storeOf(t, "x")
	s.texts[a] = entry{extText(b)}
	s.texts[b] = entry{branchText("", a, b)}
	for _, from := range []string{a, b} {
		if l := s.Reach([]string{from}); !slices.Equal(l, []string{a, b}) {
			t.Errorf("Reach = %x", l)
		}
		f := s.Fork()
		if n := f.Keep([]string{from}); n != 1 || !slices.Equal(f.Sums(), []string{a, b}) {
			t.Errorf("Keep = %d, %x", n, f.Sums())
		}
	}
}

func TestLongLists(t *testing.T) {
	v := leafText("v")
	ext := extText(sumOf(v))
	s := storeOf(t, "x", v, ext)
	wantReach(t, s, slices.Repeat([]string{sumOf(ext), absent(), ""}, 1<<17), ext, v)
	wantKeep(t, s, slices.Repeat([]string{"", sumOf(ext), sumOf(ext)[:31]}, 1<<17), 1, ext, v)
}

// TestKeepAndReach holds what stays behind Keep to what was reached ahead of it, and both to changing nothing when done again.
func TestKeepAndReach(t *testing.T) {
	texts := pool()
	for from := range 1 << len(texts) {
		if from%61 > 0 && from&(from-1) != 0 { // each text alone, and some choices of more
			continue
		}
		sums := chosen(from, texts)
		s := storeOf(t, texts...)
		before := s.Reach(sums)
		wantStore(t, s, texts)
		if l := s.Reach(sums); !slices.Equal(l, before) {
			t.Fatalf("Reach(%x) = %x, and then %x", sums, before, l)
		}
		left, gone := plain(texts).keep(sums)
		if !slices.Equal(before, sumsOf(left...)) {
			t.Fatalf("Reach(%x) = %x, want %x", sums, before, sumsOf(left...))
		}
		wantKeep(t, s, sums, gone, left...)
		for range 2 {
			wantReach(t, s, sums, left...)
			wantKeep(t, s, sums, 0, left...)
			wantKeep(t, s, before, 0, left...)
		}
		for _, text := range texts {
			if !slices.Contains(left, text) {
				wantNone(t, s, sumOf(text))
			}
		}
		wantKeep(t, s, nil, len(left))
		wantKeep(t, s, nil, 0)
	}
}

// TestKeepLessAndLess keeps ever less, and more than is there: what went does not come back.
func TestKeepLessAndLess(t *testing.T) {
	v, w := leafText("v"), leafText("w")
	a, b := extText(sumOf(v)), extText(sumOf(w))
	top := branchText("", sumOf(a), sumOf(b))
	s := storeOf(t, v, w, a, b, top, "x")
	wantKeep(t, s, sumsOf(top), 1, v, w, a, b, top)
	wantKeep(t, s, sumsOf(a, b), 1, v, w, a, b)
	wantKeep(t, s, sumsOf(top), 4)
	wantPut(t, s, top)
	wantReach(t, s, sumsOf(top), top)
	wantKeep(t, s, sumsOf(top), 0, top)
}

func TestPutBehindKeep(t *testing.T) {
	v := leafText("v")
	ext := extText(sumOf(v))
	s := storeOf(t, v, ext, "x", "")
	wantKeep(t, s, sumsOf("x"), 3, "x")
	wantPut(t, s, ext)
	wantStore(t, s, plain{"x", ext})
	wantReach(t, s, sumsOf(ext), ext) // its kid went
	wantPut(t, s, v)
	wantPut(t, s, "")
	wantPut(t, s, "x")
	wantPut(t, s, "y")
	wantStore(t, s, plain{"x", ext, v, "", "y"})
	wantReach(t, s, sumsOf(ext), ext, v)
	wantKeep(t, s, sumsOf(ext, ""), 2, ext, v, "")
	wantKeep(t, s, nil, 3)
	for _, text := range someNodes() {
		wantPut(t, s, text)
	}
	wantStore(t, s, someNodes())
}

func TestForksGoTheirOwnWay(t *testing.T) {
	v := leafText("v")
	ext := extText(sumOf(v))
	s := storeOf(t, v, ext, "x")
	f := s.Fork()
	if f == nil || f == s {
		t.Fatal("no store of its own")
	}
	wantStore(t, f, plain{v, ext, "x"})
	wantPut(t, f, "f") // in the fork alone
	wantStore(t, s, plain{v, ext, "x"})
	wantNone(t, s, sumOf("f"))
	wantPut(t, s, "s") // in the store alone
	wantStore(t, f, plain{v, ext, "x", "f"})
	wantNone(t, f, sumOf("s"))
	wantKeep(t, f, sumsOf(ext, "s"), 2, v, ext) // goes from the fork alone
	wantStore(t, s, plain{v, ext, "x", "s"})
	wantReach(t, s, sumsOf(ext, "x"), ext, v, "x")
	wantKeep(t, s, sumsOf("x"), 3, "x") // goes from the store alone
	wantStore(t, f, plain{v, ext})
	wantReach(t, f, sumsOf(ext, "x"), ext, v)
	wantKeep(t, s, nil, 1)
	wantStore(t, f, plain{v, ext})
	wantPut(t, s, v) // goes, and comes again
	wantKeep(t, f, nil, 2)
	wantStore(t, s, plain{v})
	wantStore(t, f, nil)
}

func TestForksOfAStoreOfNothing(t *testing.T) {
	s := New()
	f := s.Fork()
	wantPut(t, s, "s")
	wantStore(t, f, nil)
	wantPut(t, f, "f")
	wantStore(t, s, plain{"s"})
	wantKeep(t, s, nil, 1)
	wantStore(t, f, plain{"f"})
	wantPut(t, s.Fork(), "x")
	wantStore(t, s, nil)
}

// TestForksOfForks has a line of stores, each a fork of the one ahead, which all go on in their own ways.
func TestForksOfForks(t *testing.T) {
	texts := pool()
	line, want := []*Store{New()}, []plain{nil}
	for i := range 12 {
		line, want = append(line, line[i].Fork()), append(want, want[i])
		for j, s := range line {
			if (i+j)%3 == 2 {
				sums := chosen((i*37+j*11)%(1<<len(texts)), texts)
				left, gone := want[j].keep(sums)
				wantKeep(t, s, sums, gone, left...)
				want[j] = left
				continue
			}
			text := texts[(i*5+j*3)%len(texts)]
			wantPut(t, s, text)
			want[j] = want[j].put(text)
		}
		for j, s := range line {
			wantStore(t, s, want[j])
		}
	}
}

func TestStoresStandAlone(t *testing.T) {
	s, other := storeOf(t, "x"), New()
	wantStore(t, other, nil)
	wantPut(t, other, "y")
	wantStore(t, s, plain{"x"})
	wantKeep(t, other, nil, 1)
	wantStore(t, s, plain{"x"})
}

// TestListsHandedOutAreNew changes lists that were handed out, their spare room too.
func TestListsHandedOutAreNew(t *testing.T) {
	v := leafText("v")
	ext := extText(sumOf(v))
	texts := plain{v, ext, "x"}
	s := storeOf(t, texts...)
	f := s.Fork()
	sums, reached, again := s.Sums(), s.Reach(sumsOf(ext)), s.Reach(sumsOf(ext))
	for _, l := range [][]string{sums[:cap(sums)], reached[:cap(reached)]} {
		for i := range l {
			l[i] = absent()
		}
	}
	if !slices.Equal(again, sumsOf(ext, v)) {
		t.Errorf("another list is %x", again)
	}
	for _, one := range []*Store{s, f} {
		wantStore(t, one, texts)
		wantReach(t, one, sumsOf(ext), ext, v)
		wantNone(t, one, absent())
	}
	kept := s.Sums()
	wantKeep(t, s, nil, 3)
	if !slices.Equal(kept, sumsOf(texts...)) || !slices.Equal(again, sumsOf(ext, v)) {
		t.Errorf("lists behind Keep are %x, %x", kept, again)
	}
	for _, sum := range append(sums, reached...) {
		if sum != absent() {
			t.Errorf("a changed list behind Keep is %x, %x", sums, reached)
		}
	}
}

// TestListsHandedInStay holds Reach and Keep to changing no list that they are given, nor what lies behind its length, and to keeping none.
func TestListsHandedInStay(t *testing.T) {
	leaf := leafText("v")
	top := branchText("", sumOf(leaf), sumOf("x"), sumOf("y"))
	texts := plain{leaf, top, "x", "y", "z"}
	s := storeOf(t, texts...)
	was := []string{sumOf(top), absent(), "", sumOf(top), sumOf("z"), sumOf("z"), sumOf("y")}
	l := slices.Clone(was)
	for _, size := range []int{4, 1, 0} {
		want := texts[:4]
		if size == 0 {
			want = nil
		}
		wantReach(t, s, l[:size], want...)
		wantKeep(t, s, l[:size], len(s.Sums())-len(want), want...)
		if !slices.Equal(l, was) {
			t.Errorf("%x, want %x", l, was)
		}
	}
	s = storeOf(t, texts...)
	reached := s.Reach(l[:4])
	for i := range l {
		l[i] = absent()
	}
	if !slices.Equal(reached, sumsOf(texts[:4]...)) {
		t.Errorf("%x, when the list that was handed in is another one", reached)
	}
}

// TestTextsAreNotShared looks at where the texts lie: nothing else could tell.
func TestTextsAreNotShared(t *testing.T) {
	ext := extText(sumOf("xy"))
	lie := []byte("xy" + ext + "xy" + sumOf(ext) + ext)
	text := func(from, size int) string { return unsafe.String(&lie[from], size) }
	given := []string{text(4+len(ext), 32)}
	s := New()
	places := []*byte{unsafe.StringData(s.Put(text(0, 2))), unsafe.StringData(s.Put(text(2, len(ext))))}
	places = append(places, unsafe.StringData(s.Put(text(2+len(ext), 2))), unsafe.StringData(s.Put(text(36+len(ext), len(ext))))) // again, from other places
	lists := [][]string{s.Sums(), s.Sums(), s.Reach(given), s.Reach(given), given}
	s.Keep(given)
	for _, l := range lists {
		if len(l) != 2 && &l[0] != &given[0] {
			t.Fatalf("%x", l)
		}
		for _, sum := range l {
			places = append(places, unsafe.StringData(sum))
		}
	}
	for range 2 {
		for _, sum := range sumsOf("xy", ext) {
			got, _ := s.Get(sum)
			places = append(places, unsafe.StringData(got))
		}
		n, _ := s.Node(sumOf(ext))
		places = append(places, unsafe.StringData(n.Path), unsafe.StringData(n.Kids[0]))
	}
	for sum, has := range s.texts {
		places = append(places, unsafe.StringData(sum), unsafe.StringData(has.text))
	}
	f := s.Fork()
	for i := range lie {
		lie[i] = '!'
	}
	wantStore(t, s, plain{"xy", ext})
	wantStore(t, f, plain{"xy", ext})
	for i, p := range places {
		begin, end := uintptr(unsafe.Pointer(&lie[0])), uintptr(unsafe.Pointer(&lie[len(lie)-1]))
		at := uintptr(unsafe.Pointer(p))
		if slices.Contains(places[:i], p) || at >= begin && at <= end && p != unsafe.StringData(given[0]) {
			t.Errorf("text %d lies where another one does", i)
		}
	}
}

// pool is texts of which some name others, one another's twice, some none that is there.
func pool() []string {
	l := []string{"", "x", leafText("v"), leafText(sumOf("x"))}
	l = append(l, extText(sumOf(l[1])), extText(sumOf(l[2])))
	l = append(l, branchText("", sumOf(l[4]), sumOf(l[5])), branchText("v", "", sumOf(l[0])), extText(absent()))
	l = append(l, branchText("", sumOf(l[6]), sumOf(l[6]), sumOf(l[8])), extText(sumOf(l[1]))+"\x00")
	return append(l, branchText(sumOf(l[2]), sumOf(l[9]), sumOf(l[7]), sumOf(l[3]), sumOf(l[10])))
}

// chosen is the sums of the texts at whose places n has a bit, the later ones ahead, and, of some n, one that is not there.
func chosen(n int, texts []string) []string {
	var sums []string
	for i := len(texts) - 1; i >= 0; i-- {
		if n>>i&1 == 1 {
			sums = append(sums, sumOf(texts[i]))
		}
	}
	if n%3 == 1 {
		sums = append(sums, absent())
	}
	return sums
}

// TestEveryChoiceOfTexts holds stores of every choice of the pool's texts to what a few of the pool's sums, the last one's always, reach and keep there.
func TestEveryChoiceOfTexts(t *testing.T) {
	texts := pool()
	for there := range 1 << len(texts) {
		var p plain
		for i, text := range texts {
			if there>>i&1 == 1 {
				p = append(p, text)
			}
		}
		s := storeOf(t, p...)
		for i := range texts {
			if i%4 != there%4 && i < len(texts)-1 {
				continue
			}
			sums := sumsOf(texts[i])
			wantReach(t, s, sums, p.reached(sums)...)
			left, gone := p.keep(sums)
			wantKeep(t, s.Fork(), sums, gone, left...)
		}
		wantStore(t, s, p)
	}
}

// play holds stores and their forks to their words behind any calls: each 4 bytes of steps are one.
func play(t *testing.T, steps string) {
	t.Helper()
	texts := pool()
	stores, want := []*Store{New()}, []plain{nil}
	for n := 0; len(steps) >= 4 && n < 60; n, steps = n+1, steps[4:] {
		at := int(steps[1]) % len(stores)
		s, p := stores[at], want[at]
		sums := chosen(int(steps[2])<<8|int(steps[3]), texts)
		switch steps[0] % 8 {
		case 0:
			stores, want = append(stores, s.Fork()), append(want, p)
		case 1:
			left, gone := p.keep(sums)
			wantKeep(t, s, sums, gone, left...)
			want[at] = left
		case 2:
			wantReach(t, s, sums, p.reached(sums)...)
		case 3:
			text := steps[2 : 2+steps[0]/128+steps[0]%2] // one of any bytes
			wantPut(t, s, text)
			want[at] = p.put(text)
		default:
			text := texts[int(steps[2])%len(texts)]
			wantPut(t, s, text)
			want[at] = p.put(text)
		}
		wantStore(t, s, want[at])
	}
	for i, s := range stores {
		wantStore(t, s, want[i])
	}
}

func TestAnyCalls(t *testing.T) {
	r := rand.New(rand.NewSource(9))
	for range 400 {
		steps := make([]byte, 240)
		for i := range steps {
			steps[i] = byte(r.Intn(256))
		}
		play(t, string(steps))
	}
}

func FuzzStore(f *testing.F) {
	f.Add("")
	f.Add("\x04\x00\x01\x00\x04\x00\x04\x00\x00\x00\x00\x00\x01\x00\x00\x10\x02\x01\xff\xff\x01\x01\x00\x00")
	f.Add("\x04\x00\x0b\x00\x04\x00\x09\x00\x04\x00\x06\x00\x04\x00\x04\x00\x04\x00\x01\x00\x02\x00\x08\x00\x01\x00\x00\x40\x03\x00ab\x83\x00ab")
	f.Fuzz(play)
}
