package trie

import (
	"iter"
	"maps"
	"math/rand"
	"slices"
	"strconv"
	"strings"
	"testing"
	"unsafe"

	"pharos/api"
	"pharos/node"
	"pharos/store"
)

// absent is a sum of no text that a test puts.
func absent() string { return strings.Repeat("z", 32) }

// storeOf is a store of texts.
func storeOf(texts ...string) *store.Store {
	s := store.New()
	for _, text := range texts {
		s.Put(text)
	}
	return s
}

// wantLoad is the trie of a root, which is not to be refused.
func wantLoad(t *testing.T, s *store.Store, root string) *Trie {
	t.Helper()
	x, e := Load(s, root)
	if e != api.OK || x == nil {
		t.Fatalf("Load of %x = %v, %d", root, x, e)
	}
	return x
}

// wantRefused holds Load to refusing a root by a code.
func wantRefused(t *testing.T, s *store.Store, root string, want api.Code) {
	t.Helper()
	if x, e := Load(s, root); x != nil || e != want {
		t.Fatalf("Load of %x = %v, %d, want %d", root, x, e, want)
	}
}

// sumsOf is the texts' sums, rising, none twice.
func sumsOf(texts ...string) []string {
	sums := map[string]int{}
	for _, text := range texts {
		sums[sumOf(text)] = 1
	}
	return slices.Sorted(maps.Keys(sums))
}

func TestSaveAndLoad(t *testing.T) {
	l := shapes()
	l = append(l, shape{many(1024), all(plainOf(many(1024)).spots())}, shape{many(300), all(plainOf(many(300)).spots())})
	every, texts := storeOf("other", "", leafText("\x01", "v")), []string{"other", "", leafText("\x01", "v")}
	for _, c := range l {
		x, p := trieOf(t, c.items), plainOf(c.items)
		s := store.New()
		for range 2 { // to save it again changes nothing
			if root := x.Save(s); root != sumOf(c.nodes[0]) || root != x.Root() {
				t.Fatalf("Save = %x", root)
			}
			if sums := s.Sums(); !slices.Equal(sums, sumsOf(c.nodes...)) {
				t.Fatalf("of %q the store has %x", c.items, sums)
			}
			for _, text := range c.nodes {
				if got, there := s.Get(sumOf(text)); got != text || !there {
					t.Fatalf("Get(%x) = %q, %v", sumOf(text), got, there)
				}
			}
		}
		wantTrie(t, wantLoad(t, s, x.Root()), p)
		texts = append(texts, c.nodes...)
		x.Save(every)
		if !slices.Equal(every.Sums(), sumsOf(texts...)) {
			t.Fatalf("with others behind %q: %x", c.items, every.Sums())
		}
	}
	for _, c := range l {
		wantTrie(t, wantLoad(t, every, sumOf(c.nodes[0])), plainOf(c.items))
	}
	if !slices.Equal(every.Sums(), sumsOf(texts...)) {
		t.Error("Load changed the store")
	}
}

func TestSaveAndLoadOfNothing(t *testing.T) {
	for _, s := range []*store.Store{store.New(), storeOf("", "x", leafText("\x01", "v"))} {
		sums := s.Sums()
		for _, x := range []*Trie{New(), wantLoad(t, s, ""), wantDel(t, wantPut(t, New(), "k", "v"), "k")} {
			if root := x.Save(s); root != "" || !slices.Equal(s.Sums(), sums) {
				t.Errorf("Save = %x, the store has %x", root, s.Sums())
			}
			wantTrie(t, x, nil)
			wantTrie(t, wantPut(t, x, "k", "v"), plain{"k": "v"})
		}
	}
}

// TestLoadedTriesGoOn changes what was loaded, takes its nodes from the store, and saves what came of it.
func TestLoadedTriesGoOn(t *testing.T) {
	for _, c := range shapes() {
		s, p := store.New(), plainOf(c.items)
		root := trieOf(t, c.items).Save(s)
		x := wantLoad(t, s, root)
		wantWays(t, x, p.spots(), append(pool(), keysOf(c.items)...))
		s.Keep(nil)
		wantRefused(t, s, root, api.ErrLost)
		wantTrie(t, x, p)
		for key := range p {
			wantTrie(t, wantDel(t, x, key), p.del(key))
			wantTrie(t, wantPut(t, x, key, "anew"), p.put(key, "anew"))
		}
		for _, key := range pool() {
			y := wantPut(t, x, key, "more")
			wantTrie(t, y, p.put(key, "more"))
			s := store.New()
			wantTrie(t, wantLoad(t, s, y.Save(s)), p.put(key, "more"))
			wantTrie(t, wantDel(t, wantLoad(t, s, y.Root()), key), p.del(key))
		}
		wantTrie(t, x, p)
	}
}

// TestVersionsInOneStore saves a line of tries in one store, each with one key more, and lets all go that one of them does not reach.
func TestVersionsInOneStore(t *testing.T) {
	s, p := store.New(), plain{}
	tries, plains := []*Trie{New()}, []plain{p}
	for i, key := range pool() {
		p = p.put(key, strconv.Itoa(i))
		x := wantPut(t, wantLoad(t, s, tries[i].Root()), key, strconv.Itoa(i))
		x.Save(s)
		tries, plains = append(tries, x), append(plains, p)
	}
	for i, x := range tries {
		wantTrie(t, wantLoad(t, s, x.Root()), plains[i])
		f := s.Fork()
		f.Keep([]string{x.Root()})
		wantTrie(t, wantLoad(t, f, x.Root()), plains[i])
		if !slices.Equal(f.Sums(), sumsOf(x.Nodes()...)) {
			t.Errorf("of %d items Keep leaves %x", i, f.Sums())
		}
	}
}

// TestLoadLost takes one text away, and another one: the trie is loaded just if none of its own is gone.
func TestLoadLost(t *testing.T) {
	for _, c := range shapes() {
		for i := range c.nodes {
			for j := range c.nodes[:i+1] {
				some := slices.DeleteFunc(slices.Clone(c.nodes), func(text string) bool { return text == c.nodes[i] || text == c.nodes[j] })
				wantRefused(t, storeOf(append(some, "x", "")...), sumOf(c.nodes[0]), api.ErrLost)
			}
		}
		wantTrie(t, wantLoad(t, storeOf(append(c.nodes, "x", "")...), sumOf(c.nodes[0])), plainOf(c.items))
	}
	s := storeOf("x", leafText("\x06\x01", "v"))
	root := sumOf(leafText("\x06\x01", "v"))
	for _, sum := range []string{"x", "none", absent(), root[:31], root + "\x00", "\x00", root + root, strings.Repeat("z", 1<<16)} {
		wantRefused(t, s, sum, api.ErrLost)
	}
	wantTrie(t, wantLoad(t, s, root), plain{"a": "v"})
}

// a path of n half bytes, that ends with i.
func pathTo(n, i int) string { return strings.Repeat("\x07", n-1) + string([]byte{byte(i)}) }

// TestLoadRefuses has one fault in each store.
func TestLoadRefuses(t *testing.T) {
	var texts []string
	put := func(text string) string { texts = append(texts, text); return sumOf(text) }
	leaf := func(path string) string { return put(leafText(path, "v")) }
	ext := func(path, kid string) string { return put(extText(path, kid)) }
	branch := func(value string, i int, a string, j int, b string) string {
		return put(branchText(value, map[int]string{i: a, j: b}))
	}
	one := func(value string, kid string) string { return put(branchText(value, map[int]string{3: kid})) }
	even, odd, none := leaf("\x01\x02"), leaf("\x01"), leaf("")
	good := branch("", 1, odd, 2, odd) // of keys of one byte
	at15, at14 := pathTo(15, 1), pathTo(14, 1)
	for i, c := range []struct {
		root string
		e    api.Code
	}{
		{good, api.OK},
		{even, api.OK},
		{ext(at15, branch("", 1, none, 2, none)), api.OK}, // 16 half bytes
		{ext(at14, branch("", 1, odd, 2, odd)), api.OK},
		{ext(at14, one("v", odd)), api.OK},
		{leaf(pathTo(16, 2)), api.OK},
		{branch("", 1, leaf(at15), 2, odd), api.OK},

		{put("text"), api.ErrNode},
		{put(""), api.ErrNode},
		{put(leafText("\x01\x02", "")), api.ErrNode},
		{put(leafText(pathTo(17, 2), "v")), api.ErrNode}, // no node may have such a path
		{put(branchText("", map[int]string{1: odd})), api.ErrNode},
		{put(extText("", good)), api.ErrNode},
		{branch("", 1, odd, 2, put("text")), api.ErrNode},
		{branch("", 1, odd, 2, put("")), api.ErrNode},
		{ext("\x01", put("text")), api.ErrNode},

		{ext("\x01", odd), api.ErrShape}, // no branch, and named by an extension
		{ext("\x01\x02", even), api.ErrShape},
		{ext("\x01\x02", none), api.ErrShape},
		{ext("\x01", ext("\x01", branch("", 1, none, 2, none))), api.ErrShape},
		{branch("", 1, odd, 2, ext("\x01", none)), api.ErrShape},

		{branch("", 1, leaf(pathTo(16, 1)), 2, odd), api.ErrShape}, // more than 16 half bytes: leaves'
		{ext(at14, branch("", 1, leaf("\x01\x02\x03"), 2, odd)), api.ErrShape},
		{ext(at15, branch("", 1, leaf("\x01\x02"), 2, none)), api.ErrShape},
		{branch("", 1, odd, 2, ext(pathTo(16, 1), branch("", 1, none, 2, none))), api.ErrShape}, // an extension's
		{branch("", 1, odd, 2, ext(pathTo(16, 1), absent())), api.ErrShape},
		{ext(pathTo(16, 1), branch("", 1, none, 2, none)), api.ErrShape}, // with one more, a branch's
		{ext(pathTo(16, 1), one("v", none)), api.ErrShape},
		{ext(pathTo(16, 1), one("v", absent())), api.ErrShape},
		{ext(pathTo(16, 1), branch("", 1, absent(), 2, absent())), api.ErrShape},
		{ext(at15, branch("", 1, none, 2, branch("v", 1, odd, 2, odd))), api.ErrShape},

		{odd, api.ErrShape}, // an odd number of half bytes, or none
		{none, api.ErrShape},
		{leaf(at15), api.ErrShape},
		{one("v", odd), api.ErrShape},
		{branch("v", 1, odd, 2, odd), api.ErrShape},
		{ext("\x01", one("v", even)), api.ErrShape},
		{ext("\x01", one("v", odd)), api.ErrShape},
		{ext("\x01\x02", one("v", even)), api.ErrShape},
		{branch("", 1, odd, 2, even), api.ErrShape},
		{branch("", 1, odd, 2, none), api.ErrShape},
		{branch("", 1, even, 2, odd), api.ErrShape},
		{ext(at15, branch("v", 1, none, 2, none)), api.ErrShape},

		{branch("", 1, odd, 2, absent()), api.ErrLost},
		{branch("", 1, absent(), 2, odd), api.ErrLost},
		{ext("\x01", absent()), api.ErrLost},
		{ext("\x01", put(branchText("", map[int]string{0: none, 14: none, 15: absent()}))), api.ErrLost},
	} {
		x, e := Load(storeOf(texts...), c.root)
		if e != c.e || (x == nil) != (e != api.OK) {
			t.Errorf("root %d: %v, %d, want %d", i, x, e, c.e)
		}
		if e == api.OK && (x.Root() != c.root || trieOf(t, x.Items()).Root() != c.root) {
			t.Errorf("root %d: another one of %q", i, x.Items())
		}
	}
}

// TestLoadTellsTheFirst has several faults in each store, the one that is to be told ahead of the others.
func TestLoadTellsTheFirst(t *testing.T) {
	var texts []string
	put := func(text string) string { texts = append(texts, text); return sumOf(text) }
	none, odd := put(leafText("", "v")), put(leafText("\x01", "v"))
	text, long := put("text"), put(leafText(pathTo(16, 1), "v"))
	kids := func(value string, kids ...string) string {
		m := map[int]string{}
		for i, kid := range kids {
			m[i*5] = kid
		}
		return put(branchText(value, m))
	}
	deep := put(extText("\x01", kids("", absent(), none)))
	for i, c := range []struct {
		root string
		e    api.Code
	}{
		{kids("", absent(), text), api.ErrLost},
		{kids("", text, absent()), api.ErrNode},
		{kids("", none, absent(), text), api.ErrShape}, // none: an odd number
		{kids("", odd, text, absent(), long), api.ErrNode},
		{kids("", odd, long, text, absent()), api.ErrShape},
		{kids("", odd, absent(), long, text), api.ErrLost},
		{kids("", deep, text), api.ErrLost}, // what stands below comes ahead of what stands behind
		{kids("", odd, deep, text), api.ErrLost},
		{kids("", odd, text, deep), api.ErrNode},
		{kids("v", absent(), text), api.ErrShape}, // an own item comes ahead of the kids: of none
		{kids("v", text), api.ErrShape},
		{put(extText("\x01", kids("v", absent(), text))), api.ErrShape}, // of an odd number
		{put(extText("\x01\x01", kids("v", absent(), text))), api.ErrLost},
		{put(extText("\x01", put(extText("\x01", absent())))), api.ErrShape}, // below an extension
		{put(extText("\x01", put(extText("\x01", text)))), api.ErrShape},
		{put(extText("\x01", absent())), api.ErrLost}, // what is not there has no kind
		{put(extText("\x01", text)), api.ErrNode},
		{put(extText(pathTo(16, 1), kids("", absent(), text))), api.ErrShape}, // too deep: not looked for
		{put(extText(pathTo(16, 1), kids("", text, absent()))), api.ErrShape},
		{put(extText(pathTo(15, 1), kids("", text, absent()))), api.ErrNode},
		{kids("", put(extText(pathTo(15, 1), kids("", text, absent()))), text), api.ErrShape},
		{kids("", put(extText(pathTo(15, 1), absent())), text), api.ErrLost},
		{kids("", put(extText(pathTo(16, 1), absent())), text), api.ErrShape},
	} {
		if x, e := Load(storeOf(texts...), c.root); x != nil || e != c.e {
			t.Errorf("root %d: %v, %d, want %d", i, x, e, c.e)
		}
	}
}

// TestLoadOfManyItems has tries whose nodes are there once, and stand in many places: they have 1024 items, or more.
func TestLoadOfManyItems(t *testing.T) {
	var texts []string
	put := func(text string) string { texts = append(texts, text); return sumOf(text) }
	kids := func(value string, n int, kid string, more ...string) string {
		m := map[int]string{}
		for i := range n {
			m[i] = kid
		}
		for i, kid := range more {
			m[n+i] = kid
		}
		return put(branchText(value, m))
	}
	odd := put(leafText("\x01", "v"))
	at256 := kids("", 16, kids("", 16, odd)) // of paths of three half bytes
	text, three, even := put("text"), put(leafText("\x01\x02\x03", "v")), put(leafText("\x01\x02", "v"))
	own := put(extText("\x01", kids("v", 1, odd))) // an own item of a path of an even number, behind one half byte
	ownLost := put(extText("\x01", kids("v", 1, absent())))
	deep, deepest := put(extText(pathTo(15, 1), kids("v", 1, absent()))), put(extText(pathTo(14, 1), kids("v", 1, absent())))
	lostKids := kids("", 1, absent(), odd)
	at255 := kids("", 15, kids("", 16, odd), kids("", 15, odd)) // one less
	for i, c := range []struct {
		root string
		e    api.Code
		has  int
	}{
		{kids("", 4, at256), api.OK, 1024},
		{kids("", 3, at256, at255), api.OK, 1023},
		{kids("", 3, at256, at255, three), api.OK, 1024}, // of other lengths, too
		{kids("", 3, at256, at255, odd), api.OK, 1024},
		{kids("", 4, at256, odd), api.ErrLong, 0},
		{kids("", 4, at256, three), api.ErrLong, 0},
		{kids("", 5, at256), api.ErrLong, 0},
		{kids("", 16, kids("", 16, at256)), api.ErrShape, 0}, // 65536 of an odd number
		{kids("", 16, kids("", 16, kids("", 16, kids("", 16, odd)))), api.ErrShape, 0},
		{kids("", 16, kids("", 16, kids("", 16, odd))), api.ErrLong, 0}, // 4096
		{kids("", 3, at256, at255, own), api.ErrLong, 0},
		{kids("", 3, at256, at255, ownLost), api.ErrLost, 0}, // its own item is the last one that may be
		{kids("", 4, at256, ownLost), api.ErrLong, 0},        // its own item is one more, ahead of the kid
		{kids("", 4, at256, deep), api.ErrLong, 0},           // that, too, ahead of kids that stand too deep
		{kids("", 3, at256, at255, deep), api.ErrShape, 0},
		{kids("", 4, at256, deepest), api.ErrShape, 0}, // an odd number, ahead of one more
		{kids("", 4, at256, lostKids), api.ErrLost, 0}, // no item of its own
		{kids("", 4, at256, even), api.ErrShape, 0},
		{kids("", 4, at256, put(leafText(pathTo(16, 1), "v"))), api.ErrShape, 0},
		{kids("", 4, at256, put(extText(pathTo(16, 1), absent()))), api.ErrShape, 0},
		{kids("", 4, at256, text), api.ErrNode, 0},
		{kids("", 4, at256, absent()), api.ErrLost, 0},
		{kids("", 4, at256, put(extText("\x01", odd))), api.ErrShape, 0},
		{kids("", 4, at256, put(extText("\x01", absent()))), api.ErrLost, 0},
		{kids("", 4, at256, odd, absent(), text), api.ErrLong, 0}, // what stands behind is not looked at
		{kids("", 4, at256, odd, text), api.ErrLong, 0},
		{kids("", 1, absent(), at256, at256, at256, at256, at256), api.ErrLost, 0},
		{kids("", 1, text, at256, at256, at256, at256, at256), api.ErrNode, 0},
		{kids("", 4, at256, absent(), odd), api.ErrLost, 0},
		{kids("v", 5, at256), api.ErrShape, 0},
	} {
		s := storeOf(texts...)
		x, e := Load(s, c.root)
		if e != c.e || (x == nil) != (e != api.OK) {
			t.Fatalf("root %d: %v, %d, want %d", i, x, e, c.e)
		}
		if e == api.OK {
			if x.Len() != c.has {
				t.Errorf("root %d: %d items", i, x.Len())
			}
			wantTrie(t, x, plainOf(x.Items()))
			if y, e := x.Put("\xff\xff\xff", "v"); (y == nil) != (c.has == 1024) || (e == api.ErrLong) != (y == nil) {
				t.Errorf("root %d: one more: %v, %d", i, y, e)
			}
			wantTrie(t, wantDel(t, x, x.Items()[0].Key), plainOf(x.Items()[1:]))
		}
	}
}

// TestLoadedTextsAreNotShared looks at where the texts lie: nothing else could tell.
func TestLoadedTextsAreNotShared(t *testing.T) {
	s, p := store.New(), plain{"k1": "value1", "k2": "value2", "k234": "value3"}
	lie := lieOf(trieOf(t, p.items()).Save(s))
	root := lie.text(0, 32)
	x, y := wantLoad(t, s, root), wantLoad(t, s, root)
	places := []*byte{unsafe.StringData(root), unsafe.StringData(New().Save(s) + x.Save(s)), unsafe.StringData(x.Save(s)), unsafe.StringData(x.Save(s))}
	for _, one := range []*Trie{x, y} {
		places = slices.AppendSeq(places, maps.Keys(placesIn(one)))
	}
	slices.SortFunc(places, func(a, b *byte) int { return int(uintptr(unsafe.Pointer(a))) - int(uintptr(unsafe.Pointer(b))) })
	if len(slices.Compact(slices.Clone(places))) != len(places) {
		t.Error("a text lies where another one does")
	}
	for i := range lie {
		lie[i] = '!'
	}
	wantTrie(t, x, p)
}

// told is what is told of a node: what is wrong with it, or an item that it has.
type told struct {
	code api.Code
	item api.Item
}

// looked is what Load is to look at, from a sum on, in order, were it to go on behind what is wrong.
func looked(texts map[string]string, sum, place string, inExt bool) iter.Seq[told] {
	return func(yield func(told) bool) { look(texts, sum, place, inExt, yield) }
}

// look tells what looked is, and whether it is to go on.
func look(texts map[string]string, sum, place string, inExt bool, tell func(told) bool) bool {
	if _, there := texts[sum]; !there {
		return tell(told{code: api.ErrLost})
	}
	n, e := node.Decode(texts[sum])
	if e != api.OK {
		return tell(told{code: api.ErrNode})
	}
	if inExt && n.Kind != api.NBranch && !tell(told{code: api.ErrShape}) {
		return false
	}
	path := place + n.Path
	if len(path) > 16 {
		return tell(told{code: api.ErrShape})
	}
	if n.Value != "" {
		one := told{item: api.Item{Key: keyOf(path[:len(path)/2*2]), Value: n.Value}}
		if len(path)%2 == 1 || path == "" {
			one = told{code: api.ErrShape}
		}
		if !tell(one) {
			return false
		}
	}
	for i, kid := range n.Kids {
		at := path
		if n.Kind == api.NBranch {
			at += string([]byte{byte(i)})
		}
		switch {
		case kid == "":
		case len(at) > 16:
			if !tell(told{code: api.ErrShape}) {
				return false
			}
		case !look(texts, kid, at, n.Kind == api.NExt, tell):
			return false
		}
	}
	return true
}

// wantAsLooked holds Load to what is told first, and to the items.
func wantAsLooked(t *testing.T, texts map[string]string, root string) api.Code {
	t.Helper()
	s, p, want := store.New(), plain{}, api.OK
	for _, text := range texts {
		s.Put(text)
	}
	for one := range looked(texts, root, "", false) {
		if want = one.code; want == api.OK && len(p) == 1024 {
			want = api.ErrLong
		}
		if want != api.OK {
			break
		}
		p[one.item.Key] = one.item.Value
	}
	if want != api.OK {
		wantRefused(t, s, root, want)
		return want
	}
	x := wantLoad(t, s, root)
	wantTrie(t, x, p)
	if x.Root() != root {
		t.Fatalf("loaded from %x: %x", root, x.Root())
	}
	return want
}

// twig is a node with those below it, that a test spoils.
type twig struct {
	path, value string
	kids        map[int]*twig
	isExt, lost bool
	other       string // the text in its place
}

// grow is the twig of values by what is left of their paths.
func grow(left map[string]string) *twig {
	begin := slices.Sorted(maps.Keys(left))[0]
	if len(left) == 1 {
		return &twig{path: begin, value: left[begin]}
	}
	for len(cut(left, begin)) < len(left) {
		begin = begin[:len(begin)-1]
	}
	if begin != "" {
		return &twig{path: begin, isExt: true, kids: map[int]*twig{0: grow(cut(left, begin))}}
	}
	b := &twig{value: left[""], kids: map[int]*twig{}}
	for i := range 16 {
		if l := cut(left, string([]byte{byte(i)})); len(l) > 0 {
			b.kids[i] = grow(l)
		}
	}
	return b
}

// all is g and all below it.
func (g *twig) all() []*twig {
	l := []*twig{g}
	for i := range 16 {
		if g.kids[i] != nil {
			l = append(l, g.kids[i].all()...)
		}
	}
	return l
}

// put puts what stands for g and for all below it to texts, by their sums, and answers its own.
func (g *twig) put(texts map[string]string) string {
	kids := map[int]string{}
	for i, k := range g.kids {
		kids[i] = k.put(texts)
	}
	text := g.other
	switch {
	case text != "":
	case g.isExt:
		text = extText(g.path, kids[0])
	case g.kids == nil:
		text = leafText(g.path, g.value)
	default:
		text = branchText(g.value, kids)
	}
	if !g.lost {
		texts[sumOf(text)] = text
	}
	return sumOf(text)
}

// spoil makes something wrong of g, or something else that may be.
func (g *twig) spoil(r *rand.Rand) {
	some := strings.Repeat(string([]byte{byte(r.Intn(16))}), r.Intn(9))
	switch r.Intn(8) {
	case 0:
		g.lost = true
	case 1:
		g.other = "text"
	case 2:
		g.path += some
	case 3:
		g.path = g.path[len(g.path)/2:]
	case 4:
		was := *g
		*g = twig{path: some, isExt: true, kids: map[int]*twig{0: &was}}
	case 5:
		was := *g
		*g = twig{value: some[len(some)/2:], kids: map[int]*twig{r.Intn(8): &was, 8 + r.Intn(8): {path: some, value: "v"}}}
	case 6:
		g.value += some
	default:
		if len(g.kids) > 0 && !g.isExt {
			g.kids[r.Intn(16)] = &twig{path: some, value: "v"}
		}
	}
}

// TestLoadOfSpoiltStores spoils some nodes of a trie, and holds Load to what is wrong first.
func TestLoadOfSpoiltStores(t *testing.T) {
	r := rand.New(rand.NewSource(10))
	seen := map[api.Code]int{}
	for n := range 6000 {
		left := map[string]string{}
		for range 1 + r.Intn(12) {
			left[pathOf(keyBy(string([]byte{byte(r.Intn(256)), byte(r.Intn(256))})))] = strconv.Itoa(r.Intn(3))
		}
		g := grow(left)
		for range n % 4 {
			l := g.all()
			l[r.Intn(len(l))].spoil(r)
		}
		texts := map[string]string{}
		root := g.put(texts)
		seen[wantAsLooked(t, texts, root)]++
	}
	for _, e := range []api.Code{api.OK, api.ErrLost, api.ErrNode, api.ErrShape} {
		if seen[e] < 200 {
			t.Errorf("code %d was seen %d times", e, seen[e])
		}
	}
}

// FuzzLoad builds texts that name those ahead, each 4 bytes of steps one, and loads from each.
func FuzzLoad(f *testing.F) {
	f.Add("\x00\x01\x10\x20")
	f.Add("\x00\x01\x10\x20\x02\x00\xff\xff\x02\x01\xff\xff\x02\x02\xff\xff\x02\x03\x0f\x00")
	f.Add("\x00\x00\x00\x00\x02\x00\x80\x80\x01\x0f\x01\x01\x00\x03\x00\x00\x02\x02\x00\x80\x03\x00\x00\x00\x02\x05\x11\x11")
	f.Fuzz(func(t *testing.T, steps string) {
		texts, sums := map[string]string{}, []string{absent()}
		for n := 0; len(steps) >= 4 && n < 40; n, steps = n+1, steps[4:] {
			last := sums[len(sums)-1-int(steps[1]>>4)%min(4, len(sums))]
			path := strings.Repeat(string([]byte{steps[2] % 16}), int(steps[1])%18)
			text := "text"
			switch steps[0] % 4 {
			case 0:
				text = leafText(path, steps[3:4])
			case 1:
				text = extText(path, last)
			case 2:
				kids := map[int]string{}
				for i := range 16 {
					if (int(steps[2])<<8|int(steps[3]))>>i&1 == 1 {
						kids[i] = sums[len(sums)-1-(i*int(steps[1]&15))%len(sums)]
					}
				}
				text = branchText(path[len(path)/2:], kids)
			}
			sums = append(sums, sumOf(text))
			if steps[0] < 240 {
				texts[sumOf(text)] = text
			}
		}
		for _, sum := range sums {
			wantAsLooked(t, texts, sum)
		}
	})
}
