package vers

import (
	"maps"
	"math"
	"slices"
	"strconv"
	"strings"
	"testing"

	"pharos/api"
	"pharos/trie"
)

// What the chapter's words say of versions, done plainly: each one has all its items, and its trie made of these alone.

// was is a version as the words say it.
type was struct {
	height int
	values map[string]string // by their keys; not written any more
	trie   *trie.Trie
}

// plain is what is kept as the words say it: the versions that are there, each one higher than the one ahead, and all numbers that Prune was given.
type plain struct {
	versions []was
	given    []int
}

// went tells whether the height is below a number that Prune was given.
func (p plain) went(height int) bool {
	return slices.ContainsFunc(p.given, func(n int) bool { return height < n })
}

// commit is what is there behind Commit, which does not change what p is.
func (p plain) commit(height int, changes []api.Item) (plain, string, api.Code) {
	if height < 0 || height > 1<<20 {
		return p, "", api.ErrRange
	}
	if slices.ContainsFunc(p.versions, func(w was) bool { return w.height >= height }) || p.went(height) {
		return p, "", api.ErrOld
	}
	values := map[string]string{}
	if n := len(p.versions); n > 0 {
		values = maps.Clone(p.versions[n-1].values)
	}
	for _, c := range changes {
		_, there := values[c.Key]
		switch {
		case len(c.Key) < 1 || len(c.Key) > 8:
			return p, "", api.ErrRange
		case len(c.Value) > 32 || c.Value != "" && !there && len(values) == 1<<10:
			return p, "", api.ErrLong
		case c.Value == "":
			delete(values, c.Key)
		default:
			values[c.Key] = c.Value
		}
	}
	x, e := trie.Of(itemsOf(values))
	if e != api.OK {
		panic("a plain trie that is refused")
	}
	p.versions = append(slices.Clone(p.versions), was{height, values, x})
	return p, x.Root(), api.OK
}

// prune is what is there behind Prune, and how many versions went.
func (p plain) prune(below int) (plain, int) {
	var left []was
	for i, w := range p.versions {
		if w.height >= below || i == len(p.versions)-1 {
			left = append(left, w)
		}
	}
	return plain{left, append(slices.Clone(p.given), below)}, len(p.versions) - len(left)
}

// at is the version of this height, or why there is none.
func (p plain) at(height int) (was, api.Code) {
	for _, w := range p.versions {
		if w.height == height {
			return w, api.OK
		}
	}
	if p.went(height) {
		return was{}, api.ErrOld
	}
	return was{}, api.ErrNone
}

// heights is those of all versions.
func (p plain) heights() []int {
	var l []int
	for _, w := range p.versions {
		l = append(l, w.height)
	}
	return l
}

// texts counts the nodes of all versions, each once.
func (p plain) texts() int {
	seen := map[string]bool{}
	for _, w := range p.versions {
		for _, text := range w.trie.Nodes() {
			seen[text] = true
		}
	}
	return len(seen)
}

// numbers is what may be asked for as a height, or given to Prune: the heights and numbers that were, those around them, and the ends of all.
func (p plain) numbers() []int {
	l := []int{math.MinInt, math.MinInt32, -2, -1, 0, 1, 2, 1<<20 - 1, 1 << 20, 1<<20 + 1, math.MaxInt32, 1 << 32, math.MaxInt - 1, math.MaxInt}
	for _, n := range append(p.heights(), p.given...) {
		l = append(l, n)
		if n > math.MinInt {
			l = append(l, n-1)
		}
		if n < math.MaxInt {
			l = append(l, n+1)
		}
	}
	slices.Sort(l)
	return slices.Compact(l)
}

// itemsOf is values as items, their keys rising.
func itemsOf(values map[string]string) []api.Item {
	var l []api.Item
	for _, key := range slices.Sorted(maps.Keys(values)) {
		l = append(l, api.Item{Key: key, Value: values[key]})
	}
	return l
}

// changesOf is changes by pairs of a key and a value.
func changesOf(pairs ...string) []api.Item {
	var l []api.Item
	for i := 0; i < len(pairs); i += 2 {
		l = append(l, api.Item{Key: pairs[i], Value: pairs[i+1]})
	}
	return l
}

// both is versions as the package has them and as the words say them, which are held against each other.
type both struct {
	t *testing.T
	v *Vers
	p plain
}

// begin is both without versions.
func begin(t *testing.T) *both {
	t.Helper()
	b := &both{t: t, v: New()}
	if b.v == nil {
		t.Fatal("no versions at all")
	}
	return b
}

// commit commits to both, and holds the answers against each other.
func (b *both) commit(height int, changes ...api.Item) api.Code {
	b.t.Helper()
	p, want, wantE := b.p.commit(height, changes)
	if root, e := b.v.Commit(height, changes); root != want || e != wantE {
		b.t.Fatalf("Commit(%d, %.200q) = %x, %d, want %x, %d, behind %v, %v", height, changes, root, e, want, wantE, b.p.heights(), b.p.given)
	}
	b.p = p
	return wantE
}

// wantCommit commits to both, twice the same if it is refused, and holds the code to the one that a test has written down.
func (b *both) wantCommit(want api.Code, height int, changes ...api.Item) {
	b.t.Helper()
	ahead := told(b.v)
	if e := b.commit(height, changes...); e != want {
		b.t.Fatalf("Commit(%d, %.200q): %d, want %d", height, changes, e, want)
	}
	if want != api.OK {
		b.commit(height, changes...)
		if told(b.v) != ahead {
			b.t.Fatalf("Commit(%d, %.200q) was refused by %d, and has changed something", height, changes, want)
		}
	}
	b.want()
}

// prune prunes both, and holds the answers against each other.
func (b *both) prune(below int) int {
	b.t.Helper()
	p, want := b.p.prune(below)
	if n := b.v.Prune(below); n != want {
		b.t.Fatalf("Prune(%d) = %d, want %d, behind %v, %v", below, n, want, b.p.heights(), b.p.given)
	}
	b.p = p
	return want
}

// wantPrune prunes both, then once more, and holds the answer to the one that a test has written down.
func (b *both) wantPrune(want, below int) {
	b.t.Helper()
	if n := b.prune(below); n != want {
		b.t.Fatalf("Prune(%d) = %d, want %d", below, n, want)
	}
	b.want()
	if n := b.prune(below); n != 0 {
		b.t.Fatalf("Prune(%d), once more, = %d", below, n)
	}
	b.want()
}

// want holds all that is told against the words, twice.
func (b *both) want() {
	b.t.Helper()
	for range 2 {
		if l := b.v.Heights(); !slices.Equal(l, b.p.heights()) {
			b.t.Fatalf("Heights = %v, want %v", l, b.p.heights())
		}
		if n := b.v.Texts(); n != b.p.texts() {
			b.t.Fatalf("Texts = %d, want %d, of %v", n, b.p.texts(), b.p.heights())
		}
		for _, height := range b.p.numbers() {
			b.wantAt(height)
		}
	}
}

// wantAt holds what is told of a height against the words.
func (b *both) wantAt(height int) {
	b.t.Helper()
	w, want := b.p.at(height)
	root, e := b.v.Root(height)
	x, atE := b.v.At(height)
	if e != want || atE != want {
		b.t.Fatalf("Root(%d): %d, At: %d, want %d, of %v, %v", height, e, atE, want, b.p.heights(), b.p.given)
	}
	if want != api.OK {
		if root != "" || x != nil {
			b.t.Fatalf("of %d, beside %d: %x, %v", height, want, root, x)
		}
		return
	}
	if root != w.trie.Root() || x == nil || toldOf(x) != toldOf(w.trie) || !slices.Equal(x.Items(), itemsOf(w.values)) {
		b.t.Fatalf("of %d: %x, %.300q, want %.300q", height, root, toldOf(x), itemsOf(w.values))
	}
}

// told is all that versions tell of what is there, in one text.
func told(v *Vers) string {
	l := []string{strconv.Itoa(v.Texts())}
	for _, height := range v.Heights() {
		root, e := v.Root(height)
		x, atE := v.At(height)
		l = append(l, strconv.Itoa(height), root, strconv.Itoa(int(e)), strconv.Itoa(int(atE)), toldOf(x))
	}
	return strings.Join(l, "/")
}

// toldOf is all that a trie tells, in one text.
func toldOf(x *trie.Trie) string {
	if x == nil {
		return "none"
	}
	l := append([]string{x.Root()}, x.Nodes()...)
	for _, item := range x.Items() {
		l = append(l, item.Key, item.Value)
	}
	return strings.Join(l, "/")
}
