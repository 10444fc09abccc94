package digest

import (
	"crypto/sha256"
	"encoding/hex"
	"math"
	"slices"
	"strconv"
	"strings"
	"testing"
	"unsafe"

	"pharos/api"
	"pharos/code"
)

// noTags is numbers that are no tags; several of them are one if only their lowest byte is looked at.
func noTags() []int {
	return []int{0, -1, -2, -254, -255, -256, math.MinInt, math.MinInt + 1, 256, 257, 258, 511, 512, 1<<16 + 1, 1<<32 + 1, math.MaxInt}
}

// library is the sum of a byte tag and s behind, as Go's own library tells it.
func library(tag int, s string) string {
	sum := sha256.Sum256(append([]byte{byte(tag)}, s...))
	return string(sum[:])
}

// hexOf is the text's bytes, each as two digits.
func hexOf(s string) string {
	return hex.EncodeToString([]byte(s))
}

// all32 is a sum of 32 bytes that are all the same.
func all32(b string) string {
	return strings.Repeat(b, api.Digest)
}

// thing is what is noted of a tag, a text and a sum.
func thing(tag int, text, sum string) api.Noted {
	return api.Noted{Tag: tag, Text: text, Digest: sum}
}

// logOf is a log of the things, each of which may be noted.
func logOf(t *testing.T, things ...api.Noted) *Log {
	t.Helper()
	g := NewLog()
	for i, n := range things {
		if e := g.Put(n); e != api.OK {
			t.Fatalf("Put of thing %d, %#v: %d", i, n, e)
		}
	}
	return g
}

// fullLog is a log of api.MaxItems things, no two of one sum, and these.
func fullLog(t *testing.T) (*Log, []api.Noted) {
	t.Helper()
	var things []api.Noted
	for i := range api.MaxItems {
		s := strconv.Itoa(i)
		things = append(things, thing(1+i%255, s, library(1+i%255, s)))
	}
	return logOf(t, things...), things
}

// plainFind is Find as its words say it, by looking at each.
func plainFind(things []api.Noted, sum string) (api.Noted, bool) {
	for _, n := range things {
		if n.Digest == sum {
			return n, true
		}
	}
	return api.Noted{}, false
}

// plainClash is Clash as its words say it, by looking at each with each ahead of it.
func plainClash(things []api.Noted) (a, b api.Noted, ok bool) {
	for i, b := range things {
		for _, a := range things[:i] {
			if a.Digest == b.Digest {
				return a, b, true
			}
		}
	}
	return api.Noted{}, api.Noted{}, false
}

// plainPut is Put as its words say it: what is noted behind it, and its code.
func plainPut(things []api.Noted, n api.Noted) ([]api.Noted, api.Code) {
	switch {
	case n.Tag < 1 || n.Tag > 255:
		return things, api.ErrRange
	case len(n.Digest) != 32:
		return things, api.ErrForm
	case slices.Contains(things, n):
		return things, api.OK
	case len(things) == 1024:
		return things, api.ErrLong
	}
	return append(things, n), api.OK
}

// wantLog holds all that a log tells to the things that it is to have.
func wantLog(t *testing.T, g *Log, things []api.Noted) {
	t.Helper()
	if all := g.All(); !slices.Equal(all, things) {
		t.Fatalf("All: %d things %#v, want %d %#v", len(all), all, len(things), things)
	}
	for _, n := range things {
		want, _ := plainFind(things, n.Digest)
		if got, ok := g.Find(n.Digest); got != want || !ok {
			t.Fatalf("Find(%#v) = %#v, %v, want %#v", n.Digest, got, ok, want)
		}
	}
	a, b, ok := g.Clash()
	if wa, wb, wok := plainClash(things); a != wa || b != wb || ok != wok {
		t.Fatalf("Clash() = %#v, %#v, %v, want %#v, %#v, %v", a, b, ok, wa, wb, wok)
	}
}

// wantNone holds a log to finding nothing of the sum.
func wantNone(t *testing.T, g *Log, sum string) {
	t.Helper()
	if n, ok := g.Find(sum); n != (api.Noted{}) || ok {
		t.Errorf("Find(%#v) = %#v, %v", sum, n, ok)
	}
}

func TestSumsWrittenDown(t *testing.T) {
	for _, c := range []struct {
		tag  int
		s    string
		want string
	}{
		{1, "", "4bf5122f344554c53bde2ebb8cd2b7e3d1600ad631c385a5d7cce23c7785459a"},
		{1, "ab", "170404e05440f45062c423052d5adcfb2c9d546ecfcb2022d6c34af474dbaf18"},
		{255, "", "a8100ae6aa1940d0b663bb31cd466142ebbdbd5187131b92d93818987832eb89"},
	} {
		if s, e := Sum(c.tag, c.s); hexOf(s) != c.want || e != api.OK {
			t.Errorf("Sum(%d, %q) = %s, %d, want %s", c.tag, c.s, hexOf(s), e, c.want)
		}
	}
	for _, c := range []struct {
		tag  int
		l    []string
		want string
	}{
		{2, []string{"a"}, "ce56a5c00505f85681f66648a17c117f23e64ec918140b7b242b4d926b2d6f65"},
		{3, nil, "9b4fb24edd6d1d8830e272398263cdbf026b97392cc35387b991dc0248a628f9"},
		{3, []string{}, "9b4fb24edd6d1d8830e272398263cdbf026b97392cc35387b991dc0248a628f9"},
		{3, []string{""}, "1c2ec232ccf2f4de5aecadd631aeb731e2a01a1683f49a8f530c2da4a173bbeb"},
	} {
		if s, e := Many(c.tag, c.l); hexOf(s) != c.want || e != api.OK {
			t.Errorf("Many(%d, %q) = %s, %d, want %s", c.tag, c.l, hexOf(s), e, c.want)
		}
	}
}

func TestSum(t *testing.T) {
	texts := []string{"", "a", "ab", "\x00", "\x01", "\xff\xfe", "\u00e9", strings.Repeat("x", 62), strings.Repeat("x", 63), strings.Repeat("x", 64), strings.Repeat("y", api.MaxBytes+1)}
	for _, s := range texts[:8] {
		for tag := 1; tag <= 255; tag++ {
			if got, e := Sum(tag, s); got != library(tag, s) || e != api.OK {
				t.Errorf("Sum(%d, %q) = %s, %d", tag, s, hexOf(got), e)
			}
		}
	}
	for _, s := range texts {
		for _, tag := range []int{1, 128, 255} {
			if got, e := Sum(tag, s); got != library(tag, s) || e != api.OK {
				t.Errorf("Sum(%d, %d bytes) = %s, %d", tag, len(s), hexOf(got), e)
			}
		}
		for _, tag := range noTags() {
			if got, e := Sum(tag, s); got != "" || e != api.ErrRange {
				t.Errorf("Sum(%d, %d bytes) = %s, %d", tag, len(s), hexOf(got), e)
			}
		}
	}
}

func TestMany(t *testing.T) {
	long := slices.Repeat([]string{"x"}, api.MaxItems+1)
	lists := [][]string{nil, {""}, {"", ""}, {"a"}, {"ab"}, {"a", "b"}, {"b", "a"}, {"", "ab"}, {"ab", ""}, {"\x00\xff"}, {strings.Repeat("x", 300), "y"}, long}
	for _, l := range lists {
		for _, tag := range []int{1, 2, 128, 255} {
			if got, e := Many(tag, l); got != library(tag, code.List(l)) || e != api.OK {
				t.Errorf("Many(%d, %d texts) = %s, %d", tag, len(l), hexOf(got), e)
			}
		}
		for _, tag := range noTags() {
			if got, e := Many(tag, l); got != "" || e != api.ErrRange {
				t.Errorf("Many(%d, %d texts) = %s, %d", tag, len(l), hexOf(got), e)
			}
		}
	}
}

func TestManyLeavesWhatItIsGiven(t *testing.T) {
	room := []string{"a", "b", "c", "d"}
	before, _ := Many(1, []string{"a", "b"})
	if s, e := Many(1, room[:2]); s != before || e != api.OK {
		t.Errorf("with spare room: %s, %d, want %s", hexOf(s), e, hexOf(before))
	}
	if !slices.Equal(room, []string{"a", "b", "c", "d"}) {
		t.Errorf("the list is %q", room)
	}
	room[0] = "z"
	if s, e := Many(1, []string{"a", "b"}); s != before || e != api.OK {
		t.Errorf("again: %s, %d, want %s", hexOf(s), e, hexOf(before))
	}
}

func TestSumsOfTagsAndListsDiffer(t *testing.T) {
	seen := map[string]string{}
	note := func(what, sum string, e api.Code) {
		if e != api.OK || len(sum) != api.Digest {
			t.Errorf("%s: %s, %d", what, hexOf(sum), e)
		}
		if other, ok := seen[sum]; ok {
			t.Errorf("%s and %s have one sum", what, other)
		}
		seen[sum] = what
	}
	for _, tag := range []int{1, 2, 254, 255} {
		for _, s := range []string{"", "a", "b", "ab", "ba"} {
			sum, e := Sum(tag, s)
			note("text "+strconv.Itoa(tag)+" "+s, sum, e)
		}
		for _, l := range [][]string{nil, {""}, {"a"}, {"b"}, {"ab"}, {"a", "b"}, {"b", "a"}, {"ab", ""}, {"", "ab"}} {
			sum, e := Many(tag, l)
			note("list "+strconv.Itoa(tag)+" "+strings.Join(l, ","), sum, e)
		}
	}
}

func TestLogOfNothing(t *testing.T) {
	g := NewLog()
	if g == nil {
		t.Fatal("no log")
	}
	wantLog(t, g, nil)
	for _, sum := range []string{"", "x", all32("a"), library(1, "")} {
		wantNone(t, g, sum)
	}
}

func TestPut(t *testing.T) {
	sum := all32("s")
	for _, tag := range []int{1, 2, 128, 254, 255} {
		n := thing(tag, "x", sum)
		wantLog(t, logOf(t, n), []api.Noted{n})
	}
	for _, s := range []string{"", "\x00", "\xff", strings.Repeat("x", api.MaxBytes+1)} {
		n := thing(1, s, sum)
		wantLog(t, logOf(t, n), []api.Noted{n})
	}
	for _, d := range []string{all32("\x00"), all32("\xff"), strings.Repeat("\u00e9", 16), library(2, "x")} {
		n := thing(1, "x", d)
		wantLog(t, logOf(t, n), []api.Noted{n})
	}
}

func TestPutRefuses(t *testing.T) {
	sum := all32("s")
	kept := []api.Noted{thing(1, "x", sum), thing(2, "y", sum)}
	g := logOf(t, kept...)
	want := func(n api.Noted, e api.Code) {
		t.Helper()
		if got := g.Put(n); got != e {
			t.Errorf("Put(%#v) = %d, want %d", n, got, e)
		}
		wantLog(t, g, kept)
	}
	wrongSums := []string{"", "s", sum[:31], sum + "s", sum + sum, strings.Repeat("\u00e9", 32)}
	for _, tag := range noTags() {
		want(thing(tag, "x", sum), api.ErrRange)
		for _, d := range wrongSums {
			want(thing(tag, "x", d), api.ErrRange)
		}
	}
	for _, d := range wrongSums {
		want(thing(1, "x", d), api.ErrForm)
		want(thing(255, "", d), api.ErrForm)
		wantNone(t, g, d)
	}
}

func TestPutTwice(t *testing.T) {
	a, b := thing(1, "x", all32("a")), thing(1, "x", all32("b"))
	wantLog(t, logOf(t, a, a), []api.Noted{a})
	wantLog(t, logOf(t, a, b, a, b, b, a), []api.Noted{a, b})
	wantLog(t, logOf(t, b, a, a, b), []api.Noted{b, a})
}

func TestPutOfUnlikeThings(t *testing.T) {
	n := thing(1, "x", all32("a"))
	for _, other := range []api.Noted{
		thing(2, "x", all32("a")),
		thing(1, "y", all32("a")),
		thing(1, "", all32("a")),
		thing(1, "x\x00", all32("a")),
		thing(1, "x", all32("b")),
		thing(1, "x", strings.Repeat("a", 31)+"b"),
		thing(1, "x", "b"+strings.Repeat("a", 31)),
	} {
		wantLog(t, logOf(t, n, other), []api.Noted{n, other})
		wantLog(t, logOf(t, other, n), []api.Noted{other, n})
	}
}

func TestPutInAFullLog(t *testing.T) {
	g, things := fullLog(t)
	last := things[api.MaxItems-1]
	for _, c := range []struct {
		n api.Noted
		e api.Code
	}{
		{thing(1, "new", all32("n")), api.ErrLong},
		{thing(255, last.Text, last.Digest), api.ErrLong},
		{thing(last.Tag, "", last.Digest), api.ErrLong},
		{thing(last.Tag, last.Text, all32("n")), api.ErrLong},
		{things[0], api.OK},
		{last, api.OK},
		{thing(0, "new", all32("n")), api.ErrRange},
		{thing(256, "new", "n"), api.ErrRange},
		{thing(1, "new", all32("n")+"n"), api.ErrForm},
		{thing(1, "new", all32("n")[1:]), api.ErrForm},
	} {
		if e := g.Put(c.n); e != c.e {
			t.Errorf("Put(%#v) = %d, want %d", c.n, e, c.e)
		}
	}
	wantLog(t, g, things)
	wantNone(t, g, all32("n"))
}

func TestPutUpToTheLimit(t *testing.T) {
	_, things := fullLog(t)
	clash := thing(9, "clash", things[0].Digest)
	g := logOf(t, things[:api.MaxItems-1]...)
	wantLog(t, g, things[:api.MaxItems-1])
	for range 2 { // noted already in a log that is full by now
		if e := g.Put(clash); e != api.OK {
			t.Errorf("Put of the last one: %d", e)
		}
		wantLog(t, g, append(slices.Clone(things[:api.MaxItems-1]), clash))
	}
	if e := g.Put(things[api.MaxItems-1]); e != api.ErrLong {
		t.Errorf("Put of one more: %d", e)
	}
}

func TestNote(t *testing.T) {
	g := NewLog()
	var want []api.Noted
	for _, tag := range []int{1, 2, 128, 255} {
		for _, s := range []string{"", "x", "\x00\xff", strings.Repeat("x", api.MaxBytes+1)} {
			want = append(want, thing(tag, s, library(tag, s)))
			for range 2 {
				if sum, e := g.Note(tag, s); sum != library(tag, s) || e != api.OK {
					t.Errorf("Note(%d, %d bytes) = %s, %d", tag, len(s), hexOf(sum), e)
				}
			}
		}
	}
	for _, tag := range noTags() {
		if sum, e := g.Note(tag, "new"); sum != "" || e != api.ErrRange {
			t.Errorf("Note(%d, ..) = %s, %d", tag, hexOf(sum), e)
		}
	}
	wantLog(t, g, want)
}

func TestNoteAndPut(t *testing.T) {
	n := thing(3, "z", library(3, "z"))
	g := logOf(t, n)
	if sum, e := g.Note(3, "z"); sum != n.Digest || e != api.OK {
		t.Errorf("Note of what was put: %s, %d", hexOf(sum), e)
	}
	wantLog(t, g, []api.Noted{n})
	odd := thing(3, "z", all32("o")) // of another sum than Note's: another thing
	g = logOf(t, odd)
	if sum, e := g.Note(3, "z"); sum != n.Digest || e != api.OK {
		t.Errorf("Note beside an odd sum: %s, %d", hexOf(sum), e)
	}
	wantLog(t, g, []api.Noted{odd, n})
	g = logOf(t, thing(4, "z", n.Digest))
	if sum, e := g.Note(3, "z"); sum != n.Digest || e != api.OK {
		t.Errorf("Note that clashes: %s, %d", hexOf(sum), e)
	}
	wantLog(t, g, []api.Noted{thing(4, "z", n.Digest), n})
}

func TestNoteInAFullLog(t *testing.T) {
	g, things := NewLog(), []api.Noted(nil)
	for i := range api.MaxItems {
		s := strconv.Itoa(i)
		things = append(things, thing(7, s, library(7, s)))
		if sum, e := g.Note(7, s); sum != things[i].Digest || e != api.OK {
			t.Fatalf("Note %d: %s, %d", i, hexOf(sum), e)
		}
	}
	for _, c := range []struct {
		tag int
		s   string
		sum string
		e   api.Code
	}{
		{7, "new", "", api.ErrLong},
		{8, "0", "", api.ErrLong},
		{7, "0", things[0].Digest, api.OK},
		{7, "1023", things[1023].Digest, api.OK},
		{0, "new", "", api.ErrRange},
		{256, "0", "", api.ErrRange},
	} {
		if sum, e := g.Note(c.tag, c.s); sum != c.sum || e != c.e {
			t.Errorf("Note(%d, %q) = %s, %d, want %s, %d", c.tag, c.s, hexOf(sum), e, hexOf(c.sum), c.e)
		}
	}
	wantLog(t, g, things)
}

func TestFind(t *testing.T) {
	a, b := all32("a"), all32("b")
	g := logOf(t, thing(5, "q", b), thing(1, "x", a), thing(2, "y", a), thing(1, "w", a))
	if n, ok := g.Find(a); n != thing(1, "x", a) || !ok {
		t.Errorf("Find(a ..) = %#v, %v", n, ok)
	}
	if n, ok := g.Find(b); n != thing(5, "q", b) || !ok {
		t.Errorf("Find(b ..) = %#v, %v", n, ok)
	}
	for _, sum := range []string{"", "a", "x", a[:31], a + "a", all32("c"), a[:31] + "b", all32("A")} {
		wantNone(t, g, sum)
	}
}

func TestClashOfTwo(t *testing.T) {
	x, y := thing(1, "x", all32("s")), thing(2, "x", all32("s"))
	for _, c := range [][2]api.Noted{{x, y}, {y, x}, {x, thing(1, "y", all32("s"))}, {x, thing(9, "", all32("s"))}} {
		g := logOf(t, c[0], c[1])
		for range 2 {
			if a, b, ok := g.Clash(); a != c[0] || b != c[1] || !ok {
				t.Errorf("Clash() = %#v, %#v, %v, want %#v", a, b, ok, c)
			}
		}
	}
	for _, l := range [][]api.Noted{{x}, {x, x}, {x, thing(1, "x", all32("t"))}, {x, thing(2, "x", all32("t"))}} {
		if a, b, ok := logOf(t, l...).Clash(); a != (api.Noted{}) || b != (api.Noted{}) || ok {
			t.Errorf("of %#v: %#v, %#v, %v", l, a, b, ok)
		}
	}
}

func TestClashTellsTheFirst(t *testing.T) {
	r, s := all32("r"), all32("s")
	r1, r2, r3 := thing(1, "", r), thing(2, "", r), thing(3, "", r)
	s1, s2, s3 := thing(1, "", s), thing(2, "", s), thing(3, "", s)
	other := thing(1, "", all32("o"))
	for _, c := range []struct{ l, want []api.Noted }{
		{[]api.Noted{r1, s1, s2, r2}, []api.Noted{s1, s2}}, // the first b, though r's first one came earlier
		{[]api.Noted{s1, r1, s2, r2}, []api.Noted{s1, s2}},
		{[]api.Noted{s1, r1, r2, s2}, []api.Noted{r1, r2}},
		{[]api.Noted{r1, r2, r3}, []api.Noted{r1, r2}},
		{[]api.Noted{r3, other, r2, r1}, []api.Noted{r3, r2}},
		{[]api.Noted{other, s3, r1, s3, s1, r2, s2}, []api.Noted{s3, s1}},
		{[]api.Noted{s1, s1, r1, r1, other, r2, s2}, []api.Noted{r1, r2}},
	} {
		a, b, ok := logOf(t, c.l...).Clash()
		if a != c.want[0] || b != c.want[1] || !ok {
			t.Errorf("of %#v: %#v, %#v, %v, want %#v", c.l, a, b, ok, c.want)
		}
	}
}

func TestClashStaysTheFirst(t *testing.T) {
	g, things := fullLog(t)
	wantLog(t, g, things)
	at := 500
	g = logOf(t, things[:at]...)
	clash := thing(3, "clash", things[at-1].Digest)
	things = append(slices.Clone(things[:at]), clash)
	for _, n := range []api.Noted{clash, thing(3, "later", things[0].Digest), clash} {
		if e := g.Put(n); e != api.OK {
			t.Fatal(e)
		}
		if a, b, ok := g.Clash(); a != things[at-1] || b != clash || !ok {
			t.Errorf("Clash() = %#v, %#v, %v", a, b, ok)
		}
	}
	wantLog(t, g, append(things, thing(3, "later", things[0].Digest)))
}

// TestEveryShortLog holds logs of every run of at most 5 things out of 8 to their words, and to 4.4.
func TestEveryShortLog(t *testing.T) {
	var kinds []api.Noted
	for i := range 8 {
		kinds = append(kinds, thing(1+i%2, strconv.Itoa(i/2%2), all32(strconv.Itoa(i/4))))
	}
	for size, runs := 0, 1; size <= 5; size, runs = size+1, runs*len(kinds) {
		for run := range runs {
			g, things := NewLog(), []api.Noted(nil)
			for rest := run; len(things) < size; rest /= len(kinds) {
				things = append(things, kinds[rest%len(kinds)])
			}
			var want []api.Noted
			unlike := false
			for _, n := range things {
				if e := g.Put(n); e != api.OK {
					t.Fatal(n, e)
				}
				want, _ = plainPut(want, n)
				for _, m := range things {
					unlike = unlike || m != n && m.Digest == n.Digest
				}
			}
			wantLog(t, g, want)
			if _, _, ok := g.Clash(); ok != unlike {
				t.Fatalf("%#v: clash %v, want %v", things, ok, unlike)
			}
		}
	}
}

func TestListsHandedOutAreNew(t *testing.T) {
	things := []api.Noted{thing(1, "x", all32("a")), thing(2, "y", all32("b")), thing(3, "z", all32("a"))}
	g := logOf(t, things...)
	one, two := g.All(), g.All()
	for i := range one {
		one[i] = thing(9, "changed", all32("c"))
	}
	_ = append(one[:1], thing(8, "grown", all32("d")))
	if !slices.Equal(two, things) {
		t.Errorf("another list is %#v", two)
	}
	wantLog(t, g, things)
	spare := g.All()
	spare = spare[:cap(spare)]
	for i := range spare {
		spare[i] = thing(9, "changed", all32("c"))
	}
	more := thing(4, "w", all32("b"))
	if e := g.Put(more); e != api.OK {
		t.Fatal(e)
	}
	wantLog(t, g, append(slices.Clone(things), more))
	if !slices.Equal(two, things) {
		t.Errorf("a list behind a later Put is %#v", two)
	}
	for i := range spare {
		if spare[i] != thing(9, "changed", all32("c")) {
			t.Errorf("a changed list behind a later Put is %#v", spare)
		}
	}
}

// TestTextsAreNotShared looks at where the texts lie: nothing else could tell.
func TestTextsAreNotShared(t *testing.T) {
	lie := []byte("text" + all32("s"))
	text, sum := unsafe.String(&lie[0], 4), unsafe.String(&lie[4], api.Digest)
	g := logOf(t, thing(1, text, sum))
	for i := range lie {
		lie[i] = '!'
	}
	wantLog(t, g, []api.Noted{thing(1, "text", all32("s"))})
	g = logOf(t, thing(1, "x", all32("s")), thing(2, "y", all32("s")))
	var places []*byte
	look := func(l ...api.Noted) {
		for _, n := range l {
			places = append(places, unsafe.StringData(n.Text), unsafe.StringData(n.Digest))
		}
	}
	look(g.All()...)
	look(g.All()...)
	a, b, _ := g.Clash()
	n, _ := g.Find(all32("s"))
	look(a, b, n)
	look(g.things...)
	for i, p := range places {
		if slices.Contains(places[:i], p) {
			t.Errorf("text %d lies where another one does", i)
		}
	}
}

func TestLogsStandAlone(t *testing.T) {
	n, m := thing(1, "x", all32("a")), thing(2, "x", all32("a"))
	g, h := logOf(t, n), NewLog()
	wantLog(t, h, nil)
	wantNone(t, h, n.Digest)
	if e := h.Put(m); e != api.OK {
		t.Error(e)
	}
	wantLog(t, g, []api.Noted{n})
	wantLog(t, h, []api.Noted{m})
}

// FuzzLog holds a log to its words behind any calls: each 4 bytes of steps are one.
func FuzzLog(f *testing.F) {
	f.Add("")
	f.Add("\x00\x01xa\x00\x02xa\x01\x01xb\x00\x01xa")
	f.Add("\x02\x01xa\x03\x00xa\x00\x00xa\x01\xffyb")
	f.Fuzz(func(t *testing.T, steps string) {
		g, things := NewLog(), []api.Noted(nil)
		for ; len(steps) >= 4 && len(things) < 100; steps = steps[4:] {
			kind, tag, text := steps[0]%4, int(steps[1])+int(steps[0]>>7), steps[2:3] // tags from 0 to 256
			var want api.Code
			switch kind {
			case 0:
				things, want = plainPut(things, thing(tag, text, library(tag, text)))
				sum, e := g.Note(tag, text)
				if e != want || e == api.OK && sum != library(tag, text) || e != api.OK && sum != "" {
					t.Errorf("Note(%d, %q) = %q, %d, want %d", tag, text, sum, e, want)
				}
			default:
				n := thing(tag, text, strings.Repeat(steps[3:4], 30+int(kind)))
				things, want = plainPut(things, n)
				if e := g.Put(n); e != want {
					t.Errorf("Put(%#v) = %d, want %d", n, e, want)
				}
			}
			wantLog(t, g, things)
		}
	})
}
