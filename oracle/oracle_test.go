package oracle

import (
	"slices"
	"strconv"
	"strings"
	"testing"
	"unsafe"

	"pharos/api"
)

// step is a step that signs.
type step struct {
	who, mark string
	honest    bool
}

// all32 is a mark of 32 bytes that are all the same.
func all32(b string) string {
	return strings.Repeat(b, api.Digest)
}

// signed is a signature.
func signed(who, mark string, honest bool) api.Signed {
	return api.Signed{Who: who, Mark: mark, Honest: honest}
}

// plainMark is the mark of a number: no two have the same.
func plainMark(n int) string {
	return strings.Repeat("m", 26) + strconv.Itoa(100000+n)
}

// plainSign is Sign as its words say it: the signatures behind it, in the order in which they came first, and its code.
func plainSign(l []api.Signed, s step) ([]api.Signed, api.Code) {
	if len(s.who) == 0 || len(s.who) > 6 {
		return l, api.ErrRange
	}
	if len(s.mark) != 32 {
		return l, api.ErrForm
	}
	for i := range l {
		if l[i].Who == s.who && l[i].Mark == s.mark {
			l = slices.Clone(l)
			if !s.honest {
				l[i].Honest = false
			}
			return l, api.OK
		}
	}
	if len(l) == 1024 {
		return l, api.ErrLong
	}
	return append(slices.Clone(l), signed(s.who, s.mark, s.honest)), api.OK
}

// plainHonest is Honest as its words say it.
func plainHonest(l []api.Signed, who string) bool {
	for _, s := range l {
		if s.Who == who && !s.Honest {
			return false
		}
	}
	return true
}

// plainAll is the signatures in order, each put behind those that stand ahead of it, byte by byte.
func plainAll(l []api.Signed) []api.Signed {
	all := make([]api.Signed, len(l))
	for _, s := range l {
		at := 0
		for _, o := range l {
			if plainAhead(o.Who, s.Who) || o.Who == s.Who && plainAhead(o.Mark, s.Mark) {
				at++
			}
		}
		all[at] = s
	}
	return all
}

// plainAhead tells whether a stands ahead of b: at the first byte in which they differ, or as its beginning.
func plainAhead(a, b string) bool {
	for i := range min(len(a), len(b)) {
		if a[i] != b[i] {
			return int(a[i]) < int(b[i])
		}
	}
	return len(a) < len(b)
}

// tableOf is a table of steps, none of which is refused.
func tableOf(t *testing.T, steps ...step) *Table {
	t.Helper()
	o := New()
	for i, s := range steps {
		if e := o.Sign(s.who, s.mark, s.honest); e != api.OK {
			t.Fatalf("step %d, %#v: %d", i, s, e)
		}
	}
	return o
}

// fullTable is a table of api.MaxItems honest signatures of two signers, and these.
func fullTable(t *testing.T) (*Table, []api.Signed) {
	t.Helper()
	o, l := New(), []api.Signed(nil)
	for i := range api.MaxItems {
		l = append(l, signed([]string{"a", "b"}[i%2], plainMark(i/2), true))
		if e := o.Sign(l[i].Who, l[i].Mark, true); e != api.OK {
			t.Fatalf("step %d: %d", i, e)
		}
	}
	return o, l
}

// wantTable holds all that a table tells to the signatures that it is to have.
func wantTable(t *testing.T, o *Table, l []api.Signed) {
	t.Helper()
	if all := o.All(); !slices.Equal(all, plainAll(l)) {
		t.Fatalf("All: %d signatures %#v, want %d %#v", len(all), all, len(l), plainAll(l))
	}
	for i, s := range l {
		if !o.Signed(s.Who, s.Mark) {
			t.Fatalf("Signed(%q, %q): false", s.Who, s.Mark)
		}
		if i < 32 || i > len(l)-32 {
			wantHonest(t, o, s.Who, plainHonest(l, s.Who))
		}
	}
}

// wantHonest holds Honest to what it is to tell of who.
func wantHonest(t *testing.T, o *Table, who string, want bool) {
	t.Helper()
	if o.Honest(who) != want {
		t.Errorf("Honest(%q) is not %v", who, want)
	}
}

// wantNone holds a table to telling that there is no such signature.
func wantNone(t *testing.T, o *Table, who, mark string) {
	t.Helper()
	if o.Signed(who, mark) {
		t.Errorf("Signed(%q, %q): true", who, mark)
	}
}

// wrongSigners is texts that are nobody's who may sign.
func wrongSigners() []string {
	return []string{"", "abcdefg", "\u00e9\u00e9\u00e9\u00e9", strings.Repeat("\x00", 7), strings.Repeat("x", api.MaxBytes)} // é has 2 bytes
}

// wrongMarks is texts that are no marks.
func wrongMarks() []string {
	return []string{"", "m", all32("m")[:31], all32("m") + "m", all32("m") + all32("m"), all32("\u00e9"), strings.Repeat("m", 32+1<<8)}
}

func TestTableOfNothing(t *testing.T) {
	o := New()
	if o == nil {
		t.Fatal("no table")
	}
	wantTable(t, o, nil)
	for _, who := range append(wrongSigners(), "a", "abcdef") {
		wantHonest(t, o, who, true)
		for _, mark := range append(wrongMarks(), all32("m")) {
			wantNone(t, o, who, mark)
		}
	}
	wantTable(t, o.Fork(), nil)
}

func TestSign(t *testing.T) {
	for _, who := range []string{"a", "abcdef", "\x00", "\x00\x00\x00\x00\x00\x00", "\xff", "\u00e9\u00e9\u00e9", " "} {
		for _, mark := range []string{all32("m"), all32("\x00"), all32("\xff"), strings.Repeat("\u00e9", 16)} {
			for _, honest := range []bool{true, false} {
				o := tableOf(t, step{who, mark, honest})
				wantTable(t, o, []api.Signed{signed(who, mark, honest)})
				wantHonest(t, o, who, honest)
			}
		}
	}
}

func TestSignRefuses(t *testing.T) {
	l := []api.Signed{signed("a", all32("m"), true), signed("b", all32("m"), false)}
	o := tableOf(t, step{"a", all32("m"), true}, step{"b", all32("m"), false})
	want := func(who, mark string, e api.Code) {
		t.Helper()
		for _, honest := range []bool{true, false} {
			if got := o.Sign(who, mark, honest); got != e {
				t.Errorf("Sign(%q, %q, %v) = %d, want %d", who, mark, honest, got, e)
			}
			wantNone(t, o, who, mark)
			wantTable(t, o, l)
		}
	}
	for _, who := range wrongSigners() {
		want(who, all32("m"), api.ErrRange)
		for _, mark := range wrongMarks() {
			want(who, mark, api.ErrRange)
		}
	}
	for _, mark := range wrongMarks() {
		want("a", mark, api.ErrForm)
		want("abcdef", mark, api.ErrForm)
	}
}

func TestSignInAFullTable(t *testing.T) {
	o, l := fullTable(t)
	wantTable(t, o, l)
	last := l[api.MaxItems-1]
	for _, c := range []struct {
		who, mark string
		e         api.Code
	}{
		{"c", last.Mark, api.ErrLong},
		{last.Who, all32("n"), api.ErrLong},
		{"ab", l[0].Mark, api.ErrLong},
		{"", all32("n"), api.ErrRange},
		{"abcdefg", all32("n")[:31], api.ErrRange},
		{"c", all32("n")[:31], api.ErrForm},
		{"a", all32("n") + "n", api.ErrForm},
		{l[0].Who, l[0].Mark, api.OK},
		{last.Who, last.Mark, api.OK},
	} {
		if e := o.Sign(c.who, c.mark, true); e != c.e {
			t.Errorf("Sign(%q, %q, true) = %d, want %d", c.who, c.mark, e, c.e)
		}
		if c.e != api.OK {
			if e := o.Sign(c.who, c.mark, false); e != c.e {
				t.Errorf("Sign(%q, %q, false) = %d, want %d", c.who, c.mark, e, c.e)
			}
			wantNone(t, o, c.who, c.mark)
		}
		wantTable(t, o, l)
	}
	if e := o.Sign("a", l[2].Mark, false); e != api.OK { // there already, though the table is full
		t.Errorf("again, not honestly: %d", e)
	}
	l[2].Honest = false
	wantTable(t, o, l)
	wantHonest(t, o, "a", false)
	wantHonest(t, o, "b", true)
}

func TestSignUpToTheLimit(t *testing.T) {
	_, l := fullTable(t)
	o := New()
	for _, s := range l[:api.MaxItems-1] {
		o.Sign(s.Who, s.Mark, true)
	}
	wantTable(t, o, l[:api.MaxItems-1])
	one := signed("z", all32("z"), true)
	for range 2 { // there already in a table that is full by now
		if e := o.Sign("z", all32("z"), true); e != api.OK {
			t.Errorf("the last one: %d", e)
		}
		wantTable(t, o, append(slices.Clone(l[:api.MaxItems-1]), one))
	}
	if e := o.Sign("y", all32("z"), true); e != api.ErrLong {
		t.Errorf("one more: %d", e)
	}
	f := o.Fork()
	if e := f.Sign("y", all32("z"), true); e != api.ErrLong {
		t.Errorf("one more in a fork: %d", e)
	}
	wantTable(t, f, append(slices.Clone(l[:api.MaxItems-1]), one))
}

func TestSignTwice(t *testing.T) {
	m := all32("M")
	for _, c := range []struct {
		steps  []bool
		honest bool
	}{
		{[]bool{true}, true},
		{[]bool{false}, false},
		{[]bool{true, true}, true},
		{[]bool{true, false}, false}, // the chapter's example
		{[]bool{false, true}, false},
		{[]bool{false, false}, false},
		{[]bool{true, true, false}, false},
		{[]bool{true, false, true}, false},
		{[]bool{false, true, true}, false},
		{[]bool{true, true, true}, true},
	} {
		o := New()
		for _, honest := range c.steps {
			if e := o.Sign("a", m, honest); e != api.OK {
				t.Error(e)
			}
		}
		wantTable(t, o, []api.Signed{signed("a", m, c.honest)})
		wantHonest(t, o, "a", c.honest)
		wantHonest(t, o, "b", true)
	}
}

func TestSigned(t *testing.T) {
	m, n := all32("m"), all32("n")
	o := tableOf(t, step{"a", m, true}, step{"b", n, true}, step{"ab", n, false})
	for _, s := range []step{{who: "a", mark: n}, {who: "b", mark: m}, {who: "ab", mark: m}, {who: "A", mark: m}, {who: "a\x00", mark: m}, {who: "aa", mark: m},
		{who: "", mark: m}, {who: "a", mark: ""}, {who: "a", mark: m[:31]}, {who: "a", mark: m + "m"}, {who: "a", mark: m[:31] + "n"}, {who: "a", mark: "n" + m[:31]}, {who: m, mark: "a"}, {who: "am", mark: m[:31]}} {
		wantNone(t, o, s.who, s.mark)
	}
	for range 2 { // asking changes nothing
		wantTable(t, o, []api.Signed{signed("a", m, true), signed("b", n, true), signed("ab", n, false)})
	}
}

func TestHonest(t *testing.T) {
	m, n, p := all32("m"), all32("n"), all32("p")
	o := tableOf(t,
		step{"one", m, false}, step{"one", n, true}, step{"one", p, true},
		step{"two", m, true}, step{"two", n, false}, step{"two", p, true},
		step{"three", m, true}, step{"three", n, true}, step{"three", p, false},
		step{"all", m, true}, step{"all", n, true}, step{"all", p, true},
		step{"none", m, false}, step{"none", n, false})
	for _, who := range []string{"one", "two", "three", "none"} {
		wantHonest(t, o, who, false)
	}
	for _, who := range append(wrongSigners(), "all", "nobody", "on", "ones", "One", "t") {
		wantHonest(t, o, who, true)
	}
	for range 20 { // the same, however the map is gone through
		wantHonest(t, o, "two", false)
	}
}

func TestAllStandsInOrder(t *testing.T) {
	names := []string{"\x00", "\x00\x00", "A", "a", "a\x00", "aa", "ab", "abcdef", "b", "\x7f", "\x80", "\x80\x7f", "\x80\x80", "\xc3\xa9", "\xff", "\xff\xff\xff\xff\xff\xff"}
	marks := []string{all32("\x00"), all32("\x00")[:31] + "\x01", all32("\x00")[:31] + "\xff", "\x01" + all32("\x00")[:31], all32("a"), all32("a")[:31] + "b", "b" + all32("a")[:31], all32("\x7f"), "\x80" + all32("\x00")[:31], all32("\xff")}
	var want []api.Signed
	for i, who := range names {
		for j, mark := range marks {
			want = append(want, signed(who, mark, (i+j)%3 > 0))
		}
	}
	for _, stride := range []int{1, 7, 77, 159} { // each has no factor in common with 160: all come, in another order
		o := New()
		for i := range want {
			s := want[i*stride%len(want)]
			if e := o.Sign(s.Who, s.Mark, s.Honest); e != api.OK {
				t.Fatal(e)
			}
		}
		if all := o.All(); !slices.Equal(all, want) {
			t.Errorf("by strides of %d: %#v", stride, all)
		}
		wantTable(t, o, want)
	}
}

// TestEveryOrder holds tables of every run of at most 4 steps out of 8 to their words, and to what the same steps tell the other way round (6.3).
func TestEveryOrder(t *testing.T) {
	var kinds []step
	for i := range 8 {
		kinds = append(kinds, step{[]string{"a", "ab"}[i%2], all32([]string{"x", "\xff"}[i/2%2]), i/4 == 0})
	}
	for size, runs := 0, 1; size <= 4; size, runs = size+1, runs*len(kinds) {
		for run := range runs {
			var steps []step
			for rest := run; len(steps) < size; rest /= len(kinds) {
				steps = append(steps, kinds[rest%len(kinds)])
			}
			var want []api.Signed
			for _, s := range steps {
				want, _ = plainSign(want, s)
			}
			o := tableOf(t, steps...)
			wantTable(t, o, want)
			slices.Reverse(steps)
			back := tableOf(t, steps...)
			wantTable(t, back, want)
			for _, s := range kinds {
				there := slices.ContainsFunc(steps, func(one step) bool { return one.who == s.who && one.mark == s.mark })
				if o.Signed(s.who, s.mark) != there || back.Signed(s.who, s.mark) != there {
					t.Fatalf("%#v: Signed(%q, %q) is not %v", steps, s.who, s.mark, there)
				}
				if o.Honest(s.who) != plainHonest(want, s.who) {
					t.Fatalf("%#v: Honest(%q)", steps, s.who)
				}
			}
		}
	}
}

func TestForksGoTheirOwnWay(t *testing.T) {
	m, n := all32("m"), all32("n")
	both := []api.Signed{signed("a", m, true), signed("b", m, false)}
	o := tableOf(t, step{"a", m, true}, step{"b", m, false})
	f := o.Fork()
	if f == nil || f == o {
		t.Fatal("no table of its own")
	}
	wantTable(t, f, both)
	if e := f.Sign("a", n, true); e != api.OK { // a new one, in the fork alone
		t.Error(e)
	}
	wantTable(t, o, both)
	wantTable(t, f, append(slices.Clone(both), signed("a", n, true)))
	wantNone(t, o, "a", n)
	if e := o.Sign("c", n, false); e != api.OK { // a new one, in the table alone
		t.Error(e)
	}
	wantNone(t, f, "c", n)
	wantHonest(t, f, "c", true)
	wantHonest(t, o, "c", false)
	if e := f.Sign("a", m, false); e != api.OK { // one that both have, not honestly, in the fork alone
		t.Error(e)
	}
	wantHonest(t, o, "a", true)
	wantHonest(t, f, "a", false)
	wantTable(t, o, append(slices.Clone(both), signed("c", n, false)))
	wantTable(t, f, []api.Signed{signed("a", m, false), signed("b", m, false), signed("a", n, true)})
}

func TestATableGoesOnBehindAFork(t *testing.T) {
	m := all32("m")
	o := tableOf(t, step{"a", m, true})
	f := o.Fork()
	if e := o.Sign("a", m, false); e != api.OK {
		t.Error(e)
	}
	wantTable(t, o, []api.Signed{signed("a", m, false)})
	wantTable(t, f, []api.Signed{signed("a", m, true)})
	full, l := fullTable(t)
	for range 2 { // both are full, each on its own
		if e := full.Sign("c", m, true); e != api.ErrLong {
			t.Error(e)
		}
		full = full.Fork()
		wantTable(t, full, l)
	}
}

func TestForksOfForks(t *testing.T) {
	line, want := []*Table{New()}, [][]api.Signed{nil}
	for i := range 6 {
		line = append(line, line[i].Fork())
		want = append(want, slices.Clone(want[i]))
		for j, o := range line { // each goes on in its own way, those ahead too
			s := step{"n" + strconv.Itoa(j%2), plainMark(i*10 + j%3), (i+j)%4 > 0}
			if e := o.Sign(s.who, s.mark, s.honest); e != api.OK {
				t.Fatal(e)
			}
			want[j], _ = plainSign(want[j], s)
		}
		for j, o := range line {
			wantTable(t, o, want[j])
		}
	}
}

func TestListsHandedOutAreNew(t *testing.T) {
	l := []api.Signed{signed("a", all32("m"), true), signed("a", all32("n"), false), signed("b", all32("m"), true)}
	o := tableOf(t, step{"b", all32("m"), true}, step{"a", all32("n"), false}, step{"a", all32("m"), true})
	f := o.Fork()
	one, two := o.All(), o.All()
	junk := signed("z", all32("z"), false)
	one = one[:cap(one)]
	for i := range one {
		one[i] = junk
	}
	if !slices.Equal(two, l) {
		t.Errorf("another list is %#v", two)
	}
	wantTable(t, o, l)
	wantTable(t, f, l)
	wantNone(t, o, "z", all32("z"))
	more := signed("c", all32("m"), true)
	if e := o.Sign("c", all32("m"), true); e != api.OK {
		t.Fatal(e)
	}
	wantTable(t, o, append(slices.Clone(l), more))
	if !slices.Equal(two, l) {
		t.Errorf("a list behind a later step is %#v", two)
	}
	for i := range one {
		if one[i] != junk {
			t.Errorf("a changed list behind a later step is %#v", one)
		}
	}
}

// TestTextsAreNotShared looks at where the texts lie: nothing else could tell.
func TestTextsAreNotShared(t *testing.T) {
	lie := []byte("a" + all32("m") + "a" + all32("m"))
	text := func(from, size int) string { return unsafe.String(&lie[from], size) }
	o := tableOf(t, step{text(0, 1), text(1, 32), true}, step{text(33, 1), text(34, 32), false}) // one signature, twice, from two places
	f := o.Fork()
	for i := range lie {
		lie[i] = '!'
	}
	for _, table := range []*Table{o, f} {
		wantTable(t, table, []api.Signed{signed("a", all32("m"), false)})
	}
	var places []*byte
	for _, l := range [][]api.Signed{o.All(), o.All(), f.All()} {
		places = append(places, unsafe.StringData(l[0].Who), unsafe.StringData(l[0].Mark))
	}
	for s := range o.signed {
		places = append(places, unsafe.StringData(s.who), unsafe.StringData(s.mark))
	}
	for i, p := range places {
		if slices.Contains(places[:i], p) {
			t.Errorf("text %d lies where another one does", i)
		}
	}
}

func TestTablesStandAlone(t *testing.T) {
	m := all32("m")
	o, p := tableOf(t, step{"a", m, false}), New()
	wantTable(t, p, nil)
	wantHonest(t, p, "a", true)
	p.Sign("b", m, true)
	wantTable(t, o, []api.Signed{signed("a", m, false)})
	wantTable(t, p, []api.Signed{signed("b", m, true)})
}

// FuzzTable holds tables and their forks to their words behind any calls: each 4 bytes of steps are one.
func FuzzTable(f *testing.F) {
	f.Add("")
	f.Add("\x00\x01am\x08\x01am\x04\x00..\x01\x01bm\x00\x02an")
	f.Add("\x00\x00am\x00\x07am\x10\x01am\x18\x01am\x04\x00..\x09\x06\xff\xff\x05\x01..")
	f.Fuzz(func(t *testing.T, steps string) {
		tables, want := []*Table{New()}, [][]api.Signed{nil}
		for n := 0; len(steps) >= 4 && n < 100; n, steps = n+1, steps[4:] {
			at := int(steps[0]%4) % len(tables)
			if steps[0]&4 > 0 {
				tables, want = append(tables, tables[at].Fork()), append(want, want[at])
				continue
			}
			s := step{strings.Repeat(steps[2:3], int(steps[1]%9)), strings.Repeat(steps[3:4], 32-int(steps[0]>>4&1)+int(steps[0]>>5&1)), steps[0]&8 == 0}
			var e api.Code
			want[at], e = plainSign(want[at], s)
			if got := tables[at].Sign(s.who, s.mark, s.honest); got != e {
				t.Errorf("Sign(%#v) = %d, want %d", s, got, e)
			}
			if e != api.OK {
				wantNone(t, tables[at], s.who, s.mark)
			}
		}
		for i, o := range tables {
			wantTable(t, o, want[i])
		}
	})
}
