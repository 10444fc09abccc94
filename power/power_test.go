package power

import (
	"crypto/sha256"
	"encoding/hex"
	"math"
	"slices"
	"strings"
	"testing"
	"unsafe"

	"pharos/api"
)

// member is a validator of a name and a power.
func member(name string, power int) api.Member {
	return api.Member{Name: name, Power: power}
}

// setOf is the members of these powers, named a, b and so on.
func setOf(powers ...int) []api.Member {
	var l []api.Member
	for i, p := range powers {
		l = append(l, member(string(rune('a'+i)), p))
	}
	return l
}

// mayBe is sets that may be, at the edges of what may.
func mayBe() [][]api.Member {
	return [][]api.Member{
		setOf(1),
		setOf(2),
		setOf(3),
		setOf(api.MaxPower),
		setOf(5, 1),
		setOf(1, 5),
		setOf(1, 1, 1, 1),
		setOf(255, 256, 257, 999, 1000),
		setOf(1, 2, 3, 4, 5, 6, 7),
		setOf(1000, 1000, 1000, 1000, 1000, 1000, 1000),
		{member("\x00", 1)},
		{member("abcdef", 7)},
		{member("\xff\xff\xff\xff\xff\xff", 1000)},
		{member("\u00e9", 1), member("\u4e16\u754c", 2)},
		{member("a", 1), member("aa", 1), member("aaa", 1), member("aaaaaa", 1)},
		{member("abcdee", 1), member("abcdef", 2)},
		{member("\x00", 1), member("\x00\x00", 1), member("\x01", 1)},
		{member("B", 3), member("a", 2)},
		{member("a", 1), member("\x7f", 1), member("\x80", 1), member("\xff", 1)},
		{member("a\x7f", 1), member("a\x80", 1), member("b", 1)},
	}
}

// mayNotBe is lists that are no sets that may be.
func mayNotBe() [][]api.Member {
	l := [][]api.Member{
		nil,
		{},
		setOf(1, 1, 1, 1, 1, 1, 1, 1),
		setOf(slices.Repeat([]int{1}, 26)...),
		{member("", 1)},
		{member("", 1), member("a", 1)},
		{member("a", 1), member("", 1)},
		{member("abcdefg", 1)},
		{member("a", 1), member("abcdefg", 1)},
		{member("\u00e9\u00e9\u00e9\u00e9", 1)}, // 4 letters, 8 bytes
		{member(strings.Repeat("x", api.MaxBytes), 1)},
		{member("a", 1), member("a", 1)},
		{member("a", 1), member("a", 2)},
		{member("a", 1), member("b", 1), member("a", 1)},
		{member("a", 1), member("b", 1), member("b", 1)},
		{member("b", 1), member("a", 1)},
		{member("a", 1), member("c", 1), member("b", 1)},
		{member("ab", 1), member("a", 1)},
		{member("abcdef", 1), member("abcdee", 1)},
		{member("a", 1), member("B", 1)},
		{member("\x80", 1), member("\x7f", 1)}, // the other way round if bytes had signs
		{member("\xff", 1), member("a", 1)},
	}
	for _, p := range []int{0, -1, -1000, math.MinInt, math.MinInt + 1, 1001, 1002, 1<<32 + 1, math.MaxInt} {
		l = append(l, setOf(p), setOf(p, 1), setOf(1, p), setOf(1, 1, 1, 1, 1, 1, p), setOf(p, p))
	}
	return l
}

// plainMayBe is what a set that may be is, as its words say it.
func plainMayBe(l []api.Member) bool {
	if len(l) < 1 || len(l) > 7 {
		return false
	}
	for i, m := range l {
		if len(m.Name) < 1 || len(m.Name) > 6 || m.Power < 1 || m.Power > 1000 {
			return false
		}
		if i > 0 && strings.Compare(l[i-1].Name, m.Name) != -1 {
			return false
		}
	}
	return true
}

// plainTotal is the power of all.
func plainTotal(l []api.Member) int {
	sum := 0
	for _, m := range l {
		sum += m.Power
	}
	return sum
}

// plainQuorum is the quorum, found from below.
func plainQuorum(total int) int {
	p := 0
	for 3*p <= 2*total {
		p++
	}
	return p
}

// plainMost is what may be faulty, found from above.
func plainMost(total int) int {
	p := total
	for 3*p >= total {
		p--
	}
	return p
}

// plainOf is the power of those whose names are among names.
func plainOf(l []api.Member, names []string) int {
	sum := 0
	for _, m := range l {
		if slices.Contains(names, m.Name) {
			sum += m.Power
		}
	}
	return sum
}

// plainBoth is the texts that are in both lists, rising, none twice.
func plainBoth(a, b []string) []string {
	var l []string
	for _, s := range a {
		if slices.Contains(b, s) && !slices.Contains(l, s) {
			l = append(l, s)
		}
	}
	for i := range l {
		for j := range i {
			if l[i] < l[j] {
				l[i], l[j] = l[j], l[i]
			}
		}
	}
	return l
}

// plainNum is a number up to 65535 as bytes.
func plainNum(n int) string {
	switch {
	case n == 0:
		return "\x00"
	case n < 256:
		return string([]byte{1, byte(n)})
	}
	return string([]byte{2, byte(n / 256), byte(n % 256)})
}

// plainBytes is l as bytes, whether it may be or not; its powers are from 0 to 65535.
func plainBytes(l []api.Member) string {
	s := plainNum(len(l))
	for _, m := range l {
		s += plainNum(len(m.Name)) + m.Name + plainNum(m.Power)
	}
	return s
}

// plainRead is the number up to 65535 with which s begins, and what is behind it.
func plainRead(s string) (n int, rest string, ok bool) {
	for size := range 3 {
		if len(s) <= size {
			break
		}
		for _, c := range []byte(s[1 : 1+size]) {
			n = n*256 + int(c)
		}
		if plainNum(n) == s[:1+size] {
			return n, s[1+size:], true
		}
		n = 0
	}
	return 0, "", false
}

// plainDecode is the set that may be of which s is just the bytes.
func plainDecode(s string) ([]api.Member, bool) {
	count, s, ok := plainRead(s)
	var l []api.Member
	for range count {
		size, rest, good := plainRead(s)
		if !ok || !good || size > len(rest) {
			return nil, false
		}
		p, behind, good := plainRead(rest[size:])
		if !good {
			return nil, false
		}
		l, s = append(l, member(rest[:size], p)), behind
	}
	return l, ok && s == "" && plainMayBe(l)
}

// plainDigest is the sum of a set's bytes, by Go's own library.
func plainDigest(l []api.Member) string {
	sum := sha256.Sum256([]byte("\x04" + plainBytes(l)))
	return string(sum[:])
}

// wantSet holds what is told of a set that may be to its words.
func wantSet(t *testing.T, l []api.Member) {
	t.Helper()
	total := plainTotal(l)
	if e := Check(l); e != api.OK {
		t.Fatalf("Check(%v) = %d", l, e)
	}
	if a, b, c := Total(l), Quorum(l), Most(l); a != total || b != plainQuorum(total) || c != plainMost(total) {
		t.Errorf("%v: total %d, quorum %d, faulty %d, want %d, %d, %d", l, a, b, c, total, plainQuorum(total), plainMost(total))
	}
	s, e := Encode(l)
	if s != plainBytes(l) || e != api.OK {
		t.Errorf("Encode(%v) = %q, %d, want %q", l, s, e, plainBytes(l))
	}
	if m, e := Decode(s); !slices.Equal(m, l) || e != api.OK {
		t.Errorf("Decode(%q) = %v, %d, want %v", s, m, e, l)
	}
	if d := Digest(l); d != plainDigest(l) {
		t.Errorf("Digest(%v) = %q, want %q", l, d, plainDigest(l))
	}
}

// wantNoSet holds what is told of a list that is no set that may be to its words.
func wantNoSet(t *testing.T, l []api.Member) {
	t.Helper()
	if e := Check(l); e != api.ErrSet {
		t.Errorf("Check(%v) = %d", l, e)
	}
	var names []string
	for _, m := range l {
		names = append(names, m.Name)
	}
	if a, b, c, d := Total(l), Quorum(l), Most(l), Of(l, names); a != 0 || b != 0 || c != 0 || d != 0 {
		t.Errorf("%v: total %d, quorum %d, faulty %d, of all %d", l, a, b, c, d)
	}
	if s, e := Encode(l); s != "" || e != api.ErrSet {
		t.Errorf("Encode(%v) = %q, %d", l, s, e)
	}
	if d := Digest(l); d != "" {
		t.Errorf("Digest(%v) = %q", l, d)
	}
}

// wantForm holds Decode to refusing the bytes.
func wantForm(t *testing.T, s string) {
	t.Helper()
	if l, e := Decode(s); len(l) != 0 || e != api.ErrForm {
		t.Errorf("Decode(%q) = %v, %d", s, l, e)
	}
}

// wantDecoded holds Decode to its words.
func wantDecoded(t *testing.T, s string) {
	t.Helper()
	want, ok := plainDecode(s)
	if !ok {
		wantForm(t, s)
		return
	}
	if l, e := Decode(s); !slices.Equal(l, want) || e != api.OK {
		t.Errorf("Decode(%q) = %v, %d, want %v", s, l, e, want)
	}
}

// some is those of the texts whose bits are set.
func some(l []string, bits int) []string {
	var out []string
	for i, s := range l {
		if bits>>i&1 == 1 {
			out = append(out, s)
		}
	}
	return out
}

func TestExamples(t *testing.T) {
	for _, c := range []struct {
		l                   []api.Member
		total, quorum, most int
	}{
		{setOf(1, 1, 1, 1), 4, 3, 1},
		{setOf(5, 1), 6, 5, 1},
		{setOf(1), 1, 1, 0},
		{setOf(2), 2, 2, 0},
		{setOf(3), 3, 3, 0},
		{setOf(1, 1, 1), 3, 3, 0},
		{setOf(4), 4, 3, 1},
		{setOf(2, 2, 1), 5, 4, 1},
		{setOf(3, 4), 7, 5, 2},
		{setOf(1000, 1000, 1000, 1000, 1000, 1000, 1000), 7000, 4667, 2333},
		{setOf(1000, 1000, 1000, 1000, 1000, 1000, 999), 6999, 4667, 2332},
		{setOf(1000, 1000, 1000, 1000, 1000, 1000, 998), 6998, 4666, 2332},
	} {
		if a, b, d := Total(c.l), Quorum(c.l), Most(c.l); a != c.total || b != c.quorum || d != c.most {
			t.Errorf("%v: total %d, quorum %d, faulty %d, want %d, %d, %d", c.l, a, b, d, c.total, c.quorum, c.most)
		}
	}
}

func TestSetsThatMayBe(t *testing.T) {
	for _, l := range mayBe() {
		wantSet(t, l)
	}
}

func TestSetsThatMayNotBe(t *testing.T) {
	for _, l := range mayNotBe() {
		wantNoSet(t, l)
	}
}

// TestEveryShortList holds every list of at most 3 members of a few names and powers to the words.
func TestEveryShortList(t *testing.T) {
	var kinds []api.Member
	for _, name := range []string{"", "\x00", "a", "ab", "b", "\xff", "abcdef", "abcdefg"} {
		for _, p := range []int{-1, 0, 1, 1000, 1001} {
			kinds = append(kinds, member(name, p))
		}
	}
	for size, lists := 0, 1; size <= 3; size, lists = size+1, lists*len(kinds) {
		for list := range lists {
			var l []api.Member
			for rest := list; len(l) < size; rest /= len(kinds) {
				l = append(l, kinds[rest%len(kinds)])
			}
			if plainMayBe(l) {
				wantSet(t, l)
			} else {
				wantNoSet(t, l)
			}
		}
	}
}

func TestEveryTotal(t *testing.T) {
	for total := 1; total <= api.MaxMembers*api.MaxPower; total++ {
		var powers []int
		for rest := total; rest > 0; rest -= powers[len(powers)-1] {
			powers = append(powers, min(rest, api.MaxPower))
		}
		l := setOf(powers...)
		if a, b, c := Total(l), Quorum(l), Most(l); a != total || b != plainQuorum(total) || c != plainMost(total) {
			t.Fatalf("%v: total %d, quorum %d, faulty %d, want %d, %d, %d", l, a, b, c, total, plainQuorum(total), plainMost(total))
		}
	}
}

func TestOf(t *testing.T) {
	l := []api.Member{member("a", 1), member("ab", 20), member("b", 300), member("\xff", 1000)}
	for _, c := range []struct {
		names []string
		want  int
	}{
		{nil, 0},
		{[]string{}, 0},
		{[]string{""}, 0},
		{[]string{"c"}, 0},
		{[]string{"A", "B", "abc", "a\x00", "\xfe", "toolong"}, 0},
		{[]string{"a"}, 1},
		{[]string{"ab"}, 20},
		{[]string{"\xff"}, 1000},
		{[]string{"a", "a"}, 1},
		{[]string{"b", "b", "b"}, 300},
		{[]string{"b", "a"}, 301},
		{[]string{"b", "a", "b", "a"}, 301},
		{[]string{"x", "ab", "", "ab", "y", "a"}, 21},
		{[]string{"\xff", "b", "ab", "a"}, 1321},
		{[]string{"a", "ab", "b", "\xff"}, 1321},
		{slices.Repeat([]string{"b", "x"}, api.MaxItems), 300},
	} {
		if p := Of(l, c.names); p != c.want {
			t.Errorf("Of(%q) = %d, want %d", c.names, p, c.want)
		}
	}
}

// TestOfEveryNames asks each set that may be for all choices of its names and two others, rising and falling, once and twice.
func TestOfEveryNames(t *testing.T) {
	for _, l := range mayBe() {
		names := []string{"", "none"}
		for _, m := range l {
			names = append(names, m.Name)
		}
		for bits := range 1 << len(names) {
			asked := some(names, bits)
			want := plainOf(l, asked)
			if p := Of(l, asked); p != want {
				t.Errorf("Of(%v, %q) = %d, want %d", l, asked, p, want)
			}
			slices.Reverse(asked)
			if p := Of(l, asked); p != want {
				t.Errorf("Of(%v, %q) = %d, want %d", l, asked, p, want)
			}
			asked = append(asked, asked...)
			if p := Of(l, asked); p != want {
				t.Errorf("Of(%v, %q) = %d, want %d", l, asked, p, want)
			}
		}
	}
}

func TestBoth(t *testing.T) {
	for _, c := range []struct{ a, b, want []string }{
		{nil, nil, nil},
		{nil, []string{"a"}, nil},
		{[]string{"a"}, nil, nil},
		{[]string{}, []string{}, nil},
		{[]string{"a"}, []string{"b"}, nil},
		{[]string{"a", "c"}, []string{"b", "d"}, nil},
		{[]string{"a"}, []string{"ab", "A", "", "a\x00"}, nil},
		{[]string{"a"}, []string{"a"}, []string{"a"}},
		{[]string{"a", "b"}, []string{"a", "b"}, []string{"a", "b"}},
		{[]string{"b", "a"}, []string{"b", "a"}, []string{"a", "b"}},
		{[]string{"c", "a", "b", "a"}, []string{"a", "c", "z", "c"}, []string{"a", "c"}},
		{[]string{"a", "a"}, []string{"a"}, []string{"a"}},
		{[]string{"a"}, []string{"a", "a", "a"}, []string{"a"}},
		{[]string{"a", "a", "a"}, []string{"a", "a"}, []string{"a"}},
		{[]string{""}, []string{""}, []string{""}},
		{[]string{"", "a", ""}, []string{"", ""}, []string{""}},
		{[]string{"b", "ab", "a", ""}, []string{"a", "b", "", "ab"}, []string{"", "a", "ab", "b"}},
		{[]string{"\xff", "\x80", "\x7f", "a"}, []string{"\x80", "a", "\xff", "\x7f"}, []string{"a", "\x7f", "\x80", "\xff"}},
		{[]string{"e", "d", "c", "b", "a"}, []string{"a", "c", "e"}, []string{"a", "c", "e"}},
		{[]string{"longer than a name may be", "x"}, []string{"longer than a name may be"}, []string{"longer than a name may be"}},
	} {
		if l := Both(c.a, c.b); !slices.Equal(l, c.want) {
			t.Errorf("Both(%q, %q) = %q, want %q", c.a, c.b, l, c.want)
		}
		if l := Both(c.b, c.a); !slices.Equal(l, c.want) {
			t.Errorf("Both(%q, %q) = %q, want %q", c.b, c.a, l, c.want)
		}
	}
}

// TestBothOfEveryShortLists holds Both to its words of every two lists of at most 4 texts out of 3.
func TestBothOfEveryShortLists(t *testing.T) {
	texts := []string{"", "b", "a"}
	lists := [][]string{nil}
	for begin, size := 0, 0; size < 4; size++ {
		end := len(lists)
		for _, l := range lists[begin:end] {
			for _, s := range texts {
				lists = append(lists, append(slices.Clone(l), s))
			}
		}
		begin = end
	}
	for _, a := range lists {
		for _, b := range lists {
			if l := Both(a, b); !slices.Equal(l, plainBoth(a, b)) {
				t.Fatalf("Both(%q, %q) = %q, want %q", a, b, l, plainBoth(a, b))
			}
		}
	}
}

func TestBytesWrittenDown(t *testing.T) {
	for _, c := range []struct {
		l      []api.Member
		bytes  string
		digest string
	}{
		{setOf(1, 1, 1, 1), "\x01\x04" + "\x01\x01a\x01\x01" + "\x01\x01b\x01\x01" + "\x01\x01c\x01\x01" + "\x01\x01d\x01\x01", "a849bfe484c9d749187171978e0b2315ca82d4afaa9dbc77f527a4398f133f72"},
		{setOf(5, 1), "\x01\x02" + "\x01\x01a\x01\x05" + "\x01\x01b\x01\x01", "9cfe7a67de07209a4f957fbd970a852eb6bce20faf5042b18cab77bbf6d93c33"},
		{[]api.Member{member("\xff\xff\xff\xff\xff\xff", 1000)}, "\x01\x01" + "\x01\x06\xff\xff\xff\xff\xff\xff\x02\x03\xe8", "17a59c1b4cded45da3f56e3255803255c08ab814e6a57a84406960877c312a1f"},
	} {
		if s, e := Encode(c.l); s != c.bytes || e != api.OK {
			t.Errorf("Encode(%v) = %q, %d, want %q", c.l, s, e, c.bytes)
		}
		if l, e := Decode(c.bytes); !slices.Equal(l, c.l) || e != api.OK {
			t.Errorf("Decode(%q) = %v, %d, want %v", c.bytes, l, e, c.l)
		}
		if d := hex.EncodeToString([]byte(Digest(c.l))); d != c.digest {
			t.Errorf("Digest(%v) = %s, want %s", c.l, d, c.digest)
		}
	}
}

func TestDecodeOfBytesCutOrGrown(t *testing.T) {
	for _, l := range mayBe() {
		s := plainBytes(l)
		for n := range len(s) {
			wantForm(t, s[:n])
			wantDecoded(t, s[n+1:]) // some end in the bytes of a smaller set
		}
		for b := range 256 {
			wantForm(t, s+string([]byte{byte(b)}))
		}
		wantForm(t, s+s)
	}
}

func TestDecodeOfNumbersInMoreBytes(t *testing.T) {
	for _, s := range []string{
		"\x02\x00\x01" + "\x01\x01a" + "\x01\x05",
		"\x01\x01" + "\x02\x00\x01a" + "\x01\x05",
		"\x01\x01" + "\x01\x01a" + "\x02\x00\x05",
		"\x01\x01" + "\x01\x01a" + "\x03\x00\x03\xe8",
		"\x01\x01" + "\x01\x01a" + "\x08\x00\x00\x00\x00\x00\x00\x00\x05",
		"\x08\x00\x00\x00\x00\x00\x00\x00\x01" + "\x01\x01a" + "\x01\x05",
		"\x01\x00",
		"\x01\x01" + "\x01\x00" + "\x01\x05",
		"\x01\x01" + "\x01\x01a" + "\x01\x00",
	} {
		wantForm(t, s)
	}
}

func TestDecodeOfSetsThatMayNotBe(t *testing.T) {
	for _, l := range mayNotBe() {
		if !slices.ContainsFunc(l, func(m api.Member) bool { return m.Power < 0 || m.Power > 65535 || len(m.Name) > 65535 }) {
			wantForm(t, plainBytes(l))
		}
	}
	one := "\x01\x01a\x01\x05"
	for _, s := range []string{
		"",
		"\x00",
		"\x00" + one,
		"\x01\x01",
		"\x01\x02" + one,                   // it says more than come
		"\x01\x01" + one + "\x01\x01b\x01", // it says fewer than come
		"\x01\x07" + one,
		"\x01\x08" + one,
		"\x09" + one,
		"\xff" + one,
		"\x08\x7f\xff\xff\xff\xff\xff\xff\xff" + one, // no loop over so many
		"\x08\x7f\xff\xff\xff\xff\xff\xff\xff",
		"\x08\xff\xff\xff\xff\xff\xff\xff\xff" + one,
		"\x01\x01" + "\x08\x7f\xff\xff\xff\xff\xff\xff\xffa\x01\x05",
		"\x01\x01" + "\x01\x01a" + "\x08\x7f\xff\xff\xff\xff\xff\xff\xff",
		"\x01\x01" + "\x01\x01a" + "\x08\xff\xff\xff\xff\xff\xff\xff\xff",
		"\x01\x01" + "\x01\x01a" + "\x05\x01\x00\x00\x00\x01", // 1, if only 32 bits are looked at
		"\x01\x01" + "\x01\x01a" + "\x02\x03\xe9",
		"\x01\x01" + "\x01\x07abcdefg" + "\x01\x05",
	} {
		wantForm(t, s)
	}
}

// TestDecodeOfEveryShortBytes holds Decode to its words over all bytes of up to 9 of four kinds.
func TestDecodeOfEveryShortBytes(t *testing.T) {
	kinds := "\x00\x01\x02a"
	b := make([]byte, 9)
	found := 0
	for size, texts := 0, 1; size <= len(b); size, texts = size+1, texts*len(kinds) {
		for text := range texts {
			for i := range size {
				b[i] = kinds[text>>(2*i)&3]
			}
			s := string(b[:size])
			wantDecoded(t, s)
			if _, ok := plainDecode(s); ok {
				found++
			}
		}
	}
	// Names of 1 or 2 bytes, each one of 4; powers of 1 byte that is not 0, and of 2 bytes with a 1 or a 2 ahead: more is above 1000.
	if want := (4 + 4*4) * (3 + 2*4); found != want {
		t.Errorf("%d sets among them, want %d", found, want)
	}
}

// TestDecodeOfOneByteChanged holds Decode to its words where one byte of a set's is another one.
func TestDecodeOfOneByteChanged(t *testing.T) {
	for _, l := range mayBe() {
		b := []byte(plainBytes(l))
		for i, was := range b {
			for c := range 256 {
				b[i] = byte(c)
				wantDecoded(t, string(b))
			}
			b[i] = was
		}
	}
}

func TestDigestsOfUnlikeSetsDiffer(t *testing.T) {
	seen := map[string]int{}
	for i, l := range mayBe() {
		d := Digest(l)
		if j, ok := seen[d]; ok || len(d) != api.Digest {
			t.Errorf("set %d: %q, and set %d", i, d, j)
		}
		seen[d] = i
	}
}

// TestQuorumsMeet holds every two quorums of sets of each total's rest, by plain sums, to 5.3.
func TestQuorumsMeet(t *testing.T) {
	for _, l := range mayBe() {
		var names []string
		for _, m := range l {
			names = append(names, m.Name)
		}
		quorum, most, every := Quorum(l), Most(l), 1<<len(names)
		for one := range every {
			a := some(names, one)
			if faulty := plainOf(l, a); faulty <= most {
				if rest := Of(l, some(names, every-1-one)); rest < quorum {
					t.Errorf("%v: %q are faulty, the others have %d, a quorum is %d", l, a, rest, quorum)
				}
			}
			if Of(l, a) < quorum {
				continue
			}
			for two := range every {
				b := some(names, two)
				if Of(l, b) >= quorum && Of(l, Both(a, b)) <= most {
					t.Errorf("%v: %q and %q are quorums, %d may be faulty", l, a, b, most)
				}
			}
		}
	}
}

func TestArgumentsStayAsTheyWere(t *testing.T) {
	members := append(setOf(5, 1, 7), member("spare", -1))
	names := []string{"c", "a", "b", "a", "x", "spare", "room"}
	others := []string{"a", "z", "c", "c", "spare", "room"}
	l, a, b := members[:3], names[:5], others[:4]
	for range 2 {
		if p := Of(l, a); p != 13 {
			t.Errorf("Of = %d", p)
		}
		if m := Both(a, b); !slices.Equal(m, []string{"a", "c"}) {
			t.Errorf("Both = %q", m)
		}
		if m := Both(a, a); !slices.Equal(m, []string{"a", "b", "c", "x"}) {
			t.Errorf("Both of one list = %q", m)
		}
		wantSet(t, l)
		wantNoSet(t, members[2:])
	}
	if !slices.Equal(members, append(setOf(5, 1, 7), member("spare", -1))) {
		t.Errorf("members are %v", members)
	}
	if !slices.Equal(names, []string{"c", "a", "b", "a", "x", "spare", "room"}) || !slices.Equal(others, []string{"a", "z", "c", "c", "spare", "room"}) {
		t.Errorf("names are %q, %q", names, others)
	}
}

func TestAnswersAreNewLists(t *testing.T) {
	l := setOf(5, 1, 7)
	s := plainBytes(l)
	one, _ := Decode(s)
	one = one[:cap(one)]
	for i := range one {
		one[i] = member("!", -1)
	}
	if two, e := Decode(s); !slices.Equal(two, l) || e != api.OK {
		t.Errorf("Decode again: %v, %d", two, e)
	}
	a, b := []string{"a", "b", "c"}, []string{"a", "b", "c"}
	both := Both(a, b)
	both = both[:cap(both)]
	for i := range both {
		both[i] = "!"
	}
	if again := Both(a, b); !slices.Equal(again, []string{"a", "b", "c"}) {
		t.Errorf("Both again: %q of %q, %q", again, a, b)
	}
}

// TestTextsAreNotShared changes the bytes on which texts that were handed in lie: nothing else could tell.
func TestTextsAreNotShared(t *testing.T) {
	lie := []byte(plainBytes(setOf(5, 1)) + "one" + "two")
	text := func(begin, end int) string { return unsafe.String(&lie[begin], end-begin) }
	n := len(lie) - 6
	l, e := Decode(text(0, n))
	both := Both([]string{text(n+3, n+6), text(n, n+3)}, []string{"one", "two"})
	turned := Both([]string{"one", "two"}, []string{text(n+3, n+6), text(n, n+3)})
	name := []api.Member{member(text(n, n+3), 1)}
	s, _ := Encode(name)
	sum := Digest(name)
	for i := range lie {
		lie[i] = '!'
	}
	if !slices.Equal(l, setOf(5, 1)) || e != api.OK {
		t.Errorf("Decode: %v, %d", l, e)
	}
	if !slices.Equal(both, []string{"one", "two"}) || !slices.Equal(turned, both) {
		t.Errorf("Both: %q, %q", both, turned)
	}
	if want := []api.Member{member("one", 1)}; s != plainBytes(want) || sum != plainDigest(want) {
		t.Errorf("Encode: %q, Digest: %q", s, sum)
	}
}

// TestTextsOfAnswersStandAlone looks at where the texts of two answers lie, of one text that was handed in twice.
func TestTextsOfAnswersStandAlone(t *testing.T) {
	a, b := []string{"one", "two"}, []string{"two", "one", "one"}
	var places []*byte
	for range 2 {
		for _, s := range Both(a, b) {
			places = append(places, unsafe.StringData(s))
		}
	}
	for _, s := range append(a, b...) {
		if slices.Contains(places, unsafe.StringData(s)) {
			t.Errorf("%q lies where an argument does", s)
		}
	}
	for i, p := range places {
		if slices.Contains(places[:i], p) {
			t.Errorf("text %d lies where another one does", i)
		}
	}
}

// FuzzDecode holds Decode to its words at any bytes.
func FuzzDecode(f *testing.F) {
	f.Add("")
	for _, l := range mayBe() {
		f.Add(plainBytes(l))
	}
	f.Fuzz(func(t *testing.T, s string) {
		wantDecoded(t, s)
		if l, e := Decode(s); e == api.OK {
			wantSet(t, l)
		}
	})
}

// FuzzSet holds all calls of a list to their words: each line of the text is a member, its first two bytes the power; the names asked for are lines, too.
func FuzzSet(f *testing.F) {
	f.Add("\x00\x05a\n\x00\x01b", "b\na\nb")
	f.Add("\x03\xe8\xff\n\x00\x00abcdefg", "")
	f.Fuzz(func(t *testing.T, set, asked string) {
		var l []api.Member
		var all []string
		for _, line := range strings.Split(set, "\n") {
			if len(line) >= 2 {
				l = append(l, member(line[2:], int(int16(uint16(line[0])<<8|uint16(line[1])))))
				all = append(all, line[2:])
			}
		}
		names := strings.Split(asked, "\n")
		if both := Both(all, names); !slices.Equal(both, plainBoth(all, names)) {
			t.Errorf("Both(%q, %q) = %q", all, names, both)
		}
		if !plainMayBe(l) {
			wantNoSet(t, l)
			return
		}
		wantSet(t, l)
		if p := Of(l, names); p != plainOf(l, names) {
			t.Errorf("Of(%v, %q) = %d, want %d", l, names, p, plainOf(l, names))
		}
	})
}
