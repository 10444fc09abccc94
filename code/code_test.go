package code

import (
	"math"
	"slices"
	"strings"
	"testing"

	"pharos/api"
)

// numbers is the edges of each size, and what lies beside them.
func numbers() []int {
	all := []int{0, 1, 2, 127, 128, 300, math.MaxInt - 1, math.MaxInt}
	for bits := 8; bits < 63; bits++ {
		all = append(all, 1<<bits-1, 1<<bits, 1<<bits+1)
	}
	return all
}

// plain is n as bytes, made from the lowest byte on by division alone.
func plain(n int) string {
	s := ""
	for ; n > 0; n /= 256 {
		s = string([]byte{byte(n % 256)}) + s
	}
	return string([]byte{byte(len(s))}) + s
}

// texts is every text of at most most bytes out of alphabet, the shorter ones first.
func texts(alphabet string, most int) []string {
	all := []string{""}
	for from, n := 0, 0; n < most; n++ {
		to := len(all)
		for _, t := range all[from:to] {
			for i := range len(alphabet) {
				all = append(all, t+alphabet[i:i+1])
			}
		}
		from = to
	}
	return all
}

// allBytes is the bytes 0 to 255, as one text.
func allBytes() string {
	b := make([]byte, 256)
	for i := range b {
		b[i] = byte(i)
	}
	return string(b)
}

// mustNum is n, which is not below 0, as bytes.
func mustNum(t *testing.T, n int) string {
	t.Helper()
	s, e := Num(n)
	if e != api.OK {
		t.Fatalf("Num(%d): %d", n, e)
	}
	return s
}

// wantState holds the reader to how many bytes are left, and to its code.
func wantState(t *testing.T, what string, r *Reader, left int, e api.Code) {
	t.Helper()
	if r.Left() != left || r.Code() != e {
		t.Errorf("%q: left %d, code %d, want %d, %d", what, r.Left(), r.Code(), left, e)
	}
}

// wantRefused holds the reader to refusing every call by its code, with zero values, at its place.
func wantRefused(t *testing.T, what string, r *Reader) {
	t.Helper()
	left, e := r.Left(), r.Code()
	if e == api.OK {
		t.Errorf("%q: not refused", what)
	}
	for range 2 {
		if n := r.Num(); n != 0 {
			t.Errorf("%q, Num: %d", what, n)
		}
		for _, n := range []int{-1, 0, 1, math.MaxInt} {
			if s := r.Bytes(n); s != "" {
				t.Errorf("%q, Bytes(%d): %q", what, n, s)
			}
		}
		for _, most := range []int{-1, 0, math.MaxInt} {
			if s := r.Text(most); s != "" {
				t.Errorf("%q, Text(%d): %q", what, most, s)
			}
			if l := r.List(most, math.MaxInt); len(l) != 0 {
				t.Errorf("%q, List(%d, ..): %q", what, most, l)
			}
		}
		if r.Flag() {
			t.Errorf("%q, Flag: true", what)
		}
		if got := r.End(); got != e {
			t.Errorf("%q, End: %d, want %d", what, got, e)
		}
		wantState(t, what+", later", r, left, e)
	}
}

func TestNum(t *testing.T) {
	for _, c := range []struct {
		n int
		s string
	}{
		{0, "\x00"},
		{1, "\x01\x01"},
		{255, "\x01\xff"},
		{256, "\x02\x01\x00"},
		{300, "\x02\x01\x2c"},
		{1<<16 - 1, "\x02\xff\xff"},
		{1 << 16, "\x03\x01\x00\x00"},
		{1 << 40, "\x06\x01\x00\x00\x00\x00\x00"},
		{1<<56 - 1, "\x07\xff\xff\xff\xff\xff\xff\xff"},
		{1 << 56, "\x08\x01\x00\x00\x00\x00\x00\x00\x00"},
		{math.MaxInt, "\x08\x7f\xff\xff\xff\xff\xff\xff\xff"},
	} {
		if s, e := Num(c.n); s != c.s || e != api.OK {
			t.Errorf("Num(%d) = %q, %d, want %q", c.n, s, e, c.s)
		}
	}
	for _, n := range numbers() {
		if s, e := Num(n); s != plain(n) || e != api.OK {
			t.Errorf("Num(%d) = %q, %d, want %q", n, s, e, plain(n))
		}
	}
	for _, n := range []int{-1, -2, -255, -256, -300, math.MinInt + 1, math.MinInt} {
		if s, e := Num(n); s != "" || e != api.ErrRange {
			t.Errorf("Num(%d) = %q, %d", n, s, e)
		}
	}
}

func TestText(t *testing.T) {
	for _, c := range []struct{ s, want string }{
		{"", "\x00"},
		{"a", "\x01\x01a"},
		{"ab", "\x01\x02ab"},
		{"\x00", "\x01\x01\x00"},
		{"\u00e9", "\x01\x02\xc3\xa9"}, // bytes, not runes
		{"\xff\xfe", "\x01\x02\xff\xfe"},
		{strings.Repeat("x", 255), "\x01\xff" + strings.Repeat("x", 255)},
		{strings.Repeat("x", 300), "\x02\x01\x2c" + strings.Repeat("x", 300)},
		{strings.Repeat("x", 1<<16), "\x03\x01\x00\x00" + strings.Repeat("x", 1<<16)},
	} {
		if got := Text(c.s); got != c.want {
			t.Errorf("Text(%q) = %q, want %q", c.s, got, c.want)
		}
	}
}

func TestList(t *testing.T) {
	for _, c := range []struct {
		l    []string
		want string
	}{
		{nil, "\x00"},
		{[]string{}, "\x00"},
		{[]string{""}, "\x01\x01\x00"},
		{[]string{"ab", ""}, "\x01\x02\x01\x02ab\x00"},
		{[]string{"", "ab"}, "\x01\x02\x00\x01\x02ab"},
		{[]string{"a", "a", "b"}, "\x01\x03\x01\x01a\x01\x01a\x01\x01b"},
		{make([]string, 300), "\x02\x01\x2c" + strings.Repeat("\x00", 300)},
		{[]string{strings.Repeat("y", 256)}, "\x01\x01\x02\x01\x00" + strings.Repeat("y", 256)},
	} {
		if got := List(c.l); got != c.want {
			t.Errorf("List(%q) = %q, want %q", c.l, got, c.want)
		}
	}
}

func TestListLeavesWhatItIsGiven(t *testing.T) {
	room := []string{"a", "b", "c"}
	if got := List(room[:1]); got != "\x01\x01\x01\x01a" {
		t.Errorf("List with room behind = %q", got)
	}
	if !slices.Equal(room, []string{"a", "b", "c"}) {
		t.Errorf("List changed it: %q", room)
	}
}

func TestFlag(t *testing.T) {
	if no, yes := Flag(false), Flag(true); no != "\x00" || yes != "\x01" {
		t.Errorf("Flag: %q, %q", no, yes)
	}
}

func TestReadNum(t *testing.T) {
	for _, c := range []struct {
		s    string
		n    int
		left int
		e    api.Code
	}{
		{"\x00", 0, 0, api.OK},
		{"\x00\x00", 0, 1, api.OK},
		{"\x00\xff\xff", 0, 2, api.OK},
		{"\x01\x01", 1, 0, api.OK},
		{"\x01\xff", 255, 0, api.OK},
		{"\x02\x01\x2cxyz", 300, 3, api.OK},
		{"\x02\x01\x00", 256, 0, api.OK},
		{"\x07\xff\xff\xff\xff\xff\xff\xff", 1<<56 - 1, 0, api.OK},
		{"\x07\x80\x00\x00\x00\x00\x00\x00", 1 << 55, 0, api.OK},
		{"\x08\x01\x00\x00\x00\x00\x00\x00\x00", 1 << 56, 0, api.OK},
		{"\x08\x7f\xff\xff\xff\xff\xff\xff\xff", math.MaxInt, 0, api.OK},
		{"\x08\x7f\xff\xff\xff\xff\xff\xff\xff\x00", math.MaxInt, 1, api.OK},
		{"", 0, 0, api.ErrEnd},
		{"\x09", 0, 1, api.ErrForm}, // too few bytes follow, too: ErrForm comes first
		{"\x09\x01\x01\x01\x01\x01\x01\x01\x01\x01", 0, 10, api.ErrForm},
		{"\xff", 0, 1, api.ErrForm},
		{"\x01", 0, 1, api.ErrEnd},
		{"\x02\x01", 0, 2, api.ErrEnd},
		{"\x08\x7f\xff\xff\xff\xff\xff\xff", 0, 8, api.ErrEnd},
		{"\x02\x00", 0, 2, api.ErrEnd}, // a 0 ahead, too: ErrEnd comes first
		{"\x08\xff", 0, 2, api.ErrEnd}, // too great, too
		{"\x01\x00", 0, 2, api.ErrForm},
		{"\x02\x00\x01", 0, 3, api.ErrForm},
		{"\x08\x00\xff\xff\xff\xff\xff\xff\xff", 0, 9, api.ErrForm},
		{"\x08\x80\x00\x00\x00\x00\x00\x00\x00", 0, 9, api.ErrForm},
		{"\x08\xff\xff\xff\xff\xff\xff\xff\xff", 0, 9, api.ErrForm},
	} {
		r := Read(c.s)
		if n := r.Num(); n != c.n {
			t.Errorf("Num of %q = %d, want %d", c.s, n, c.n)
		}
		wantState(t, c.s, r, c.left, c.e)
		if c.e != api.OK {
			wantRefused(t, c.s, r)
		}
	}
}

func TestReadNumByItsFirstByte(t *testing.T) {
	for first := range 256 {
		s := string([]byte{byte(first)})
		for follow := range 10 {
			want := api.OK
			switch {
			case first > 8:
				want = api.ErrForm
			case follow < first:
				want = api.ErrEnd
			}
			r := Read(s + strings.Repeat("\x01", follow))
			if r.Num(); r.Code() != want {
				t.Errorf("Num of the first byte %d, then %d more: %d, want %d", first, follow, r.Code(), want)
			}
		}
	}
}

func TestReadBytes(t *testing.T) {
	for _, c := range []struct {
		s    string
		n    int
		want string
		left int
		e    api.Code
	}{
		{"", 0, "", 0, api.OK},
		{"ab", 0, "", 2, api.OK},
		{"ab", 1, "a", 1, api.OK},
		{"ab", 2, "ab", 0, api.OK},
		{"\xc3\xa9", 1, "\xc3", 1, api.OK},
		{"ab", 3, "", 2, api.ErrEnd},
		{"", 1, "", 0, api.ErrEnd},
		{"ab", math.MaxInt, "", 2, api.ErrEnd},
		{"ab", -1, "", 2, api.ErrRange},
		{"", -1, "", 0, api.ErrRange},
		{"ab", math.MinInt, "", 2, api.ErrRange},
	} {
		r := Read(c.s)
		if s := r.Bytes(c.n); s != c.want {
			t.Errorf("Bytes(%d) of %q = %q, want %q", c.n, c.s, s, c.want)
		}
		wantState(t, c.s, r, c.left, c.e)
		if c.e != api.OK {
			wantRefused(t, c.s, r)
		}
	}
}

func TestReadText(t *testing.T) {
	for _, c := range []struct {
		s    string
		most int
		want string
		left int
		e    api.Code
	}{
		{"\x00", 0, "", 0, api.OK},
		{"\x00ab", 5, "", 2, api.OK},
		{"\x01\x02ab", 2, "ab", 0, api.OK},
		{"\x01\x02abc", 3, "ab", 1, api.OK},
		{"\x01\x02ab", math.MaxInt, "ab", 0, api.OK},
		{Text(strings.Repeat("z", 300)) + "!", 300, strings.Repeat("z", 300), 1, api.OK},
		{"\x01\x02ab", 1, "", 4, api.ErrLong},
		{"\x01\x02ab", 0, "", 4, api.ErrLong},
		{"\x00", -1, "", 1, api.ErrLong}, // even 0 is above it
		{"\x00", math.MinInt, "", 1, api.ErrLong},
		{"\x01\x02", 1, "", 2, api.ErrLong}, // too few bytes follow, too: ErrLong comes first
		{"\x01\x02a", 2, "", 3, api.ErrEnd},
		{"\x01\x01", 1, "", 2, api.ErrEnd},
		{"\x08\x7f\xff\xff\xff\xff\xff\xff\xffab", math.MaxInt, "", 11, api.ErrEnd},
		{"", 5, "", 0, api.ErrEnd},
		{"", -1, "", 0, api.ErrEnd}, // what Num refuses comes first
		{"\x02\x01", 0, "", 2, api.ErrEnd},
		{"\x09ab", 0, "", 3, api.ErrForm},
		{"\x01\x00ab", 5, "", 4, api.ErrForm},
		{"\x08\x80\x00\x00\x00\x00\x00\x00\x00", math.MaxInt, "", 9, api.ErrForm},
	} {
		r := Read(c.s)
		if s := r.Text(c.most); s != c.want {
			t.Errorf("Text(%d) of %q = %q, want %q", c.most, c.s, s, c.want)
		}
		wantState(t, c.s, r, c.left, c.e)
		if c.e != api.OK {
			wantRefused(t, c.s, r)
		}
	}
}

func TestReadList(t *testing.T) {
	for _, c := range []struct {
		s          string
		most, each int
		want       []string
		left       int
		e          api.Code
	}{
		{"\x00", 0, 0, nil, 0, api.OK},
		{"\x00", 0, -1, nil, 0, api.OK}, // no text is read
		{"\x00ab", 5, 5, nil, 2, api.OK},
		{"\x01\x02\x01\x02ab\x00", 2, 2, []string{"ab", ""}, 0, api.OK},
		{"\x01\x02\x01\x02ab\x00!", math.MaxInt, math.MaxInt, []string{"ab", ""}, 1, api.OK},
		{"\x01\x01\x00", 1, 0, []string{""}, 0, api.OK},
		{"\x01\x02\x01\x02ab\x00", 1, 2, nil, 7, api.ErrLong},
		{"\x01\x02\x01\x02ab\x00", 2, 1, nil, 7, api.ErrLong},
		{"\x01\x02\x00\x01\x02ab", 2, 1, nil, 7, api.ErrLong}, // the last text
		{"\x00", -1, 5, nil, 1, api.ErrLong},
		{"\x01\x01\x00", 1, -1, nil, 3, api.ErrLong},
		{"\x01\x02", 1, 5, nil, 2, api.ErrLong}, // no text follows, too
		{"", 5, 5, nil, 0, api.ErrEnd},
		{"", -1, 5, nil, 0, api.ErrEnd},
		{"\x02\x01", 5, 5, nil, 2, api.ErrEnd},
		{"\x01\x02\x01\x02ab", 2, 2, nil, 6, api.ErrEnd},
		{"\x01\x02\x00\x01\x02a", 2, 2, nil, 6, api.ErrEnd},
		{"\x08\x7f\xff\xff\xff\xff\xff\xff\xff\x00\x00", math.MaxInt, 5, nil, 11, api.ErrEnd}, // a number that lies
		{"\x09", 5, 5, nil, 1, api.ErrForm},
		{"\x01\x00", 5, 5, nil, 2, api.ErrForm},
		{"\x01\x02\x00\x01\x00", 5, 5, nil, 5, api.ErrForm},
		{"\x01\x02\x00\x09", 5, 5, nil, 4, api.ErrForm},
		{"\x01\x02\x09\x01\x03abc", 5, 2, nil, 8, api.ErrForm}, // from its front on
	} {
		r := Read(c.s)
		if l := r.List(c.most, c.each); !slices.Equal(l, c.want) {
			t.Errorf("List(%d, %d) of %q = %q, want %q", c.most, c.each, c.s, l, c.want)
		}
		wantState(t, c.s, r, c.left, c.e)
		if c.e != api.OK {
			wantRefused(t, c.s, r)
		}
	}
}

func TestReadListIsNewEachTime(t *testing.T) {
	s := List([]string{"ab", "c"})
	r := Read(s + s)
	a := r.List(2, 2)
	_ = append(a, "spare")
	b := r.List(2, 2)
	a[0], a[1] = "x", "y"
	if !slices.Equal(b, []string{"ab", "c"}) || r.End() != api.OK {
		t.Errorf("the second list: %q, %d", b, r.Code())
	}
	if again := Read(s).List(2, 2); !slices.Equal(again, []string{"ab", "c"}) {
		t.Errorf("read again: %q", again)
	}
}

func TestReadFlag(t *testing.T) {
	for first := range 256 {
		s := string([]byte{byte(first)})
		for _, rest := range []string{"", "\x00", "\x01"} {
			r := Read(s + rest)
			if got := r.Flag(); got != (first == 1) {
				t.Errorf("Flag of the byte %d = %v", first, got)
			}
			if first <= 1 {
				wantState(t, "flag", r, len(rest), api.OK)
				continue
			}
			wantState(t, "no flag", r, 1+len(rest), api.ErrForm)
			wantRefused(t, "no flag", r)
		}
	}
	r := Read("")
	if r.Flag() {
		t.Error("Flag of nothing")
	}
	wantState(t, "nothing", r, 0, api.ErrEnd)
	wantRefused(t, "nothing", r)
}

func TestEnd(t *testing.T) {
	r := Read("")
	wantState(t, "nothing", r, 0, api.OK)
	if e := r.End(); e != api.OK || r.Num() != 0 || r.Code() != api.ErrEnd {
		t.Errorf("End of nothing: %d, then %d", e, r.Code())
	}
	r = Read("\x01\x05\x01")
	wantState(t, "new", r, 3, api.OK)
	if n := r.Num(); n != 5 {
		t.Errorf("Num = %d", n)
	}
	wantState(t, "behind a number", r, 1, api.OK)
	if !r.Flag() || r.End() != api.OK || r.End() != api.OK {
		t.Errorf("at the end: %d", r.Code())
	}
	wantState(t, "at the end", r, 0, api.OK)

	r = Read("\x00\x00")
	r.Num()
	if e := r.End(); e != api.ErrForm {
		t.Errorf("End with a byte left: %d", e)
	}
	wantState(t, "with a byte left", r, 1, api.ErrForm)
	wantRefused(t, "with a byte left", r)
}

func TestEndKeepsTheFirstCode(t *testing.T) {
	for _, c := range []struct {
		call func(r *Reader)
		e    api.Code
	}{
		{func(r *Reader) { r.Bytes(-1) }, api.ErrRange},
		{func(r *Reader) { r.Text(0) }, api.ErrLong},
		{func(r *Reader) { r.Bytes(9) }, api.ErrEnd},
		{func(r *Reader) { r.Flag(); r.Flag() }, api.ErrForm},
	} {
		r := Read("\x01\x02ab") // bytes are left: ErrForm, were there no code yet
		c.call(r)
		if e := r.End(); e != c.e || r.Code() != c.e {
			t.Errorf("End: %d, want %d", e, c.e)
		}
		wantRefused(t, "behind End", r)
	}
}

func TestRefusedBehindOthers(t *testing.T) {
	r := Read("\x01\x07" + "\x01\x02ab" + "\x01" + "\x01\x02\x01\x01x\x01\x00" + "tail")
	if n, s, f := r.Num(), r.Text(2), r.Flag(); n != 7 || s != "ab" || !f {
		t.Fatalf("%d %q %v", n, s, f)
	}
	left := r.Left()
	if l := r.List(2, 2); len(l) != 0 {
		t.Errorf("List = %q", l)
	}
	wantState(t, "a list that is none", r, left, api.ErrForm) // back ahead of the list, not of its last text
	wantRefused(t, "a list that is none", r)
}

func TestReadersStandAlone(t *testing.T) {
	a, b := Read("\x01\x05\x02"), Read("\x01\x05\x02")
	a.Num()
	a.Flag()
	wantState(t, "the one", a, 1, api.ErrForm)
	wantState(t, "the other", b, 3, api.OK)
	if n := b.Num(); n != 5 {
		t.Errorf("Num = %d", n)
	}
}

func TestNumbersThereAndBack(t *testing.T) {
	for _, n := range numbers() {
		for _, rest := range []string{"", "\x00", "\xff\xff"} {
			r := Read(mustNum(t, n) + rest)
			if got := r.Num(); got != n {
				t.Errorf("%d came back as %d", n, got)
			}
			wantState(t, "a number", r, len(rest), api.OK)
		}
	}
}

func TestTextsThereAndBack(t *testing.T) {
	all := texts(allBytes(), 2)
	for size := 250; size < 260; size++ {
		all = append(all, strings.Repeat("\x00", size))
	}
	all = append(all, strings.Repeat("ab", 1<<16))
	for _, s := range all {
		r := Read(Text(s))
		if got := r.Text(len(s)); got != s || r.End() != api.OK {
			t.Fatalf("%q came back as %q, %d", s, got, r.Code())
		}
		if r = Read(Text(s)); r.Text(len(s)-1) != "" || r.Code() != api.ErrLong {
			t.Fatalf("%q by one too few: %d", s, r.Code())
		}
	}
	for _, b := range []bool{false, true} {
		if r := Read(Flag(b)); r.Flag() != b || r.End() != api.OK {
			t.Errorf("the flag %v: %d", b, r.Code())
		}
	}
}

func TestListsThereAndBack(t *testing.T) {
	some := texts("\x00\x01a", 2)
	lists := [][]string{nil, make([]string, 300), some, slices.Repeat(some, 100)}
	for _, a := range some {
		lists = append(lists, []string{a})
		for _, b := range some {
			lists = append(lists, []string{a, b})
		}
	}
	seen := map[string]int{}
	for i, l := range lists {
		s := List(l)
		if other, ok := seen[s]; ok {
			t.Errorf("the lists %d and %d have the same bytes", other, i)
		}
		seen[s] = i
		r := Read(s)
		if got := r.List(len(l), 2); !slices.Equal(got, l) || r.End() != api.OK {
			t.Errorf("%q came back as %q, %d", l, got, r.Code())
		}
	}
}

// TestOneWayAlone tries all short bytes: what is taken is just what the writer makes.
func TestOneWayAlone(t *testing.T) {
	all := append(texts(allBytes(), 2), texts("\x00\x01\x02\x03\x08\x09\x7f\x80\xff", 5)...)
	for _, s := range all {
		holdNum(t, s)
		holdText(t, s)
		holdList(t, s)
	}
}

func holdNum(t *testing.T, s string) {
	t.Helper()
	r := Read(s)
	n := r.Num()
	taken := s[:len(s)-r.Left()]
	if r.Code() != api.OK {
		if n != 0 || taken != "" {
			t.Fatalf("Num of %q refused: %d, took %q", s, n, taken)
		}
		return
	}
	if back, e := Num(n); n < 0 || e != api.OK || back != taken {
		t.Fatalf("Num of %q took %q as %d, whose bytes are %q", s, taken, n, back)
	}
}

func holdText(t *testing.T, s string) {
	t.Helper()
	r := Read(s)
	text := r.Text(math.MaxInt)
	taken := s[:len(s)-r.Left()]
	if r.Code() != api.OK {
		if text != "" || taken != "" {
			t.Fatalf("Text of %q refused: %q, took %q", s, text, taken)
		}
		return
	}
	if back := Text(text); back != taken {
		t.Fatalf("Text of %q took %q as %q, whose bytes are %q", s, taken, text, back)
	}
}

func holdList(t *testing.T, s string) {
	t.Helper()
	r := Read(s)
	l := r.List(math.MaxInt, math.MaxInt)
	taken := s[:len(s)-r.Left()]
	if r.Code() != api.OK {
		if len(l) != 0 || taken != "" {
			t.Fatalf("List of %q refused: %q, took %q", s, l, taken)
		}
		return
	}
	if back := List(l); back != taken {
		t.Fatalf("List of %q took %q as %q, whose bytes are %q", s, taken, l, back)
	}
}

func TestNoNumberBeginsAnother(t *testing.T) {
	all := numbers()
	for n := range 600 {
		all = append(all, n)
	}
	slices.Sort(all)
	all = slices.Compact(all)
	for i, a := range all {
		s := mustNum(t, a)
		for j, b := range all {
			if i != j && strings.HasPrefix(mustNum(t, b), s) {
				t.Fatalf("the bytes of %d begin those of %d", a, b)
			}
		}
	}
}

// FuzzReader holds every call to P1, and to what 2.2 to 2.4 say of any bytes.
func FuzzReader(f *testing.F) {
	for _, s := range []string{"", "\x00", "\x02\x01\x2c", "\x01\x00", "\x01\x02\x01\x02ab\x00", "\x08\x80\x00\x00\x00\x00\x00\x00\x00", "\x09"} {
		f.Add(s, 2, 2)
	}
	f.Fuzz(func(t *testing.T, s string, most, each int) {
		holdNum(t, s)
		holdText(t, s)
		holdList(t, s)
		if n, e := Num(most); (e == api.OK) != (most >= 0) || e == api.OK && n != plain(most) {
			t.Errorf("Num(%d) = %q, %d", most, n, e)
		}
		for _, call := range []func(r *Reader){
			func(r *Reader) { r.Bytes(most) },
			func(r *Reader) { r.Text(most) },
			func(r *Reader) { r.List(most, each) },
			func(r *Reader) { r.Flag() },
			func(r *Reader) { r.End() },
		} {
			r := Read(s)
			call(r)
			if r.Code() != api.OK {
				wantState(t, "refused", r, len(s), r.Code())
				wantRefused(t, "refused", r)
			}
		}
	})
}
