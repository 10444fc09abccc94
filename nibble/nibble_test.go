package nibble

import (
	"strings"
	"testing"

	"pharos/api"
)

// texts is every text of at most most bytes out of alphabet, the shorter ones first.
func texts(alphabet string, most int) []string {
	all := []string{""}
	for from, n := 0, 0; n < most; n++ {
		to := len(all)
		for _, t := range all[from:to] {
			for i := range len(alphabet) {
				all = append(all, t+alphabet[i:i+1])
			}
		}
		from = to
	}
	return all
}

// bytesUpTo is the bytes 0 to last, as one text.
func bytesUpTo(last int) string {
	b := make([]byte, 0, last+1)
	for i := range last + 1 {
		b = append(b, byte(i))
	}
	return string(b)
}

// below tells byte by byte, without Go's own order of texts, whether a is below b.
func below(a, b string) bool {
	for i := 0; i < len(a) && i < len(b); i++ {
		if a[i] != b[i] {
			return a[i] < b[i]
		}
	}
	return len(a) < len(b)
}

func TestOf(t *testing.T) {
	for _, c := range []struct{ key, path string }{
		{"", ""},
		{"A1", "\x04\x01\x03\x01"},
		{"\x00", "\x00\x00"},
		{"\xff", "\x0f\x0f"},
		{"\x0f\xf0", "\x00\x0f\x0f\x00"},
		{"\xab\xcd\xef", "\x0a\x0b\x0c\x0d\x0e\x0f"},
		{"\u00e9", "\x0c\x03\x0a\x09"}, // bytes, not runes
		{"longer than MaxKey", "\x06\x0c\x06\x0f\x06\x0e\x06\x07\x06\x05\x07\x02\x02\x00\x07\x04\x06\x08\x06\x01\x06\x0e\x02\x00\x04\x0d\x06\x01\x07\x08\x04\x0b\x06\x05\x07\x09"},
	} {
		if got := Of(c.key); got != c.path {
			t.Errorf("Of(%q) = %q, want %q", c.key, got, c.path)
		}
	}
	for b := range 256 {
		got := Of(string([]byte{byte(b)}))
		if want := string([]byte{byte(b / 16), byte(b % 16)}); got != want {
			t.Errorf("Of of the byte %d = %q, want %q", b, got, want)
		}
	}
}

func TestFit(t *testing.T) {
	for _, c := range []struct {
		path string
		fit  bool
	}{
		{"", true},
		{"\x00", true},
		{"\x0f", true},
		{"\x10", false},
		{"\xff", false},
		{"\x04\x01\x03", true},
		{"\x10\x01\x03", false},
		{"\x04\x10\x03", false},
		{"\x04\x01\x10", false},
		{bytesUpTo(15), true},
		{bytesUpTo(16), false},
		{strings.Repeat("\x0f", 1000), true},
		{strings.Repeat("\x0f", 1000) + "\x10", false},
	} {
		if got := Fit(c.path); got != c.fit {
			t.Errorf("Fit(%q) = %v", c.path, got)
		}
	}
	for b := range 256 {
		if got := Fit(string([]byte{byte(b)})); got != (b <= 15) {
			t.Errorf("Fit of the byte %d = %v", b, got)
		}
	}
}

func TestKey(t *testing.T) {
	for _, c := range []struct {
		path, key string
		e         api.Code
	}{
		{"", "", api.OK},
		{"\x04\x01\x03\x01", "A1", api.OK},
		{"\x00\x00", "\x00", api.OK},
		{"\x0f\x0f", "\xff", api.OK},
		{"\x00\x0f\x0f\x00", "\x0f\xf0", api.OK},
		{"\x04", "", api.ErrShape},
		{"\x04\x01\x03", "", api.ErrShape},
		{"\x04\x10", "", api.ErrForm},
		{"\x10\x04", "", api.ErrForm},
		{"\xff\xff", "", api.ErrForm},
		{"\x10", "", api.ErrForm}, // odd, too: ErrForm comes first
		{"\x04\x01\x11", "", api.ErrForm},
		{"A1", "", api.ErrForm},
	} {
		if k, e := Key(c.path); k != c.key || e != c.e {
			t.Errorf("Key(%q) = %q, %d", c.path, k, e)
		}
	}
}

func TestCommon(t *testing.T) {
	for _, c := range []struct {
		a, b string
		n    int
	}{
		{"", "", 0},
		{"", "\x01", 0},
		{"\x01", "\x01", 1},
		{"\x04\x01", "\x04\x01\x03", 2},
		{"\x04\x01", "\x04\x02", 1},
		{"\x04\x01\x03", "\x04\x02\x03", 1}, // alike again behind the first unlike byte
		{"\x05", "\x04", 0},
		{"any text", "any other", 4},
		{"\xff\x00", "\xff\x00\x00", 2},
		{"\u00e9", "\u00e8", 1}, // bytes, not runes
	} {
		if n := Common(c.a, c.b); n != c.n {
			t.Errorf("Common(%q, %q) = %d, want %d", c.a, c.b, n, c.n)
		}
		if n := Common(c.b, c.a); n != c.n {
			t.Errorf("Common(%q, %q) = %d, want %d", c.b, c.a, n, c.n)
		}
	}
	all := texts("\x00\x01\xff", 4)
	for _, a := range all {
		for _, b := range all {
			n := Common(a, b)
			if n < 0 || n > len(a) || n > len(b) || a[:n] != b[:n] {
				t.Fatalf("Common(%q, %q) = %d: they do not begin so", a, b, n)
			}
			if n < len(a) && n < len(b) && a[n] == b[n] {
				t.Fatalf("Common(%q, %q) = %d: there is more", a, b, n)
			}
		}
	}
}

func TestSide(t *testing.T) {
	for _, c := range []struct {
		path, mark string
		side       int
	}{
		{"\x04\x01", "\x04\x01\x03", 0},
		{"\x04\x01", "\x04\x01", 1},
		{"\x04\x01", "\x04\x02", -1},
		{"", "", 1},
		{"", "\x00", 0},
		{"\x00", "", 1},
		{"\x04\x01\x03", "\x04\x01", 1}, // the mark begins the path
		{"\x05", "\x04\x0f\x0f", 1},
		{"\x03\x0f\x0f", "\x04", -1},
		{"\x7f", "\x80", -1}, // bytes without a sign
		{"\xff", "\x00", 1},
		{"ab", "b", -1},
		{"b", "ab", 1},
	} {
		if got := Side(c.path, c.mark); got != c.side {
			t.Errorf("Side(%q, %q) = %d, want %d", c.path, c.mark, got, c.side)
		}
	}
	all := texts("\x00\x0f\x80\xff", 3)
	for _, path := range all {
		for _, mark := range all {
			want := -1
			if !below(path, mark) {
				want = 1
			} else if len(mark) > len(path) && mark[:len(path)] == path {
				want = 0
			}
			if got := Side(path, mark); got != want {
				t.Fatalf("Side(%q, %q) = %d, want %d", path, mark, got, want)
			}
		}
	}
}

func TestSideTellsOfAllThatBeginSo(t *testing.T) {
	all := texts("\x00\x01\xff", 4)
	for _, path := range all {
		for _, mark := range all {
			side := Side(path, mark)
			for _, more := range texts("\x00\x01\xff", 2) {
				is := below(path+more, mark)
				if side == -1 && !is || side == 1 && is {
					t.Fatalf("Side(%q, %q) = %d, and %q is below: %v", path, mark, side, path+more, is)
				}
			}
		}
	}
}

func TestPack(t *testing.T) {
	for _, c := range []struct {
		path string
		leaf bool
		s    string
		e    api.Code
	}{
		{"\x04\x01\x03\x01", true, "\x20\x41\x31", api.OK},
		{"\x05\x0a\x0b", false, "\x15\xab", api.OK},
		{"", false, "\x00", api.OK},
		{"", true, "\x20", api.OK},
		{"\x00", false, "\x10", api.OK},
		{"\x00", true, "\x30", api.OK},
		{"\x0f", false, "\x1f", api.OK},
		{"\x0f", true, "\x3f", api.OK},
		{"\x00\x00", false, "\x00\x00", api.OK},
		{"\x0f\x0f", true, "\x20\xff", api.OK},
		{"\x05\x0a\x0b", true, "\x35\xab", api.OK},
		{"\x04\x01\x03\x01", false, "\x00\x41\x31", api.OK},
		{"\x10", false, "", api.ErrForm},
		{"\x10", true, "", api.ErrForm},
		{"\x01\x10", false, "", api.ErrForm},
		{"\x01\x02\xff", true, "", api.ErrForm},
		{"\x20\x01\x02", true, "", api.ErrForm},
	} {
		if s, e := Pack(c.path, c.leaf); s != c.s || e != c.e {
			t.Errorf("Pack(%q, %v) = %q, %d", c.path, c.leaf, s, e)
		}
	}
}

func TestUnpack(t *testing.T) {
	for _, c := range []struct {
		s, path string
		leaf    bool
		e       api.Code
	}{
		{"\x20\x41\x31", "\x04\x01\x03\x01", true, api.OK},
		{"\x15\xab", "\x05\x0a\x0b", false, api.OK},
		{"\x00", "", false, api.OK},
		{"\x20", "", true, api.OK},
		{"\x10", "\x00", false, api.OK},
		{"\x3f", "\x0f", true, api.OK},
		{"\x00\x00", "\x00\x00", false, api.OK},
		{"", "", false, api.ErrForm},
		{"\x01", "", false, api.ErrForm}, // even, and a half byte in the first byte
		{"\x0f\x41", "", false, api.ErrForm},
		{"\x21", "", false, api.ErrForm},
		{"\x2f\x41\x31", "", false, api.ErrForm},
		{"\x40", "", false, api.ErrForm}, // bits that say nothing
		{"\x50\x41", "", false, api.ErrForm},
		{"\x80\x41", "", false, api.ErrForm},
		{"\xff", "", false, api.ErrForm},
	} {
		if p, leaf, e := Unpack(c.s); p != c.path || leaf != c.leaf || e != c.e {
			t.Errorf("Unpack(%q) = %q, %v, %d", c.s, p, leaf, e)
		}
	}
	for b := range 256 {
		want := api.ErrForm
		if kind := b / 16; kind <= 3 && (kind%2 == 1 || b%16 == 0) {
			want = api.OK
		}
		for _, rest := range []string{"", "\x00", "\xff\x12"} {
			if _, _, e := Unpack(string([]byte{byte(b)}) + rest); e != want {
				t.Errorf("Unpack of the first byte %d, then %q: %d, want %d", b, rest, e, want)
			}
		}
	}
}

func TestKeysThereAndBack(t *testing.T) {
	for _, key := range append(texts(bytesUpTo(255), 2), strings.Repeat("\x00\xff\x5a", 500)) {
		path := Of(key)
		if !Fit(path) || len(path) != 2*len(key) {
			t.Fatalf("Of(%q) = %q", key, path)
		}
		if back, e := Key(path); back != key || e != api.OK {
			t.Fatalf("Key(Of(%q)) = %q, %d", key, back, e)
		}
	}
	for _, path := range texts(bytesUpTo(15), 4) {
		key, e := Key(path)
		if len(path)%2 != 0 {
			if key != "" || e != api.ErrShape {
				t.Fatalf("Key(%q) = %q, %d", path, key, e)
			}
			continue
		}
		if e != api.OK || Of(key) != path {
			t.Fatalf("Of(Key(%q)) = %q, %d", path, Of(key), e)
		}
	}
}

func TestPackedThereAndBack(t *testing.T) {
	for _, path := range append(texts(bytesUpTo(15), 3), strings.Repeat("\x07", 1000), strings.Repeat("\x0f", 1001)) {
		for _, leaf := range []bool{false, true} {
			s, e := Pack(path, leaf)
			if e != api.OK || len(s) != len(path)/2+1 {
				t.Fatalf("Pack(%q, %v) = %q, %d", path, leaf, s, e)
			}
			if p, l, e := Unpack(s); p != path || l != leaf || e != api.OK {
				t.Fatalf("Unpack(%q) = %q, %v, %d", s, p, l, e)
			}
		}
	}
	for _, s := range texts(bytesUpTo(255), 2) {
		path, leaf, e := Unpack(s)
		if e != api.OK {
			if path != "" || leaf || e != api.ErrForm {
				t.Fatalf("Unpack(%q) = %q, %v, %d", s, path, leaf, e)
			}
			continue
		}
		if back, e := Pack(path, leaf); back != s || e != api.OK {
			t.Fatalf("Pack(Unpack(%q)) = %q, %d", s, back, e)
		}
	}
}

func TestKeysStandAsTheirPaths(t *testing.T) {
	all := texts("\x00\x01\x0f\x10\x7f\x80\xf0\xff", 3)
	for _, a := range all {
		for _, b := range all {
			if below(a, b) != below(Of(a), Of(b)) {
				t.Fatalf("%q and %q do not stand as their paths do", a, b)
			}
		}
	}
}

// FuzzCalls holds every call to P1 and to what 1.1 to 1.4 say of any texts.
func FuzzCalls(f *testing.F) {
	for _, s := range []string{"", "A1", "\x04\x01\x03\x01", "\x20\x41\x31", "\x15\xab", "\x40", "\xff\xff"} {
		f.Add(s, "\x04\x01")
	}
	f.Fuzz(func(t *testing.T, a, b string) {
		if k, e := Key(Of(a)); k != a || e != api.OK {
			t.Errorf("Key(Of(%q)) = %q, %d", a, k, e)
		}
		if k, e := Key(a); e == api.OK && Of(k) != a {
			t.Errorf("Of(Key(%q)) = %q", a, Of(k))
		}
		if below(a, b) != below(Of(a), Of(b)) {
			t.Errorf("%q and %q do not stand as their paths do", a, b)
		}
		if n := Common(a, b); a[:n] != b[:n] {
			t.Errorf("Common(%q, %q) = %d", a, b, n)
		}
		if s := Side(a, b); (s == 1) == below(a, b) || (s == 0) != (a != b && strings.HasPrefix(b, a)) {
			t.Errorf("Side(%q, %q) = %d", a, b, s)
		}
		for _, leaf := range []bool{false, true} {
			s, e := Pack(a, leaf)
			if (e == api.OK) != Fit(a) || e != api.OK && s != "" {
				t.Errorf("Pack(%q, %v) = %q, %d", a, leaf, s, e)
			}
		}
		if p, leaf, e := Unpack(a); e == api.OK {
			if back, _ := Pack(p, leaf); back != a {
				t.Errorf("Pack(Unpack(%q)) = %q", a, back)
			}
		}
	})
}
