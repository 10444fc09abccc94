package tx

import (
	"crypto/sha256"
	"slices"
	"testing"

	"pharos/api"
)

// What the words say of transactions, their bytes and sums, done plainly: limits stand here as numbers, bytes are put together and read by themselves, and summed by Go's own library.

// most is how much an amount, and a Seq, may be.
const most = 1099511627776

// plainName tells whether s is a name.
func plainName(s string) bool { return len(s) >= 1 && len(s) <= 6 }

// plainSetMay is what a set that may be is.
func plainSetMay(l []api.Member) bool {
	for i, m := range l {
		if !plainName(m.Name) || m.Power < 1 || m.Power > 1000 || i > 0 && l[i-1].Name >= m.Name {
			return false
		}
	}
	return len(l) >= 1 && len(l) <= 7
}

// plainMay is what a transaction that may be is: each kind is told with all of its fields.
func plainMay(x api.Tx) bool {
	if !plainName(x.From) || x.Seq < 0 || x.Seq > most {
		return false
	}
	noMove := x.To == "" && x.Amount == 0
	noMembers := len(x.Members) == 0
	key := len(x.Key) >= 1 && len(x.Key) <= 6
	switch x.Kind {
	case 1:
		return plainName(x.To) && x.Amount >= 1 && x.Amount <= most && x.Key == "" && x.Value == "" && noMembers
	case 2:
		return noMove && key && len(x.Value) >= 1 && len(x.Value) <= 32 && noMembers
	case 3:
		return noMove && key && x.Value == "" && noMembers
	case 4:
		return noMove && x.Key == "" && x.Value == "" && plainSetMay(x.Members)
	}
	return false
}

// plainListMay is what a list that may be is.
func plainListMay(l []api.Tx) bool {
	for _, x := range l {
		if !plainMay(x) {
			return false
		}
	}
	return len(l) <= 8
}

// plainNum is a number as bytes; one below 0 has all of its eight.
func plainNum(n int) string {
	var b []byte
	for rest := uint64(n); rest > 0; rest /= 256 {
		b = append([]byte{byte(rest % 256)}, b...)
	}
	return string(append([]byte{byte(len(b))}, b...))
}

// plainText is a text as bytes.
func plainText(s string) string { return plainNum(len(s)) + s }

// plainTexts is a list as bytes.
func plainTexts(l []string) string {
	s := plainNum(len(l))
	for _, t := range l {
		s += plainText(t)
	}
	return s
}

// plainSet is a set as bytes, whether it may be or not.
func plainSet(l []api.Member) string {
	s := plainNum(len(l))
	for _, m := range l {
		s += plainText(m.Name) + plainNum(m.Power)
	}
	return s
}

// plainBytes is x as bytes, whether it may be or not; of a kind that is none it is what all kinds have.
func plainBytes(x api.Tx) string {
	s := string([]byte{byte(x.Kind)}) + plainText(x.From) + plainNum(x.Seq)
	switch x.Kind {
	case 1:
		s += plainText(x.To) + plainNum(x.Amount)
	case 2:
		s += plainText(x.Key) + plainText(x.Value)
	case 3:
		s += plainText(x.Key)
	case 4:
		s += plainText(plainSet(x.Members))
	}
	return s
}

// plainList is l as bytes, whether it may be or not.
func plainList(l []api.Tx) string {
	var texts []string
	for _, x := range l {
		texts = append(texts, plainBytes(x))
	}
	return plainTexts(texts)
}

// plainRoot is the sum of a text with the tag 3.
func plainRoot(s string) string {
	sum := sha256.Sum256([]byte("\x03" + s))
	return string(sum[:])
}

// eater reads bytes from their beginning on; whether they were written in the one way there is, is told by writing them again.
type eater struct {
	rest string
	bad  bool
}

func (r *eater) bytes(n int) string {
	if r.bad || n < 0 || n > len(r.rest) {
		r.bad = true
		return ""
	}
	s := r.rest[:n]
	r.rest = r.rest[n:]
	return s
}

func (r *eater) num() int {
	n := 0
	for _, b := range []byte(r.bytes(r.size())) {
		n = n*256 + int(b)
	}
	return n
}

func (r *eater) size() int {
	s := r.bytes(1)
	if r.bad || s[0] > 8 {
		r.bad = true
		return 0
	}
	return int(s[0])
}

func (r *eater) text() string { return r.bytes(r.num()) }

func (r *eater) set() []api.Member {
	inner := eater{rest: r.text()}
	var l []api.Member
	for n := inner.num(); len(l) < n && !inner.bad; {
		l = append(l, api.Member{Name: inner.text(), Power: inner.num()})
	}
	r.bad = r.bad || inner.bad
	return l
}

// plainDecode is the transaction that may be of which s is just the bytes.
func plainDecode(s string) (api.Tx, bool) {
	r := &eater{rest: s}
	kind := r.bytes(1)
	if r.bad {
		return api.Tx{}, false
	}
	x := api.Tx{Kind: int(kind[0]), From: r.text(), Seq: r.num()}
	switch x.Kind {
	case 1:
		x.To, x.Amount = r.text(), r.num()
	case 2:
		x.Key, x.Value = r.text(), r.text()
	case 3:
		x.Key = r.text()
	case 4:
		x.Members = r.set()
	}
	if r.bad || !plainMay(x) || plainBytes(x) != s {
		return api.Tx{}, false
	}
	return x, true
}

// plainDecodeAll is the list that may be of which s is just the bytes.
func plainDecodeAll(s string) ([]api.Tx, bool) {
	r := &eater{rest: s}
	var l []api.Tx
	for n := r.num(); len(l) < n; {
		x, ok := plainDecode(r.text())
		if !ok {
			return nil, false
		}
		l = append(l, x)
	}
	if r.bad || !plainListMay(l) || plainList(l) != s {
		return nil, false
	}
	return l, true
}

// same tells whether two transactions are: a list without an element may be nil or empty.
func same(a, b api.Tx) bool {
	return a.Kind == b.Kind && a.From == b.From && a.Seq == b.Seq && a.To == b.To && a.Amount == b.Amount && a.Key == b.Key && a.Value == b.Value && slices.Equal(a.Members, b.Members)
}

// sameAll tells whether two lists are.
func sameAll(a, b []api.Tx) bool { return slices.EqualFunc(a, b, same) }

// wantMay holds Check and Encode of a transaction that may be to the words, and its bytes to their way back.
func wantMay(t *testing.T, x api.Tx) {
	t.Helper()
	if !plainMay(x) {
		t.Errorf("by the words %#v may not be", x)
	}
	if e := Check(x); e != api.OK {
		t.Errorf("Check(%#v) = %d", x, e)
	}
	s, e := Encode(x)
	if s != plainBytes(x) || e != api.OK {
		t.Errorf("Encode(%#v) = %q, %d, want %q", x, s, e, plainBytes(x))
	}
	if y, e := Decode(s); !same(y, x) || e != api.OK {
		t.Errorf("Decode(%q) = %#v, %d, want %#v", s, y, e, x)
	}
}

// wantNot holds Check and Encode to refusing a transaction that may not be.
func wantNot(t *testing.T, x api.Tx) {
	t.Helper()
	if plainMay(x) {
		t.Errorf("by the words %#v may be", x)
	}
	if e := Check(x); e != api.ErrTx {
		t.Errorf("Check(%#v) = %d", x, e)
	}
	if s, e := Encode(x); s != "" || e != api.ErrTx {
		t.Errorf("Encode(%#v) = %q, %d", x, s, e)
	}
}

// wantAny holds Check and Encode to the words, and Decode at the transaction's bytes.
func wantAny(t *testing.T, x api.Tx) {
	t.Helper()
	if plainMay(x) {
		wantMay(t, x)
	} else {
		wantNot(t, x)
		wantDecoded(t, plainBytes(x)) // some fields stand in no bytes: the rest may be
	}
}

// wantNoBytes holds Decode to refusing the bytes, and DecodeAll to refusing a list with them.
func wantNoBytes(t *testing.T, s string) {
	t.Helper()
	if x, e := Decode(s); !same(x, api.Tx{}) || e != api.ErrTx {
		t.Errorf("Decode(%q) = %#v, %d", s, x, e)
	}
	wantNoList(t, plainTexts([]string{s}))
}

// wantDecoded holds Decode to the words, and what it answers to its way back.
func wantDecoded(t *testing.T, s string) {
	t.Helper()
	want, ok := plainDecode(s)
	if !ok {
		wantNoBytes(t, s)
		return
	}
	wantMay(t, want)
	if x, e := Decode(s); !same(x, want) || e != api.OK {
		t.Errorf("Decode(%q) = %#v, %d, want %#v", s, x, e, want)
	}
	if b, e := Encode(want); b != s || e != api.OK {
		t.Errorf("Encode(%#v) = %q, %d, want %q", want, b, e, s)
	}
}

// wantList holds the calls of a list that may be to the words, and its bytes to their way back.
func wantList(t *testing.T, l []api.Tx) {
	t.Helper()
	if !plainListMay(l) {
		t.Errorf("by the words %#v may not be", l)
	}
	s, e := EncodeAll(l)
	if s != plainList(l) || e != api.OK {
		t.Errorf("EncodeAll(%#v) = %q, %d, want %q", l, s, e, plainList(l))
	}
	if m, e := DecodeAll(s); !sameAll(m, l) || e != api.OK {
		t.Errorf("DecodeAll(%q) = %#v, %d, want %#v", s, m, e, l)
	}
	if sum, e := Root(l); sum != plainRoot(s) || e != api.OK {
		t.Errorf("Root(%#v) = %q, %d, want %q", l, sum, e, plainRoot(s))
	}
}

// wantRefused holds EncodeAll and Root to refusing a list by a code.
func wantRefused(t *testing.T, l []api.Tx, want api.Code) {
	t.Helper()
	if s, e := EncodeAll(l); s != "" || e != want {
		t.Errorf("EncodeAll(%#v) = %q, %d, want %d", l, s, e, want)
	}
	if s, e := Root(l); s != "" || e != want {
		t.Errorf("Root(%#v) = %q, %d, want %d", l, s, e, want)
	}
}

// wantNoList holds DecodeAll to refusing the bytes.
func wantNoList(t *testing.T, s string) {
	t.Helper()
	if l, e := DecodeAll(s); len(l) != 0 || e != api.ErrTx {
		t.Errorf("DecodeAll(%q) = %#v, %d", s, l, e)
	}
}

// wantListDecoded holds DecodeAll to the words, and what it answers to its way back.
func wantListDecoded(t *testing.T, s string) {
	t.Helper()
	want, ok := plainDecodeAll(s)
	if !ok {
		wantNoList(t, s)
		return
	}
	wantList(t, want)
	if l, e := DecodeAll(s); !sameAll(l, want) || e != api.OK {
		t.Errorf("DecodeAll(%q) = %#v, %d, want %#v", s, l, e, want)
	}
	if b, e := EncodeAll(want); b != s || e != api.OK {
		t.Errorf("EncodeAll(%#v) = %q, %d, want %q", want, b, e, s)
	}
}
