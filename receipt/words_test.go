package receipt

import (
	"crypto/sha256"
	"slices"
	"strings"
	"testing"

	"pharos/api"
	"pharos/proof"
)

// What the words say of receipts, their bytes and their tries, done plainly: limits stand here as numbers, bytes are put together and read by themselves, a list's nodes are written out one by one, and summed by Go's own library.

// most is how much a Seq may be.
const most = 1099511627776

// plainMay is what a receipt that may be is.
func plainMay(x api.Receipt) bool {
	return x.Code >= 0 && x.Code <= 1000 && len(x.From) >= 1 && len(x.From) <= 6 && x.Seq >= 0 && x.Seq <= most
}

// plainListMay is what a list that may be is.
func plainListMay(l []api.Receipt) bool {
	for _, x := range l {
		if !plainMay(x) {
			return false
		}
	}
	return len(l) <= 8
}

// plainNum is a number as bytes; one below 0 has all of its eight.
func plainNum(n int) string {
	var b []byte
	for rest := uint64(n); rest > 0; rest /= 256 {
		b = append([]byte{byte(rest % 256)}, b...)
	}
	return string(append([]byte{byte(len(b))}, b...))
}

// plainText is a text as bytes.
func plainText(s string) string { return plainNum(len(s)) + s }

// plainBytes is x as bytes, whether it may be or not.
func plainBytes(x api.Receipt) string {
	return plainNum(int(x.Code)) + plainText(x.From) + plainNum(x.Seq)
}

// eater reads bytes from their beginning on; whether they were written in the one way there is, is told by writing them again.
type eater struct {
	rest string
	bad  bool
}

func (r *eater) bytes(n int) string {
	if r.bad || n < 0 || n > len(r.rest) {
		r.bad = true
		return ""
	}
	s := r.rest[:n]
	r.rest = r.rest[n:]
	return s
}

func (r *eater) num() int {
	size := r.bytes(1)
	if r.bad || size[0] > 8 {
		r.bad = true
		return 0
	}
	n := 0
	for _, b := range []byte(r.bytes(int(size[0]))) {
		n = n*256 + int(b)
	}
	return n
}

// plainDecode is the receipt that may be of which s is just the bytes.
func plainDecode(s string) (api.Receipt, bool) {
	r := &eater{rest: s}
	x := api.Receipt{Code: api.Code(r.num()), From: r.bytes(r.num()), Seq: r.num()}
	if r.bad || !plainMay(x) || plainBytes(x) != s {
		return api.Receipt{}, false
	}
	return x, true
}

// sumOf is a text's sum with the tag 1.
func sumOf(text string) string {
	s := sha256.Sum256([]byte("\x01" + text))
	return string(s[:])
}

// bare is a leaf of nothing left.
func bare(value string) string { return "\x01" + "\x01\x01\x20" + plainText(value) }

// alone is the leaf of a place that is the only one.
func alone(at byte, value string) string {
	return "\x01" + "\x01\x02\x20" + string([]byte{at}) + plainText(value)
}

// way is the nodes on the way to a place in the trie of the list: of one receipt its leaf; of more an extension of the half byte 0, with which all their paths begin, a branch of the second half bytes, and leaves of nothing left.
func way(l []api.Receipt, at int) []string {
	switch len(l) {
	case 0:
		return nil
	case 1:
		return []string{alone(0, plainBytes(l[0]))}
	}
	bits, kids := 0, ""
	for i, x := range l {
		bits += 32768 >> i
		kids += sumOf(bare(plainBytes(x)))
	}
	fork := "\x03" + string([]byte{byte(bits / 256), byte(bits % 256)}) + kids + "\x00"
	nodes := []string{"\x02" + "\x01\x01\x10" + sumOf(fork)}
	if at < 16 {
		nodes = append(nodes, fork)
	}
	if at < len(l) {
		nodes = append(nodes, bare(plainBytes(l[at])))
	}
	return nodes
}

// rootOf is the root of the trie of the list.
func rootOf(l []api.Receipt) string {
	if len(l) == 0 {
		return ""
	}
	return sumOf(way(l, 0)[0])
}

// wantOf is what Verify is to answer: what chapter 13's says of the key, and what that value is.
func wantOf(root string, at int, nodes []string) (api.Receipt, bool, api.Code) {
	if at < 0 || at > 255 {
		return api.Receipt{}, false, 1
	}
	value, there, e := proof.Verify(root, string([]byte{byte(at)}), nodes)
	x, ok := plainDecode(value)
	if there && !ok {
		return api.Receipt{}, false, 3
	}
	return x, there, e
}

// wantMay holds Encode of a receipt that may be to the words, and its bytes to their way back.
func wantMay(t *testing.T, x api.Receipt) {
	t.Helper()
	if !plainMay(x) {
		t.Errorf("by the words %#v may not be", x)
	}
	want := plainBytes(x)
	for range 2 {
		if s, e := Encode(x); s != want || e != api.OK {
			t.Errorf("Encode(%#v) = %q, %d, want %q", x, s, e, want)
		}
		if y, e := Decode(want); y != x || e != api.OK {
			t.Errorf("Decode(%q) = %#v, %d, want %#v", want, y, e, x)
		}
	}
}

// wantNot holds Encode to refusing a receipt that may not be, and Decode to refusing its bytes.
func wantNot(t *testing.T, x api.Receipt) {
	t.Helper()
	if plainMay(x) {
		t.Errorf("by the words %#v may be", x)
	}
	for range 2 {
		if s, e := Encode(x); s != "" || e != api.ErrForm {
			t.Errorf("Encode(%#v) = %q, %d", x, s, e)
		}
	}
	wantNoBytes(t, plainBytes(x))
}

// wantNoBytes holds Decode to refusing the bytes.
func wantNoBytes(t *testing.T, s string) {
	t.Helper()
	for range 2 {
		if x, e := Decode(s); x != (api.Receipt{}) || e != api.ErrForm {
			t.Errorf("Decode(%q) = %#v, %d", s, x, e)
		}
	}
}

// wantDecoded holds Decode to the words, and tells whether they take the bytes.
func wantDecoded(t *testing.T, s string) bool {
	t.Helper()
	x, ok := plainDecode(s)
	if ok {
		wantMay(t, x)
	} else {
		wantNoBytes(t, s)
	}
	return ok
}

// wantVerify holds two calls of Verify to what a test has written down, and that to the words.
func wantVerify(t *testing.T, root string, at int, nodes []string, x api.Receipt, there bool, want api.Code) {
	t.Helper()
	if y, is, e := wantOf(root, at, nodes); y != x || is != there || e != want {
		t.Fatalf("by the words %#v, %v, %d, by the test %#v, %v, %d: of %x, %d, %q", y, is, e, x, there, want, root, at, nodes)
	}
	ahead := strings.Join(nodes, "/")
	for range 2 {
		if y, is, e := Verify(root, at, nodes); y != x || is != there || e != want {
			t.Fatalf("Verify(%x, %d, %q) = %#v, %v, %d, want %#v, %v, %d", root, at, nodes, y, is, e, x, there, want)
		}
	}
	if strings.Join(nodes, "/") != ahead {
		t.Fatal("the nodes have changed")
	}
}

// wantRefused holds Verify to refusing by a code.
func wantRefused(t *testing.T, root string, at int, want api.Code, nodes ...string) {
	t.Helper()
	wantVerify(t, root, at, nodes, api.Receipt{}, false, want)
}

// wantByWords holds a call of Verify to the words, and answers what it answers.
func wantByWords(t *testing.T, root string, at int, nodes []string) (api.Receipt, bool, api.Code) {
	t.Helper()
	x, there, want := wantOf(root, at, nodes)
	y, is, e := Verify(root, at, nodes)
	if y != x || is != there || e != want {
		t.Fatalf("Verify(%x, %d, %q) = %#v, %v, %d, want %#v, %v, %d", root, at, nodes, y, is, e, x, there, want)
	}
	return y, is, e
}

// wantList holds the calls of a list that may be to the words, at these places; what shows a place is verified.
func wantList(t *testing.T, l []api.Receipt, places ...int) {
	t.Helper()
	if !plainListMay(l) {
		t.Fatalf("by the words %#v may not be", l)
	}
	root, ahead := rootOf(l), slices.Clone(l)
	for range 2 {
		if s, e := Root(l); s != root || e != api.OK {
			t.Fatalf("Root(%#v) = %x, %d, want %x", l, s, e, root)
		}
	}
	for _, at := range places {
		want := way(l, at)
		for range 2 {
			if nodes, e := Prove(l, at); !slices.Equal(nodes, want) || e != api.OK {
				t.Fatalf("Prove(%#v, %d) = %q, %d, want %q", l, at, nodes, e, want)
			}
		}
		x := api.Receipt{}
		if at < len(l) {
			x = l[at]
		}
		wantVerify(t, root, at, want, x, at < len(l), 0)
	}
	if !slices.Equal(l, ahead) {
		t.Fatalf("the list is %#v, was %#v", l, ahead)
	}
}

// wantNoList holds Root to refusing a list by a code, and Prove at any place, too.
func wantNoList(t *testing.T, l []api.Receipt, want api.Code) {
	t.Helper()
	for range 2 {
		if s, e := Root(l); s != "" || e != want {
			t.Errorf("Root(%#v) = %x, %d, want %d", l, s, e, want)
		}
		for _, at := range append(wrongPlaces(), 0, 1, len(l)-1, len(l), 255) {
			if nodes, e := Prove(l, at); len(nodes) != 0 || e != want {
				t.Errorf("Prove(%#v, %d) = %q, %d, want %d", l, at, nodes, e, want)
			}
		}
	}
}
