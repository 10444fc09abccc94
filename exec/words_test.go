package exec

import (
	"crypto/sha256"
	"maps"
	"slices"
	"testing"

	"pharos/api"
	"pharos/trie"
)

// What the words say of states and of what is done on them, done plainly: a state is a map of values by their keys, and limits, kinds and codes stand here as numbers.

// most is how much an amount, and a Seq, may be.
const most = 1099511627776

// items is a state: values by their keys. None is written any more once it is handed on.
type items map[string]string

// with and without are a state with one item more, or in the place of another one, and with one less.
func (s items) with(key, value string) items {
	m := maps.Clone(s)
	if m == nil {
		m = items{}
	}
	m[key] = value
	return m
}

func (s items) without(key string) items {
	m := maps.Clone(s)
	delete(m, key)
	return m
}

// has tells whether there is an item of the key.
func (s items) has(key string) bool {
	_, there := s[key]
	return there
}

// all is the items, their keys rising.
func (s items) all() []api.Item {
	var l []api.Item
	for _, key := range slices.Sorted(maps.Keys(s)) {
		l = append(l, api.Item{Key: key, Value: s[key]})
	}
	return l
}

// trie is the state as the calls take it.
func (s items) trie() *trie.Trie {
	t, e := trie.Of(s.all())
	if e != api.OK {
		panic("a plain state that is no trie")
	}
	return t
}

// plainNum is a number as bytes; one below 0 has all of its eight.
func plainNum(n int) string {
	var b []byte
	for rest := uint64(n); rest > 0; rest /= 256 {
		b = append([]byte{byte(rest % 256)}, b...)
	}
	return string(append([]byte{byte(len(b))}, b...))
}

// plainText is a text as bytes.
func plainText(s string) string { return plainNum(len(s)) + s }

// plainSum is what stands in a state for a set.
func plainSum(set []api.Member) string {
	s := "\x04" + plainNum(len(set))
	for _, m := range set {
		s += plainText(m.Name) + plainNum(m.Power)
	}
	sum := sha256.Sum256([]byte(s))
	return string(sum[:])
}

// plainName tells whether s is a name.
func plainName(s string) bool { return len(s) >= 1 && len(s) <= 6 }

// plainAmount tells whether n may be an amount, or a Seq.
func plainAmount(n int) bool { return n >= 0 && n <= most }

// plainSetMay is what a set that may be is.
func plainSetMay(l []api.Member) bool {
	for i, m := range l {
		if !plainName(m.Name) || m.Power < 1 || m.Power > 1000 || i > 0 && l[i-1].Name >= m.Name {
			return false
		}
	}
	return len(l) >= 1 && len(l) <= 7
}

// plainMay is what a transaction that may be is: each kind is told with all of its fields.
func plainMay(x api.Tx) bool {
	if !plainName(x.From) || !plainAmount(x.Seq) {
		return false
	}
	noMove, noMembers := x.To == "" && x.Amount == 0, len(x.Members) == 0
	key := len(x.Key) >= 1 && len(x.Key) <= 6
	switch x.Kind {
	case 1:
		return plainName(x.To) && x.Amount >= 1 && x.Amount <= most && x.Key == "" && x.Value == "" && noMembers
	case 2:
		return noMove && key && len(x.Value) >= 1 && len(x.Value) <= 32 && noMembers
	case 3:
		return noMove && key && x.Value == "" && noMembers
	case 4:
		return noMove && x.Key == "" && x.Value == "" && plainSetMay(x.Members)
	}
	return false
}

// plainValue is an account's value.
func plainValue(amount, seq int) string { return plainNum(amount) + plainNum(seq) }

// eat is the number with which s begins, in whatever way it is written, and what is left behind it.
func eat(s string) (n int, rest string, ok bool) {
	if s == "" || s[0] > 8 || len(s) < 1+int(s[0]) {
		return 0, "", false
	}
	for _, b := range []byte(s[1 : 1+s[0]]) {
		n = n*256 + int(b)
	}
	return n, s[1+s[0]:], true
}

// plainAccount is the account of this name, if its value is one; whether the numbers are written in the one way there is, is told by writing them again.
func plainAccount(s items, name string) (api.Account, bool) {
	if !s.has("a:" + name) {
		return api.Account{Name: name}, true
	}
	value := s["a:"+name]
	amount, rest, ok := eat(value)
	seq, _, more := eat(rest)
	if !ok || !more || !plainAmount(amount) || !plainAmount(seq) || plainValue(amount, seq) != value {
		return api.Account{}, false
	}
	return api.Account{Name: name, Amount: amount, Seq: seq}, true
}

// plainGenesis is the state of the accounts and the set, or what is wrong with them.
func plainGenesis(l []api.Account, set []api.Member) (items, api.Code) {
	if len(l) > 8 {
		return nil, 2
	}
	s := items{}
	for _, a := range l {
		if !plainName(a.Name) || !plainAmount(a.Amount) || !plainAmount(a.Seq) {
			return nil, 1
		}
		if s.has("a:" + a.Name) {
			return nil, 6
		}
		s = s.with("a:"+a.Name, plainValue(a.Amount, a.Seq))
	}
	if !plainSetMay(set) {
		return nil, 50
	}
	return s.with("s", plainSum(set)), 0
}

// plainDo is the state behind the transaction, or what is wrong with it there: first all that it asks, then each item that it puts or takes.
func plainDo(s items, x api.Tx) (items, api.Code) {
	from, fromIs := plainAccount(s, x.From)
	to, toIs := plainAccount(s, x.To)
	switch {
	case !plainMay(x):
		return nil, 150
	case !fromIs || x.Kind == 1 && !toIs:
		return nil, 3
	case x.Seq != from.Seq || from.Seq == most:
		return nil, 160
	case x.Kind == 1 && from.Amount < x.Amount:
		return nil, 161
	case x.Kind == 1 && x.To != x.From && to.Amount+x.Amount > most:
		return nil, 1
	case x.Kind == 3 && !s.has("d:"+x.Key):
		return nil, 5
	case x.Kind == 4 && x.From != "root":
		return nil, 162
	}
	left := from.Amount
	switch {
	case x.Kind == 1 && x.To != x.From:
		left -= x.Amount
		s = s.with("a:"+x.To, plainValue(to.Amount+x.Amount, to.Seq))
	case x.Kind == 2:
		s = s.with("d:"+x.Key, x.Value)
	case x.Kind == 3:
		s = s.without("d:" + x.Key)
	case x.Kind == 4:
		s = s.with("s", plainSum(x.Members))
	}
	if len(s) > 1024 {
		return nil, 2
	}
	if s = s.with("a:"+x.From, plainValue(left, from.Seq+1)); len(s) > 1024 {
		return nil, 2
	}
	return s, 0
}

// come is what a list of transactions comes to.
type come struct {
	state    items
	receipts []api.Receipt
	next     []api.Member
}

// plainAll is what the list comes to on the state, or what is wrong with it.
func plainAll(s items, l []api.Tx) (come, api.Code) {
	if len(l) > 8 {
		return come{}, 2
	}
	if slices.ContainsFunc(l, func(x api.Tx) bool { return !plainMay(x) }) {
		return come{}, 150
	}
	c := come{state: s}
	for _, x := range l {
		behind, e := plainDo(c.state, x)
		c.receipts = append(c.receipts, api.Receipt{Code: e, From: x.From, Seq: x.Seq})
		if e == 0 {
			c.state = behind
		}
		if e == 0 && x.Kind == 4 {
			c.next = x.Members
		}
	}
	return c, 0
}

// plainWhole is what all accounts of the state have together.
func plainWhole(s items) int {
	sum := 0
	for key := range s {
		if len(key) > 2 && key[:2] == "a:" {
			a, _ := plainAccount(s, key[2:])
			sum += a.Amount
		}
	}
	return sum
}

// wantState holds a trie to a state: its items, its number of them, and its root.
func wantState(t *testing.T, what string, x *trie.Trie, want items) {
	t.Helper()
	if x == nil {
		t.Fatalf("%s: no state", what)
	}
	if l := x.Items(); !slices.Equal(l, want.all()) || x.Len() != len(want) {
		t.Errorf("%s: %d items, %.500q, want %.500q", what, x.Len(), l, want.all())
	}
	if x.Root() != want.trie().Root() {
		t.Errorf("%s: another root", what)
	}
}

// wantGenesis holds Genesis to the words, twice, and to the code that a test has written down.
func wantGenesis(t *testing.T, l []api.Account, set []api.Member, code api.Code) items {
	t.Helper()
	want, wantE := plainGenesis(l, set)
	if wantE != code {
		t.Errorf("by the words Genesis(%.200v, %.200v) is %d, not %d", l, set, wantE, code)
	}
	for range 2 {
		x, e := Genesis(l, set)
		if e != wantE || (e != api.OK) != (x == nil) {
			t.Errorf("Genesis(%.200v, %.200v): %d, want %d, a state: %t", l, set, e, wantE, x != nil)
		}
		if e == api.OK && wantE == api.OK {
			wantState(t, "Genesis", x, want)
		}
	}
	return want
}

// wantAccount holds Account to the words.
func wantAccount(t *testing.T, x *trie.Trie, s items, name string) {
	t.Helper()
	want, wantE := api.Account{}, api.Code(1)
	if plainName(name) {
		var ok bool
		if want, ok = plainAccount(s, name); ok {
			wantE = 0
		} else {
			wantE = 3
		}
	}
	if a, e := Account(x, name); a != want || e != wantE {
		t.Errorf("Account(%q) = %+v, %d, want %+v, %d, of the value %q", name, a, e, want, wantE, s["a:"+name])
	}
}

// wantData holds Data to the words.
func wantData(t *testing.T, x *trie.Trie, s items, key string) {
	t.Helper()
	want, wantE := "", api.Code(1)
	if len(key) >= 1 && len(key) <= 6 {
		if want, wantE = s["d:"+key], 5; s.has("d:" + key) {
			wantE = 0
		}
	}
	if v, e := Data(x, key); v != want || e != wantE {
		t.Errorf("Data(%q) = %q, %d, want %q, %d", key, v, e, want, wantE)
	}
}

// wantDone holds Do, twice, and All of x alone to the words, and what was there ahead to staying as it was; the answer is what is there behind it, or the state as it was.
func wantDone(t *testing.T, s items, x api.Tx, code api.Code) items {
	t.Helper()
	want, wantE := plainDo(s, x)
	if wantE != code {
		t.Errorf("by the words Do(%+v) is %d, not %d", x, wantE, code)
	}
	ahead := s.trie()
	for range 2 {
		behind, e := Do(ahead, x)
		if e != wantE || (e != api.OK) != (behind == nil) {
			t.Errorf("Do(%+v): %d, want %d, a state: %t, on %.500q", x, e, wantE, behind != nil, s.all())
		}
		if e == api.OK && wantE == api.OK {
			wantState(t, "Do", behind, want)
		}
		wantState(t, "ahead of Do", ahead, s)
	}
	wantAll(t, s, []api.Tx{x})
	if wantE != api.OK {
		return s
	}
	return want
}

// wantAny is wantDone of whatever code the words say.
func wantAny(t *testing.T, s items, x api.Tx) items {
	t.Helper()
	_, e := plainDo(s, x)
	return wantDone(t, s, x, e)
}

// wantAll holds All, twice, to the words, and what was there ahead to staying as it was; the answer is the state at the end, or that it was.
func wantAll(t *testing.T, s items, l []api.Tx) items {
	t.Helper()
	want, wantE := plainAll(s, l)
	ahead := s.trie()
	for range 2 {
		state, receipts, next, e := All(ahead, l)
		wantCome(t, l, want, wantE, state, receipts, next, e)
		wantState(t, "ahead of All", ahead, s)
	}
	if wantE != api.OK {
		return s
	}
	return want.state
}

// wantCome holds what All answered to what the list comes to.
func wantCome(t *testing.T, l []api.Tx, want come, wantE api.Code, state *trie.Trie, receipts []api.Receipt, next []api.Member, e api.Code) {
	t.Helper()
	if e != wantE || (e != api.OK) != (state == nil) || !slices.Equal(receipts, want.receipts) || !slices.Equal(next, want.next) {
		t.Errorf("All(%+v): %+v, %+v, %d, want %+v, %+v, %d, a state: %t", l, receipts, next, e, want.receipts, want.next, wantE, state != nil)
	}
	if e == api.OK && wantE == api.OK {
		wantState(t, "All", state, want.state)
	}
}
