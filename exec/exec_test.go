package exec

import (
	"encoding/hex"
	"math"
	"slices"
	"strconv"
	"strings"
	"testing"
	"unsafe"

	"pharos/api"
	"pharos/store"
	"pharos/trie"
)

// move, set, del and change are a transaction of each kind.
func move(from string, seq int, to string, amount int) api.Tx {
	return api.Tx{Kind: 1, From: from, Seq: seq, To: to, Amount: amount}
}

func set(from string, seq int, key, value string) api.Tx {
	return api.Tx{Kind: 2, From: from, Seq: seq, Key: key, Value: value}
}

func del(from string, seq int, key string) api.Tx {
	return api.Tx{Kind: 3, From: from, Seq: seq, Key: key}
}

func change(from string, seq int, l ...api.Member) api.Tx {
	return api.Tx{Kind: 4, From: from, Seq: seq, Members: l}
}

// of is an account.
func of(name string, amount, seq int) api.Account {
	return api.Account{Name: name, Amount: amount, Seq: seq}
}

// setOf is the members of these powers, named a, b and so on.
func setOf(powers ...int) []api.Member {
	var l []api.Member
	for i, p := range powers {
		l = append(l, api.Member{Name: string(rune('a' + i)), Power: p})
	}
	return l
}

// named is members of power 1 with these names.
func named(l ...string) []api.Member {
	var m []api.Member
	for _, s := range l {
		m = append(m, api.Member{Name: s, Power: 1})
	}
	return m
}

// stateOf is a state of these accounts, and of a set of one member.
func stateOf(l ...api.Account) items {
	s := items{"s": plainSum(setOf(1))}
	for _, a := range l {
		s = s.with("a:"+a.Name, plainValue(a.Amount, a.Seq))
	}
	return s
}

// crowded is the state with so many more items that it has n: accounts, and data, that nobody asks for.
func crowded(s items, n int) items {
	m := items{}
	for key, value := range s {
		m[key] = value
	}
	for i := 0; len(m) < n; i++ {
		name := "~" + strconv.Itoa(i)
		if i%2 == 0 {
			m["a:"+name] = plainValue(1, 0)
		} else {
			m["d:"+name] = "v"
		}
	}
	return m
}

// names is texts that are names, wrongNames others.
func names() []string {
	return []string{"a", "b", "ab", "abcde", "abcdef", "root", "s", "d:", "a:", "\x00", "\xff\xff\xff\xff\xff\xff", "\u00e9\u00e9\u00e9", " "}
}

func wrongNames() []string {
	return []string{"", "abcdefg", "abcdefgh", "\u00e9\u00e9\u00e9\u00e9", "\x00\x00\x00\x00\x00\x00\x00", strings.Repeat("a", 256+1), strings.Repeat("a", 1<<16)}
}

// amounts is numbers that may be an amount, or a Seq, wrongAmounts others.
func amounts() []int {
	return []int{0, 1, 2, 255, 256, 300, 65535, 65536, 1<<32 - 1, 1 << 32, most - 1, most}
}

func wrongAmounts() []int {
	return []int{-1, -2, -256, -most, most + 1, most + 2, 2 * most, 1<<62 + 1, math.MaxInt, math.MinInt, math.MinInt + 1}
}

// sets is members that are a set that may be, wrongSets others.
func sets() [][]api.Member {
	return [][]api.Member{setOf(1), setOf(1000), setOf(1, 1), setOf(1000, 1, 256), setOf(1, 2, 3, 4, 5, 6, 7), setOf(1000, 1000, 1000, 1000, 1000, 1000, 1000), named("abcdef"), named("\x00", "\x00\x00", "a", "ab", "b", "\xff")}
}

func wrongSets() [][]api.Member {
	return [][]api.Member{nil, {}, {{}}, setOf(0), setOf(-1), setOf(1001), setOf(1, 0), setOf(0, 1), setOf(1, 1001, 1), setOf(1, 1, 1, 1, 1, 1, 1, 1), named(""), named("", "a"), named("a", ""), named("abcdefg"), named("a", "a"), named("b", "a"), named("a", "c", "b"), slices.Repeat(setOf(1), 300)}
}

// wrongValues is texts that are no account's, each with the bytes of a trie's value.
func wrongValues() []string {
	l := []string{
		"\x00", "\x01\x05", "\x06\x01\x00\x00\x00\x00\x00", // one number
		"\x00\x00\x00", "\x01\x05\x00\x00", "\x01\x01\x01\x02\x01\x03", // three
		"\x00\x00\x01", "\x00\x00a", "\x00\x00\x09", // two, and something behind
		"\x01", "\x02\x01", "\x00\x01", "\x01\x05\x02\x01", "\x01\x05\x08", // bytes that end too early
		"\x01\x00\x00", "\x00\x01\x00", "\x02\x00\x05\x00", "\x00\x02\x00\x05", "\x01\x05\x03\x00\x00\x05", // written another way
		"\x08\x00\x00\x00\x00\x00\x00\x00\x05\x00",
		"\x09\x01\x00\x00\x00\x00\x00\x00\x00\x00\x00", "\x00\x09\x01\x00\x00\x00\x00\x00\x00\x00\x00", "\xff\x00", // more than eight bytes
		"\x08\x80\x00\x00\x00\x00\x00\x00\x00\x00", "\x00\x08\xff\xff\xff\xff\xff\xff\xff\xff", // above 2^63 - 1
		"bad", "\xff", "v", "5 0", "0", strings.Repeat("\x00", 32), strings.Repeat("v", 32),
	}
	for _, n := range wrongAmounts() {
		l = append(l, plainValue(n, 0), plainValue(0, n), plainValue(n, n))
	}
	return l
}

func TestNumbersAreThoseGiven(t *testing.T) {
	if api.XMove != 1 || api.XPut != 2 || api.XDel != 3 || api.XMembers != 4 || api.TSet != 4 {
		t.Error("the kinds, or the tag, of these tests are others")
	}
	if api.MaxName != 6 || api.MaxAmount != most || api.MaxKey != 8 || api.MaxValue != 32 || api.MaxMembers != 7 || api.MaxPower != 1000 || api.MaxTxs != 8 || api.MaxItems != 1024 {
		t.Error("the limits of these tests are others")
	}
	if api.ErrRange != 1 || api.ErrLong != 2 || api.ErrForm != 3 || api.ErrNone != 5 || api.ErrThere != 6 || api.ErrSet != 50 || api.ErrTx != 150 || api.ErrSeq != 160 || api.ErrFunds != 161 || api.ErrOwner != 162 {
		t.Error("the codes of these tests are others")
	}
}

// TestExample is the chapter's.
func TestExample(t *testing.T) {
	s, e := Genesis([]api.Account{of("a", 9, 0)}, setOf(1))
	if e != api.OK {
		t.Fatal(e)
	}
	x := move("a", 0, "b", 5)
	behind, e := Do(s, x)
	if e != api.OK {
		t.Fatal(e)
	}
	if a, e := Account(behind, "a"); a != of("a", 4, 1) || e != api.OK {
		t.Errorf("a is %+v, %d", a, e)
	}
	if b, e := Account(behind, "b"); b != of("b", 5, 0) || e != api.OK {
		t.Errorf("b is %+v, %d", b, e)
	}
	if again, e := Do(behind, x); again != nil || e != api.ErrSeq {
		t.Errorf("again: %d", e)
	}
	if a, e := Account(s, "a"); a != of("a", 9, 0) || e != api.OK {
		t.Errorf("ahead of it a is %+v, %d", a, e)
	}
}

// TestStateWrittenDown has the items, and the root, of a state and of what is behind a transaction of each kind.
func TestStateWrittenDown(t *testing.T) {
	sum := func(s string) string {
		b, e := hex.DecodeString(s)
		if e != nil {
			t.Fatal(e)
		}
		return string(b)
	}
	one, two := sum("310956bb5318d28e69422f96a786c0c27bcf1a9325cc9ab9efc500ecd47fdebb"), sum("52b54ed41e6ee9600f902e1d9ce502bea792032cc881ef65c7b7556f049d3158")
	x, e := Genesis([]api.Account{of("root", 0, 0), of("a", 300, most-1), of("abcdef", most, 7)}, setOf(1))
	for i, c := range []struct {
		x    api.Tx
		want []api.Item
	}{
		{api.Tx{}, []api.Item{{Key: "a:a", Value: "\x02\x01\x2c\x05\xff\xff\xff\xff\xff"}, {Key: "a:abcdef", Value: "\x06\x01\x00\x00\x00\x00\x00\x01\x07"}, {Key: "a:root", Value: "\x00\x00"}, {Key: "s", Value: one}}},
		{move("abcdef", 7, "b", 256), []api.Item{{Key: "a:a", Value: "\x02\x01\x2c\x05\xff\xff\xff\xff\xff"}, {Key: "a:abcdef", Value: "\x05\xff\xff\xff\xff\x00\x01\x08"}, {Key: "a:b", Value: "\x02\x01\x00\x00"}, {Key: "a:root", Value: "\x00\x00"}, {Key: "s", Value: one}}},
		{set("b", 0, "abcdef", "v"), []api.Item{{Key: "a:a", Value: "\x02\x01\x2c\x05\xff\xff\xff\xff\xff"}, {Key: "a:abcdef", Value: "\x05\xff\xff\xff\xff\x00\x01\x08"}, {Key: "a:b", Value: "\x02\x01\x00\x01\x01"}, {Key: "a:root", Value: "\x00\x00"}, {Key: "d:abcdef", Value: "v"}, {Key: "s", Value: one}}},
		{del("c", 0, "abcdef"), []api.Item{{Key: "a:a", Value: "\x02\x01\x2c\x05\xff\xff\xff\xff\xff"}, {Key: "a:abcdef", Value: "\x05\xff\xff\xff\xff\x00\x01\x08"}, {Key: "a:b", Value: "\x02\x01\x00\x01\x01"}, {Key: "a:c", Value: "\x00\x01\x01"}, {Key: "a:root", Value: "\x00\x00"}, {Key: "s", Value: one}}},
		{change("root", 0, setOf(1000, 7)...), []api.Item{{Key: "a:a", Value: "\x02\x01\x2c\x05\xff\xff\xff\xff\xff"}, {Key: "a:abcdef", Value: "\x05\xff\xff\xff\xff\x00\x01\x08"}, {Key: "a:b", Value: "\x02\x01\x00\x01\x01"}, {Key: "a:c", Value: "\x00\x01\x01"}, {Key: "a:root", Value: "\x00\x01\x01"}, {Key: "s", Value: two}}},
		{move("a", most-1, "a", 300), []api.Item{{Key: "a:a", Value: "\x02\x01\x2c\x06\x01\x00\x00\x00\x00\x00"}, {Key: "a:abcdef", Value: "\x05\xff\xff\xff\xff\x00\x01\x08"}, {Key: "a:b", Value: "\x02\x01\x00\x01\x01"}, {Key: "a:c", Value: "\x00\x01\x01"}, {Key: "a:root", Value: "\x00\x01\x01"}, {Key: "s", Value: two}}},
	} {
		if c.x.Kind != 0 {
			x, e = Do(x, c.x)
		}
		if e != api.OK {
			t.Fatalf("%d: %d", i, e)
		}
		if l := x.Items(); !slices.Equal(l, c.want) {
			t.Fatalf("%d: %q, want %q", i, l, c.want)
		}
	}
	if root := hex.EncodeToString([]byte(x.Root())); root != "da87e93c4f552d1046359caaa72bf9f50742df8333680d147dcebc5e7b24603d" {
		t.Errorf("the root is %s", root)
	}
}

func TestGenesisOfAccounts(t *testing.T) {
	var l []api.Account
	for n := range 8 {
		wantGenesis(t, l, setOf(1), 0)
		l = append(l, of("n"+strconv.Itoa(n), n, 7-n))
	}
	s := wantGenesis(t, l, setOf(1), 0)
	if len(s) != 9 {
		t.Errorf("%d items", len(s))
	}
	wantGenesis(t, []api.Account{}, setOf(1), 0)
	wantGenesis(t, []api.Account{of("a", 0, 0)}, setOf(1), 0) // an account that has nothing is there all the same
	for _, name := range names() {
		for _, n := range amounts() {
			wantGenesis(t, []api.Account{of(name, n, 0)}, setOf(1), 0)
			wantGenesis(t, []api.Account{of(name, 0, n)}, setOf(1), 0)
		}
		wantGenesis(t, []api.Account{of("x", 1, 1), of(name, most, most), of("y", most, most)}, setOf(1), 0)
	}
	for _, m := range sets() {
		wantGenesis(t, nil, m, 0)
		wantGenesis(t, l, m, 0)
	}
}

func TestGenesisRefuses(t *testing.T) {
	a := of("a", 1, 0)
	var wrong []api.Account
	for _, name := range wrongNames() {
		wrong = append(wrong, of(name, 1, 0))
	}
	for _, n := range wrongAmounts() {
		wrong = append(wrong, of("b", n, 0), of("b", 0, n), of("b", n, n), of("", n, n))
	}
	for _, w := range wrong {
		for _, m := range [][]api.Member{setOf(1), nil} { // a set that may not be is wrong behind all accounts
			wantGenesis(t, []api.Account{w}, m, 1)
			wantGenesis(t, []api.Account{a, w}, m, 1)
			wantGenesis(t, []api.Account{w, a, a}, m, 1)
			wantGenesis(t, []api.Account{a, a, w}, m, 6) // each one whole, in order
		}
		w.Name = "a"
		if !plainAmount(w.Amount) || !plainAmount(w.Seq) {
			wantGenesis(t, []api.Account{a, w}, setOf(1), 1) // it is there ahead, too
		}
	}
	for _, m := range wrongSets() {
		wantGenesis(t, nil, m, 50)
		wantGenesis(t, []api.Account{a}, m, 50)
		wantGenesis(t, []api.Account{a, of("b", 1, 1)}, m, 50)
	}
	for _, m := range [][]api.Member{setOf(1), nil} {
		wantGenesis(t, []api.Account{a, a}, m, 6)
		wantGenesis(t, []api.Account{a, of("a", 2, 3)}, m, 6)
		wantGenesis(t, []api.Account{of("b", 1, 0), a, of("a", 2, 0), of("", 1, 0)}, m, 6)
		wantGenesis(t, []api.Account{a, of("b", 1, 0), of("c", 1, 0), a}, m, 6)
	}
}

// TestGenesisOfTooMany has every list above the limit refused for that, whatever else is wrong.
func TestGenesisOfTooMany(t *testing.T) {
	for _, n := range []int{9, 10, 256, 256 + 1, 1024, 2000} {
		var l []api.Account
		for i := range n {
			l = append(l, of("n"+strconv.Itoa(i), 1, 0))
		}
		wantGenesis(t, l, setOf(1), 2)
		wantGenesis(t, l, nil, 2)
		wantGenesis(t, make([]api.Account, n), setOf(1), 2)
		wantGenesis(t, slices.Repeat([]api.Account{of("a", 1, 0)}, n), nil, 2)
		wantGenesis(t, append(make([]api.Account, n-1), l[0]), setOf(1), 2)
		wantGenesis(t, l[:8], setOf(1), 0)
	}
}

// TestEveryGenesis holds all short lists of a few accounts to the words.
func TestEveryGenesis(t *testing.T) {
	few := []api.Account{of("a", 1, 0), of("a", 2, 5), of("b", 0, 0), of("", 1, 0), of("a", -1, 0), of("b", 0, most+1), of("abcdefg", 1, 1)}
	codes := map[api.Code]int{}
	for n, count := 0, 1; n <= 4; n, count = n+1, count*len(few) {
		for at := range count {
			var l []api.Account
			for rest := at; len(l) < n; rest /= len(few) {
				l = append(l, few[rest%len(few)])
			}
			for _, m := range [][]api.Member{setOf(1), setOf(0)} {
				_, e := plainGenesis(l, m)
				wantGenesis(t, l, m, e)
				codes[e]++
			}
		}
	}
	if codes[0] != 1+3+4 || codes[50] != codes[0] || codes[1] == 0 || codes[6] == 0 {
		t.Errorf("of each code so many: %v", codes)
	}
}

// TestAccountsOfGenesis has Account tell what Genesis was given.
func TestAccountsOfGenesis(t *testing.T) {
	for _, name := range names() {
		for _, a := range []api.Account{of(name, 0, 0), of(name, 1, 0), of(name, 0, 1), of(name, most, most), of(name, 300, 65536)} {
			x, e := Genesis([]api.Account{of("other", 5, 5), a}, setOf(1))
			if e != api.OK {
				t.Fatal(e)
			}
			if b, e := Account(x, name); b != a || e != api.OK {
				t.Errorf("Account(%q) = %+v, %d, want %+v", name, b, e, a)
			}
			if b, e := Account(x, "nobody"); b != of("nobody", 0, 0) || e != api.OK {
				t.Errorf("of one who is not there: %+v, %d", b, e)
			}
		}
	}
}

func TestAccount(t *testing.T) {
	for _, s := range []items{{}, stateOf(), stateOf(of("a", 5, 2)), crowded(stateOf(of("a", 5, 2)), 1024)} {
		x := s.trie()
		for range 2 {
			for _, name := range append(names(), "nobody", "~0", "~1") {
				wantAccount(t, x, s, name)
			}
			for _, name := range wrongNames() {
				wantAccount(t, x, s, name)
				if a, e := Account(x, name); a != (api.Account{}) || e != api.ErrRange {
					t.Errorf("Account(%.20q) = %+v, %d", name, a, e)
				}
			}
		}
	}
	for _, name := range names() {
		for _, n := range amounts() {
			for _, a := range []api.Account{of(name, n, 0), of(name, 0, n), of(name, n, n)} {
				x := stateOf(a).trie()
				if b, e := Account(x, name); b != a || e != api.OK {
					t.Errorf("Account(%q) = %+v, %d, want %+v", name, b, e, a)
				}
			}
		}
	}
}

// TestItemsThatAreNoAccounts lays items beside accounts whose keys are like theirs.
func TestItemsThatAreNoAccounts(t *testing.T) {
	s := items{"a:": plainValue(1, 1), "a": plainValue(2, 1), "b": plainValue(3, 1), "d:b": plainValue(4, 1), "a;b": plainValue(5, 1), ":b": plainValue(6, 1), "a:bc": plainValue(7, 1), "A:b": plainValue(8, 1), "s": plainValue(9, 1), "a:d:k": plainValue(10, 1), "d:": "v", "d": "v", "k": "v", "d:kk": "v", "D:k": "v"}
	x := s.trie()
	for _, name := range append(append(names(), wrongNames()...), "bc", "d:k") {
		wantAccount(t, x, s, name)
		wantData(t, x, s, name)
	}
	for _, name := range []string{"a", "b", "s", "root", ":b"} {
		if a, e := Account(x, name); a != of(name, 0, 0) || e != api.OK {
			t.Errorf("Account(%q) = %+v, %d", name, a, e)
		}
	}
	if v, e := Data(x, "k"); v != "" || e != api.ErrNone {
		t.Errorf("Data of k = %q, %d", v, e)
	}
	behind := wantDone(t, s, set("b", 0, "k", "w"), 0)
	if behind["a:b"] != plainValue(0, 1) || behind["d:k"] != "w" || len(behind) != len(s)+2 {
		t.Errorf("behind it there is %q", behind.all())
	}
}

// TestValuesOfNoAccount has each one refused by Account, and by Do where it is an account's of the transaction, and by nothing else.
func TestValuesOfNoAccount(t *testing.T) {
	for _, v := range wrongValues() {
		s := stateOf(of("a", 9, 0), of("root", 9, 0), of("c", 0, 0)).with("a:b", v).with("d:k", "v")
		x := s.trie()
		if a, e := Account(x, "b"); a != (api.Account{}) || e != api.ErrForm {
			t.Errorf("Account of the value %q = %+v, %d", v, a, e)
		}
		for _, name := range []string{"a", "b", "c", "root"} {
			wantAccount(t, x, s, name)
		}
		for _, seq := range []int{0, 1, most} { // a Seq is looked at behind that
			wantDone(t, s, move("b", seq, "a", 1), 3)
			wantDone(t, s, move("b", seq, "b", 1), 3)
			wantDone(t, s, move("b", seq, "c", most), 3)
			wantDone(t, s, move("a", seq, "b", 1), 3)
			wantDone(t, s, move("a", seq, "b", most), 3)
			wantDone(t, s, set("b", seq, "k", "w"), 3)
			wantDone(t, s, del("b", seq, "k"), 3)
			wantDone(t, s, del("b", seq, "x"), 3)
			wantDone(t, s, change("b", seq, setOf(2)...), 3)
		}
		wantDone(t, s, move("a", 0, "c", 1), 0)
		wantDone(t, s, set("a", 0, "k", "w"), 0)
		wantDone(t, s, set("a", 0, "b", "w"), 0)
		wantDone(t, s, del("a", 0, "k"), 0)
		wantDone(t, s, change("root", 0, setOf(2)...), 0)
		wantDone(t, s.with("a:root", v), change("root", 0, setOf(2)...), 3)
		wantDone(t, s.with("a:a", v), move("a", 0, "b", 1), 3) // both are none
	}
}

// TestValuesOfNoBytes has no trie take one: such an account is not there.
func TestValuesOfNoBytes(t *testing.T) {
	s := stateOf(of("a", 9, 0))
	x := s.trie()
	if y, e := x.Put("a:b", ""); y != nil || e != api.ErrLong {
		t.Errorf("a trie with it: %d", e)
	}
	wantAccount(t, x, s, "b")
	if b, e := Account(x, "b"); b != of("b", 0, 0) || e != api.OK {
		t.Errorf("Account = %+v, %d", b, e)
	}
	s = s.with("a:b", "\x00\x00") // the least that one has
	if b, e := Account(s.trie(), "b"); b != of("b", 0, 0) || e != api.OK {
		t.Errorf("Account = %+v, %d", b, e)
	}
	wantDone(t, s, set("b", 0, "k", "v"), 0)
}

// TestEveryShortValue holds Account to the words over all values of up to 6 bytes of four kinds.
func TestEveryShortValue(t *testing.T) {
	bytes, found := "\x00\x01\x02\xff", 0
	for size, texts := 1, 4; size <= 6; size, texts = size+1, texts*4 {
		for text := range texts {
			b := make([]byte, size)
			for i := range b {
				b[i] = bytes[text>>(2*i)&3]
			}
			s := items{"a:n": string(b)}
			wantAccount(t, s.trie(), s, "n")
			if _, ok := plainAccount(s, "n"); ok {
				found++
			}
		}
	}
	if want := 1 + 2*3 + 3*3 + 2*12 + 2*3*12 + 12*12; found != want { // a number takes 1, 2 or 3 bytes: 1, 3 and 12 of these
		t.Errorf("%d accounts among them, want %d", found, want)
	}
}

func TestData(t *testing.T) {
	keys := []string{"k", "ab", "abcde", "abcdef", "a:", "d:", "s", "root", "\x00", "\xff\xff\xff\xff\xff\xff", "\u00e9\u00e9\u00e9"}
	wrong := []string{"", "abcdefg", "abcdefgh", "abcdefghi", "\u00e9\u00e9\u00e9\u00e9", strings.Repeat("k", 256+1), strings.Repeat("k", 1<<16)}
	s := stateOf(of("k", 5, 2))
	for i, key := range keys {
		x := s.trie()
		for _, other := range append(keys, wrong...) {
			wantData(t, x, s, other)
		}
		if v, e := Data(x, key); v != "" || e != api.ErrNone {
			t.Errorf("Data(%q) = %q, %d", key, v, e)
		}
		s = s.with("d:"+key, strings.Repeat("v", 3*i+1))
		if v, e := Data(s.trie(), key); v != strings.Repeat("v", 3*i+1) || e != api.OK {
			t.Errorf("Data(%q) = %q, %d", key, v, e)
		}
	}
	s = s.with("d:", "v").with("d:k", strings.Repeat("\xff", 32))
	x := s.trie()
	for range 2 {
		for _, key := range append(keys, wrong...) {
			wantData(t, x, s, key)
		}
		for _, key := range wrong {
			if v, e := Data(x, key); v != "" || e != api.ErrRange {
				t.Errorf("Data(%.20q) = %q, %d", key, v, e)
			}
		}
	}
	if v, e := Data(trie.New(), "k"); v != "" || e != api.ErrNone {
		t.Errorf("Data of no items = %q, %d", v, e)
	}
}

func TestMoves(t *testing.T) {
	for _, c := range []struct {
		from, to int // -1 of an account that is not there
		amount   int
		code     api.Code
	}{
		{9, 0, 1, 0}, {9, 0, 5, 0}, {9, 0, 8, 0}, {9, 0, 9, 0}, // up to all
		{9, 0, 10, 161}, {9, 0, 256 + 9, 161}, {9, 0, most, 161}, {0, 0, 1, 161}, {0, 9, 1, 161}, {-1, 9, 1, 161}, {-1, -1, most, 161},
		{9, -1, 1, 0}, {9, -1, 9, 0}, {9, -1, 10, 161},
		{most, 0, most, 0}, {most, -1, most, 0}, {most - 1, 0, most, 161}, {most - 1, 0, most - 1, 0}, {most, 0, 1, 0},
		{9, most, 1, 1}, {9, most - 1, 1, 0}, {9, most - 1, 2, 1}, {9, most - 9, 9, 0}, {9, most - 8, 9, 1}, {9, most - 9, 8, 0},
		{most, most, most, 1}, {most, most, 1, 1}, {most, 1, most, 1}, {most, 1, most - 1, 0}, {most - 1, 1, most - 1, 0},
		{9, most, 10, 161}, {0, most, 1, 161}, {-1, most, most, 161}, // too little, and too much there
	} {
		s := stateOf(of("c", 3, 3), of("root", 1, 0))
		want := s
		if c.from >= 0 {
			s = s.with("a:a", plainValue(c.from, 4))
		}
		if c.to >= 0 {
			s = s.with("a:b", plainValue(c.to, 2))
		}
		seq, next := 0, 0
		if c.from >= 0 {
			seq = 4
		}
		if c.to >= 0 {
			next = 2
		}
		if want = s; c.code == 0 {
			want = s.with("a:a", plainValue(c.from-c.amount, seq+1)).with("a:b", plainValue(max(c.to, 0)+c.amount, next))
		}
		if behind := wantDone(t, s, move("a", seq, "b", c.amount), c.code); !slices.Equal(behind.all(), want.all()) {
			t.Errorf("%+v: %q, want %q", c, behind.all(), want.all())
		}
	}
}

func TestMovesToOneself(t *testing.T) {
	for _, c := range []struct {
		has, amount int
		code        api.Code
	}{
		{9, 1, 0}, {9, 8, 0}, {9, 9, 0}, {9, 10, 161}, {0, 1, 161}, {most, most, 0}, {most, 1, 0}, {most - 1, most, 161}, {most/2 + 1, most/2 + 1, 0},
	} {
		s := stateOf(of("a", c.has, 7), of("b", 5, 0))
		want := s
		if c.code == 0 {
			want = s.with("a:a", plainValue(c.has, 8))
		}
		if behind := wantDone(t, s, move("a", 7, "a", c.amount), c.code); !slices.Equal(behind.all(), want.all()) {
			t.Errorf("%+v: %q, want %q", c, behind.all(), want.all())
		}
	}
	wantDone(t, stateOf(), move("a", 0, "a", 1), 161)
	wantDone(t, items{}, move("a", 0, "a", 1), 161)
}

func TestPutsAndDels(t *testing.T) {
	s := stateOf(of("a", 9, 0), of("b", 0, 3)).with("d:old", "was").with("d:a", "x")
	for _, c := range []struct {
		x    api.Tx
		code api.Code
		want items // of what differs, "" of what goes
	}{
		{set("a", 0, "k", "v"), 0, items{"d:k": "v", "a:a": plainValue(9, 1)}},
		{set("b", 3, "k", "v"), 0, items{"d:k": "v", "a:b": plainValue(0, 4)}},
		{set("c", 0, "k", "v"), 0, items{"d:k": "v", "a:c": plainValue(0, 1)}},
		{set("root", 0, "k", "v"), 0, items{"d:k": "v", "a:root": plainValue(0, 1)}},
		{set("a", 0, "old", "new"), 0, items{"d:old": "new", "a:a": plainValue(9, 1)}},
		{set("a", 0, "old", "was"), 0, items{"a:a": plainValue(9, 1)}},
		{set("c", 0, "old", strings.Repeat("v", 32)), 0, items{"d:old": strings.Repeat("v", 32), "a:c": plainValue(0, 1)}},
		{set("a", 0, "abcdef", "\x00"), 0, items{"d:abcdef": "\x00", "a:a": plainValue(9, 1)}},
		{set("a", 0, "s", "v"), 0, items{"d:s": "v", "a:a": plainValue(9, 1)}},
		{set("a", 0, "a:b", "v"), 0, items{"d:a:b": "v", "a:a": plainValue(9, 1)}},
		{del("a", 0, "old"), 0, items{"d:old": "", "a:a": plainValue(9, 1)}},
		{del("a", 0, "a"), 0, items{"d:a": "", "a:a": plainValue(9, 1)}},
		{del("b", 3, "old"), 0, items{"d:old": "", "a:b": plainValue(0, 4)}},
		{del("c", 0, "old"), 0, items{"d:old": "", "a:c": plainValue(0, 1)}},
		{del("a", 0, "k"), 5, nil},
		{del("a", 0, "b"), 5, nil},
		{del("a", 0, "ol"), 5, nil},
		{del("a", 0, "olds"), 5, nil},
		{del("a", 0, "s"), 5, nil},
		{del("a", 0, "a:a"), 5, nil},
		{del("c", 0, "k"), 5, nil},
		{del("a", 0, "abcdef"), 5, nil},
	} {
		want := s
		for key, value := range c.want {
			if want = want.with(key, value); value == "" {
				want = want.without(key)
			}
		}
		if behind := wantDone(t, s, c.x, c.code); !slices.Equal(behind.all(), want.all()) {
			t.Errorf("%+v: %q, want %q", c.x, behind.all(), want.all())
		}
	}
	gone := wantDone(t, s, del("a", 0, "old"), 0)
	wantDone(t, gone, del("a", 1, "old"), 5)
	wantDone(t, gone, del("b", 3, "old"), 5)
	back := wantDone(t, gone, set("a", 1, "old", "again"), 0)
	if back["d:old"] != "again" || back["a:a"] != plainValue(9, 2) {
		t.Errorf("put again: %q", back.all())
	}
}

func TestChangesOfMembers(t *testing.T) {
	for _, s := range []items{stateOf(of("root", 0, 0), of("a", 0, 0)), stateOf(), {}, stateOf(of("root", 5, 0)).without("s"), stateOf().with("s", "x")} {
		for _, m := range sets() {
			behind := wantDone(t, s, change("root", 0, m...), 0)
			if behind["s"] != plainSum(m) {
				t.Errorf("who validates is %q", behind["s"])
			}
			for _, name := range []string{"a", "b", "roo", "Root", "ROOT", "root ", "roots", " root", "root\x00", "toor", "s", "\x00root"} {
				wantDone(t, s, change(name, 0, m...), 162)
			}
		}
	}
	s := stateOf(of("root", 5, 9))
	wantDone(t, s, change("root", 8, setOf(2)...), 160)
	one := wantDone(t, s, change("root", 9, setOf(2)...), 0)
	two := wantDone(t, one, change("root", 10, setOf(2)...), 0) // they validate already
	if one["s"] != two["s"] || two["a:root"] != plainValue(5, 11) || len(two) != 2 {
		t.Errorf("behind both: %q", two.all())
	}
	three := wantDone(t, two, change("root", 11, setOf(1)...), 0)
	if three["s"] != s["s"] {
		t.Errorf("back again: %q", three.all())
	}
}

// TestSeqs tries every number around that of the account.
func TestSeqs(t *testing.T) {
	for _, has := range amounts() {
		s := stateOf(of("root", 9, has)).with("d:k", "v")
		if has == 0 {
			s = s.without("a:root") // not there: it has 0, too
			s = s.with("a:other", plainValue(9, 9))
		}
		for _, seq := range append(amounts(), has-1, has+1, has+256, 9) {
			if !plainAmount(seq) {
				continue
			}
			code := api.Code(160)
			if seq == has && seq != most {
				code = 0
			}
			wantDone(t, s, set("root", seq, "k", "w"), code)
			wantDone(t, s, del("root", seq, "k"), code)
			wantDone(t, s, change("root", seq, setOf(3)...), code)
			if has > 0 {
				wantDone(t, s, move("root", seq, "b", 9), code)
				wantDone(t, s, move("root", seq, "root", 9), code)
			}
			if code == 160 { // out of turn, whatever else is wrong
				wantDone(t, s, move("root", seq, "b", 10), 160)
				wantDone(t, s, move("root", seq, "root", 10), 160)
				wantDone(t, s.with("a:b", plainValue(most, 0)), move("root", seq, "b", 9), 160)
				wantDone(t, s, del("root", seq, "x"), 160)
			}
		}
		for _, seq := range wrongAmounts() {
			wantDone(t, s, set("root", seq, "k", "w"), 150)
		}
	}
	s := stateOf(of("a", 1, most-1)) // the last one it has
	s = wantDone(t, s, set("a", most-1, "k", "v"), 0)
	wantDone(t, s, set("a", most-1, "k", "v"), 160)
	wantDone(t, s, set("a", most, "k", "v"), 160)
	if s["a:a"] != plainValue(1, most) {
		t.Errorf("behind the last one: %q", s["a:a"])
	}
	s = wantDone(t, stateOf(of("a", 0, most), of("b", 1, 0)), move("b", 0, "a", 1), 0) // To's Seq does not matter
	if s["a:a"] != plainValue(1, most) {
		t.Errorf("behind a move there: %q", s["a:a"])
	}
}

// wrongTxs is transactions that may not be, and would be done, or refused for something else, if they could.
func wrongTxs() []api.Tx {
	l := []api.Tx{{}, {From: "a"}, {Kind: 5, From: "a"}, {Kind: -1, From: "a"}, {Kind: 256 + 2, From: "a", Key: "k", Value: "v"}}
	for _, name := range wrongNames() {
		l = append(l, move(name, 0, "b", 1), move("a", 0, name, 1), set(name, 0, "k", "v"), del(name, 0, "k"), change(name, 0, setOf(1)...))
	}
	for _, n := range wrongAmounts() {
		l = append(l, move("a", n, "b", 1), set("a", n, "k", "v"), del("a", n, "k"), change("root", n, setOf(1)...), move("a", 0, "b", n), move("a", 0, "a", n))
	}
	for _, key := range []string{"", "abcdefg", "abcdefgh"} {
		l = append(l, set("a", 0, key, "v"), del("a", 0, key))
	}
	for _, value := range []string{"", strings.Repeat("v", 33)} {
		l = append(l, set("a", 0, "k", value))
	}
	for _, m := range wrongSets() {
		l = append(l, change("root", 0, m...), change("a", 0, m...))
	}
	for _, c := range []struct{ x, others api.Tx }{
		{move("a", 0, "b", 1), api.Tx{Key: "k", Value: "v", Members: setOf(1)}},
		{set("a", 0, "k", "v"), api.Tx{To: "b", Amount: 1, Members: setOf(1)}},
		{del("a", 0, "k"), api.Tx{To: "b", Amount: 1, Value: "v", Members: setOf(1)}},
		{change("root", 0, setOf(1)...), api.Tx{To: "b", Amount: 1, Key: "k", Value: "v"}},
	} {
		l = append(l, withOne(c.x, c.others)...)
	}
	return append(l, move("a", 0, "b", 0), move("a", 0, "a", 0), move("a", 0, "", 1))
}

// withOne is x with each of the fields that others has, one at a time; x has none of these.
func withOne(x, others api.Tx) []api.Tx {
	to, amount, key, value, members := x, x, x, x, x
	to.To, amount.Amount, key.Key, value.Value, members.Members = others.To, others.Amount, others.Key, others.Value, others.Members
	var l []api.Tx
	if others.To != "" {
		l = append(l, to, amount)
	}
	if others.Key != "" {
		l = append(l, key)
	}
	if others.Value != "" {
		l = append(l, value)
	}
	if len(others.Members) > 0 {
		l = append(l, members)
	}
	return l
}

func TestTransactionsThatMayNotBe(t *testing.T) {
	for _, x := range wrongTxs() {
		wantDone(t, stateOf(of("a", 9, 0), of("root", 9, 0)).with("d:k", "v"), x, 150)
		wantDone(t, stateOf(of("a", 9, 5)).with("a:b", "bad"), x, 150)
		wantDone(t, stateOf().with("a:a", "bad").with("a:root", "bad"), x, 150)
		wantDone(t, items{}, x, 150)
	}
	for _, x := range wrongTxs()[:20] {
		wantDone(t, crowded(stateOf(), 1024), x, 150)
	}
}

// TestErrorsInOrder lays all causes together, and takes them away one by one, in the order of the words.
func TestErrorsInOrder(t *testing.T) {
	full := crowded(stateOf(of("a", 5, 3), of("b", most, 0), of("root", 5, 3)), 1024)
	move2, del2, change2, set2 := move("a", 2, "b", 6), del("a", 2, "x"), change("a", 2, setOf(2)...), set("a", 2, "x", "v")
	for i, x := range []api.Tx{move2, del2, change2, set2} {
		wrong := x
		if wrong.Value == "" {
			wrong.Value = "v"
		} else {
			wrong.To = "b"
		}
		bad := full.with("a:a", "bad").with("a:b", "bad")
		wantDone(t, bad, wrong, 150)
		wantDone(t, full, wrong, 150)
		wantDone(t, bad, x, 3)
		wantDone(t, full, x, 160)
		if x.Kind == 1 {
			wantDone(t, full.with("a:a", "bad"), x, 3)
			wantDone(t, full.with("a:b", "bad"), x, 3)
			x.To = "new"
			wantDone(t, full.with("a:a", "bad"), x, 3)
			wantDone(t, full, x, 160)
			x.To = "b"
		} else {
			wantDone(t, full.with("a:b", "bad"), x, 160)
		}
		x.Seq = 3
		wantDone(t, full, x, []api.Code{161, 5, 162, 2}[i])
		x.From, x.Seq = "nobody", 0 // for whom there is no room, either
		wantDone(t, full, x, []api.Code{161, 5, 162, 2}[i])
	}
	wantDone(t, full, move("a", 3, "b", 5), 1)
	wantDone(t, full, move("a", 3, "new", 6), 161)
	wantDone(t, full, move("a", 3, "new", 5), 2)
	wantDone(t, full, move("a", 3, "root", 5), 0)
	wantDone(t, full, change("root", 3, setOf(2)...), 0)
	wantDone(t, full.without("s").with("d:one", "v"), change("a", 3, setOf(2)...), 162)
	wantDone(t, full.without("s").with("d:one", "v"), change("root", 3, setOf(2)...), 2)
}

// TestErrorsOfMovesInOrder tries every choice of what a move can have wrong.
func TestErrorsOfMovesInOrder(t *testing.T) {
	for choice := range 1 << 7 {
		has := func(i int) bool { return choice>>i&1 == 1 }
		s, x := stateOf(of("a", 5, 3), of("b", 0, 0)), move("a", 3, "b", 5)
		code := api.Code(0)
		cause := func(i int, e api.Code, lay func()) {
			if has(i) {
				lay()
			}
			if has(i) && code == 0 {
				code = e
			}
		}
		cause(0, 150, func() { x.Key = "k" })
		cause(1, 3, func() { s = s.with("a:a", "bad") })
		cause(2, 3, func() { s = s.with("a:b", "\x00") })
		cause(3, 160, func() { x.Seq++ })
		cause(4, 161, func() { x.Amount++ })
		if !has(2) {
			cause(5, 1, func() { s = s.with("a:b", plainValue(most-4, 0)) })
		}
		if has(6) {
			if has(2) || has(5) {
				continue // To is there: it needs no room
			}
			cause(6, 2, func() { s = crowded(s.without("a:b"), 1024) })
		}
		wantDone(t, s, x, code)
	}
}

// TestNoRoom has states of as many items as a trie takes, and of a few less.
func TestNoRoom(t *testing.T) {
	s := stateOf(of("a", 9, 0), of("root", 9, 0), of("b", 1, 0)).with("d:k", "v")
	for left := range 4 {
		n := 1024 - left
		code := func(needs int) api.Code {
			if needs > left {
				return 2
			}
			return 0
		}
		full := crowded(s, n)
		if len(full) != n {
			t.Fatalf("%d items", len(full))
		}
		wantDone(t, full, move("a", 0, "b", 1), code(0))
		wantDone(t, full, move("a", 0, "a", 1), code(0))
		wantDone(t, full, move("a", 0, "new", 1), code(1))
		wantDone(t, full, move("a", 0, "new", 9), code(1)) // an account that has nothing left stays
		wantDone(t, full, set("a", 0, "k", "w"), code(0))
		wantDone(t, full, set("a", 0, "new", "w"), code(1))
		wantDone(t, full, set("new", 0, "k", "w"), code(1))
		wantDone(t, full, set("new", 0, "new", "w"), code(2))
		wantDone(t, full, del("a", 0, "k"), code(0))
		wantDone(t, full, del("new", 0, "k"), code(0)) // what goes makes room
		wantDone(t, full, change("root", 0, setOf(2)...), code(0))
		wantDone(t, crowded(s.without("a:root"), n), change("root", 0, setOf(2)...), code(1))
		wantDone(t, crowded(s.without("s"), n), change("root", 0, setOf(2)...), code(1))
		wantDone(t, crowded(s.without("s").without("a:root"), n), change("root", 0, setOf(2)...), code(2))
		wantAll(t, full, []api.Tx{set("new", 0, "new", "w"), set("a", 0, "one", "w"), set("a", 1, "two", "w"), set("a", 1, "three", "w"), set("b", 0, "four", "w"), del("new", 0, "k"), move("a", 1, "c", 1), set("root", 0, "k", "w")})
	}
}

// few is a state and transactions, each of which some order of the others lets be done, or not.
func few() (items, []api.Tx) {
	s := stateOf(of("a", 9, 0), of("root", 2, 0), of("c", most-2, 0)).with("d:k", "v")
	return s, []api.Tx{
		move("a", 0, "b", 5), move("a", 1, "b", 5), move("b", 0, "a", 5), move("a", 0, "c", 3), move("a", 1, "a", 4), move("b", 1, "root", 1),
		set("a", 0, "k", "w"), set("b", 0, "j", "x"), del("b", 0, "k"), del("a", 1, "j"),
		change("root", 0, setOf(2)...), change("root", 1, setOf(1, 3)...), change("a", 0, setOf(4)...),
	}
}

func TestEveryShortList(t *testing.T) {
	s, l := few()
	codes := map[api.Code]int{}
	for _, x := range l {
		wantAny(t, s, x)
		for _, y := range l {
			wantAll(t, s, []api.Tx{x, y})
			for _, z := range l {
				list := []api.Tx{x, y, z}
				wantAll(t, s, list)
				c, _ := plainAll(s, list)
				for _, r := range c.receipts {
					codes[r.Code]++
				}
				if len(list) == 3 && plainWhole(c.state) != plainWhole(s) {
					t.Errorf("behind %+v all have %d, ahead of them %d", list, plainWhole(c.state), plainWhole(s))
				}
			}
		}
	}
	for _, e := range []api.Code{0, 1, 5, 160, 161, 162} {
		if codes[e] == 0 {
			t.Errorf("no receipt of %d", e)
		}
	}
}

// TestListsOfEachLength has All of no transaction, of one, and so on, up to more than may be.
func TestListsOfEachLength(t *testing.T) {
	s := stateOf(of("a", 100, 0))
	var l []api.Tx
	for n := range 9 {
		if behind := wantAll(t, s, l); n > 0 && (behind["d:k"] != strconv.Itoa(n-1) || behind["a:a"] != plainValue(100, n)) {
			t.Errorf("behind %d: %q", n, behind.all())
		}
		l = append(l, set("a", n, "k", strconv.Itoa(n)))
	}
	wantAll(t, s, []api.Tx{})
	for _, n := range []int{9, 10, 16, 256, 256 + 1, 1024} {
		for _, l := range [][]api.Tx{slices.Repeat(l[:1], n), make([]api.Tx, n), append(slices.Repeat(l[:1], n-1), api.Tx{}), append(make([]api.Tx, n-1), l[0]), slices.Repeat([]api.Tx{set("a", 9, "k", "v")}, n)} {
			if state, receipts, next, e := All(s.trie(), l); state != nil || len(receipts) != 0 || len(next) != 0 || e != api.ErrLong {
				t.Errorf("All of %d: %v, %v, %d", n, receipts, next, e)
			}
			wantAll(t, s, l)
		}
	}
	if state, receipts, next, e := All(s.trie(), nil); state == nil || len(receipts) != 0 || len(next) != 0 || e != api.OK {
		t.Errorf("All of none: %v, %v, %d", receipts, next, e)
	}
}

// TestListsWithOneThatMayNotBe puts one at each place: nothing is done, whatever the others are.
func TestListsWithOneThatMayNotBe(t *testing.T) {
	s := stateOf(of("a", 9, 0), of("root", 9, 0)).with("d:k", "v")
	for _, x := range wrongTxs() {
		for _, n := range []int{1, 2, 3, 8} {
			for _, at := range []int{0, n / 2, n - 1} {
				l := slices.Repeat([]api.Tx{change("root", 0, setOf(2)...)}, n)
				l[at] = x
				if state, receipts, next, e := All(s.trie(), l); state != nil || len(receipts) != 0 || len(next) != 0 || e != api.ErrTx {
					t.Errorf("All(%+v): %v, %v, %d", l, receipts, next, e)
				}
			}
		}
	}
	for n := 1; n <= 8; n++ {
		for at := range n {
			l := []api.Tx{move("a", 0, "b", 5), move("a", 0, "b", 5), change("root", 0, setOf(2)...), del("b", 0, "x"), set("b", 0, "x", "y"), change("root", 1, setOf(3)...), move("a", 1, "a", 9), move("a", 1, "b", 4)}[:n]
			wantAll(t, s, l)
			l[at] = api.Tx{Kind: 2, From: "a", Key: "k"}
			wantAll(t, s, l)
			if _, _, _, e := All(s.trie(), l); e != api.ErrTx {
				t.Errorf("one of %d, at %d: %d", n, at, e)
			}
		}
	}
}

// TestReceipts has a list of transactions of each kind with an error, or two, between those that are done.
func TestReceipts(t *testing.T) {
	s := stateOf(of("a", 9, 0), of("b", 0, 5), of("full", most, 0)).with("a:bad", "bad")
	l := []api.Tx{
		move("a", 0, "b", 9), move("a", 1, "b", 1), move("b", 5, "full", 1), move("b", 5, "bad", 1),
		set("bad", 0, "k", "v"), del("b", 5, "k"), set("b", 5, "k", "v"), del("a", 1, "k"),
	}
	want := []api.Receipt{{From: "a"}, {Code: api.ErrFunds, From: "a", Seq: 1}, {Code: api.ErrRange, From: "b", Seq: 5}, {Code: api.ErrForm, From: "b", Seq: 5}, {Code: api.ErrForm, From: "bad"}, {Code: api.ErrNone, From: "b", Seq: 5}, {From: "b", Seq: 5}, {From: "a", Seq: 1}}
	_, receipts, next, e := All(s.trie(), l)
	if !slices.Equal(receipts, want) || len(next) != 0 || e != api.OK {
		t.Errorf("%+v, %v, %d", receipts, next, e)
	}
	end := wantAll(t, s, l)
	if end["a:a"] != plainValue(0, 2) || end["a:b"] != plainValue(9, 6) || end.has("d:k") || end["a:bad"] != "bad" {
		t.Errorf("behind all: %q", end.all())
	}
	l = []api.Tx{set("a", 3, "k", "v"), set("a", most, "k", "v"), del("z", 7, "k"), change("b", 5, setOf(1)...), change("root", 1, setOf(1)...)}
	want = []api.Receipt{{Code: 160, From: "a", Seq: 3}, {Code: 160, From: "a", Seq: most}, {Code: 160, From: "z", Seq: 7}, {Code: 162, From: "b", Seq: 5}, {Code: 160, From: "root", Seq: 1}}
	ahead := s.trie()
	state, receipts, next, e := All(ahead, l)
	if !slices.Equal(receipts, want) || len(next) != 0 || e != api.OK || state.Root() != ahead.Root() {
		t.Errorf("%+v, %v, %d", receipts, next, e)
	}
	wantAll(t, s, l)
	wantAll(t, crowded(s, 1024), []api.Tx{move("a", 0, "new", 1), move("a", 0, "b", 1), set("new", 0, "k", "v")})
	if _, receipts, _, _ := All(crowded(s, 1024).trie(), []api.Tx{move("a", 0, "new", 1)}); !slices.Equal(receipts, []api.Receipt{{Code: api.ErrLong, From: "a"}}) {
		t.Errorf("without room: %+v", receipts)
	}
}

// TestNext has lists of no change of members, of one, of two, and of such as are refused.
func TestNext(t *testing.T) {
	one, two, three := setOf(2), setOf(3, 1), named("x", "y", "z")
	s := stateOf(of("a", 9, 0), of("root", 9, 0))
	other := set("a", 0, "k", "v")
	for _, c := range []struct {
		l    []api.Tx
		next []api.Member
		sum  []api.Member
	}{
		{nil, nil, setOf(1)},
		{[]api.Tx{other}, nil, setOf(1)},
		{[]api.Tx{change("root", 0, one...)}, one, one},
		{[]api.Tx{other, change("root", 0, one...)}, one, one},
		{[]api.Tx{change("root", 0, one...), other}, one, one},
		{[]api.Tx{change("root", 0, one...), change("root", 1, two...)}, two, two},
		{[]api.Tx{change("root", 0, two...), other, change("root", 1, one...), change("root", 2, three...)}, three, three},
		{[]api.Tx{change("root", 0, one...), change("root", 0, two...)}, one, one},
		{[]api.Tx{change("root", 1, one...), change("root", 0, two...)}, two, two},
		{[]api.Tx{change("a", 0, one...)}, nil, setOf(1)},
		{[]api.Tx{change("a", 0, one...), change("root", 0, two...)}, two, two},
		{[]api.Tx{change("root", 0, two...), change("a", 0, one...)}, two, two},
		{[]api.Tx{change("root", 1, one...)}, nil, setOf(1)},
		{[]api.Tx{change("root", 0, two...), change("root", 2, one...), move("root", 1, "a", 10)}, two, two},
		{[]api.Tx{change("root", 0, setOf(1)...)}, setOf(1), setOf(1)}, // those who validate already
		{[]api.Tx{change("root", 0, one...), change("root", 1, setOf(1)...)}, setOf(1), setOf(1)},
	} {
		state, receipts, next, e := All(s.trie(), c.l)
		if !slices.Equal(next, c.next) || len(receipts) != len(c.l) || e != api.OK {
			t.Errorf("All(%+v): %+v, %v, %d, want %v", c.l, receipts, next, e, c.next)
		}
		if v, e := state.Get("s"); v != plainSum(c.sum) || e != api.OK {
			t.Errorf("behind %+v who validates is %q, %d", c.l, v, e)
		}
		wantAll(t, s, c.l)
	}
	for _, m := range sets() {
		if _, _, next, _ := All(s.trie(), []api.Tx{change("root", 0, m...)}); !slices.Equal(next, m) {
			t.Errorf("next is %v, want %v", next, m)
		}
	}
}

// TestLongRuns does many transactions, one behind the other, and what was done once more; numbers come from a short rule.
func TestLongRuns(t *testing.T) {
	s := stateOf(of("a", 1000, 0), of("b", 50, 0), of("root", 0, 0), of("rich", most-20, 0))
	whole, done, n := plainWhole(s), 0, uint32(1)
	pick := func(below int) int {
		n = n*1664525 + 1013904223
		return int(n>>8) % below
	}
	who := []string{"a", "b", "c", "root", "rich"}
	x := s.trie()
	for range 1500 {
		from := who[pick(len(who))]
		a, _ := plainAccount(s, from)
		seq := a.Seq + max(pick(8)-6, 0)
		all := []api.Tx{move(from, seq, who[pick(len(who))], 1+pick(60)), set(from, seq, string(rune('k'+pick(5))), strconv.Itoa(pick(99))), del(from, seq, string(rune('k'+pick(5)))), change(from, seq, setOf(1+pick(9))...)}
		y := all[pick(6)%4]
		want, wantE := plainDo(s, y)
		behind, e := Do(x, y)
		if e != wantE {
			t.Fatalf("Do(%+v) is %d, want %d, on %q", y, e, wantE, s.all())
		}
		if e != api.OK {
			continue
		}
		wantState(t, "behind it", behind, want)
		wantState(t, "ahead of it", x, s)
		if again, e := Do(behind, y); again != nil || e != api.ErrSeq {
			t.Fatalf("again: %d", e)
		}
		if x, s = behind, want; plainWhole(s) != whole {
			t.Fatalf("all have %d, want %d", plainWhole(s), whole)
		}
		done++
	}
	if done < 500 {
		t.Errorf("only %d were done", done)
	}
}

// TestStatesOfAStore does transactions on a state that was saved and loaded.
func TestStatesOfAStore(t *testing.T) {
	s, l := few()
	texts := store.New()
	x, e := trie.Load(texts, s.trie().Save(texts))
	if e != api.OK {
		t.Fatal(e)
	}
	before := len(texts.Sums())
	for at := range len(l) - 7 {
		want, wantE := plainAll(s, l[at:at+8])
		state, receipts, next, e := All(x, l[at:at+8])
		wantCome(t, l[at:at+8], want, wantE, state, receipts, next, e)
		wantState(t, "the loaded one", x, s)
		root := state.Save(texts)
		again, e := trie.Load(texts, root)
		if e != api.OK {
			t.Fatal(e)
		}
		wantState(t, "what was saved", again, want.state)
	}
	if len(texts.Sums()) <= before {
		t.Error("nothing was saved")
	}
}

// TestTheSameCallTwice asks each call again behind calls of other things.
func TestTheSameCallTwice(t *testing.T) {
	s, l := few()
	for range 2 {
		wantGenesis(t, []api.Account{of("a", 9, 0)}, setOf(1), 0)
		wantGenesis(t, nil, nil, 50)
		for _, x := range l {
			wantAny(t, s, x)
			wantDone(t, s, api.Tx{Kind: x.Kind}, 150)
		}
		wantAll(t, s, l[:8])
		wantAll(t, s, l)
		wantAccount(t, s.trie(), s, "a")
		wantData(t, s.trie(), s, "k")
	}
	x := s.trie()
	first, _ := Do(x, l[0])
	for range 3 {
		again, e := Do(x, l[0])
		if e != api.OK || again.Root() != first.Root() {
			t.Errorf("another state: %d", e)
		}
		other, _ := Do(x, l[6])
		if other.Root() == first.Root() {
			t.Error("two unlike transactions come to the same")
		}
		Do(first, l[1])
	}
	wantState(t, "at the end", x, s)
}

// TestArgumentsStayAsTheyWere lays lists into longer ones, and looks at these.
func TestArgumentsStayAsTheyWere(t *testing.T) {
	members := append(setOf(3, 1), api.Member{Name: "spare", Power: -1})
	accounts := []api.Account{of("a", 9, 0), of("root", 0, 0), of("", -1, -1), of("a", 5, 5)}
	room := []api.Tx{move("a", 0, "b", 5), change("root", 0, members[:2]...), del("a", 1, "k"), {Kind: 9, From: "spare"}, {}}
	bare := move("a", 0, "b", 1)
	bare.Members = members[:0] // no member, whatever lies behind
	s := stateOf(of("a", 9, 0), of("root", 0, 0))
	for range 2 {
		wantGenesis(t, accounts[:2], members[:2], 0)
		wantGenesis(t, accounts[:0], members[:2], 0)
		wantGenesis(t, accounts[:2], members, 50)
		wantGenesis(t, accounts, members[:2], 1)
		wantGenesis(t, accounts[:2], members[:0], 50)
		wantAll(t, s, room[:3])
		wantAll(t, s, room[:0])
		wantAll(t, s, room)
		wantDone(t, s, bare, 0)
		wantDone(t, s, room[1], 0)
		wantDone(t, s, change("root", 0, members...), 150)
	}
	if !slices.Equal(members, append(setOf(3, 1), api.Member{Name: "spare", Power: -1})) {
		t.Errorf("members are %v", members)
	}
	if !slices.Equal(accounts, []api.Account{of("a", 9, 0), of("root", 0, 0), of("", -1, -1), of("a", 5, 5)}) {
		t.Errorf("accounts are %v", accounts)
	}
	want := []api.Tx{move("a", 0, "b", 5), change("root", 0, setOf(3, 1)...), del("a", 1, "k"), {Kind: 9, From: "spare"}, {}}
	for i, x := range room {
		y := want[i]
		if x.Kind != y.Kind || x.From != y.From || x.Seq != y.Seq || x.To != y.To || x.Amount != y.Amount || x.Key != y.Key || x.Value != y.Value || !slices.Equal(x.Members, y.Members) {
			t.Errorf("%d is %+v", i, x)
		}
	}
}

// TestAnswersAreNewLists writes all over what was answered, spare room too, and over what was handed in.
func TestAnswersAreNewLists(t *testing.T) {
	s := stateOf(of("a", 9, 0), of("root", 0, 0))
	members := setOf(3, 1, 7)
	l := []api.Tx{move("a", 0, "b", 5), change("root", 0, members...), del("a", 1, "k"), change("root", 1, members[:2]...)}
	x := s.trie()
	state, receipts, next, _ := All(x, l)
	want, _ := plainAll(s, l)
	want.next = slices.Clone(want.next)
	for i := range receipts[:cap(receipts)] {
		receipts[:cap(receipts)][i] = api.Receipt{Code: -1, From: "!", Seq: -1}
	}
	for i := range next[:cap(next)] {
		next[:cap(next)][i] = api.Member{Name: "!", Power: -1}
	}
	if !slices.Equal(members, setOf(3, 1, 7)) || len(receipts) != 4 || len(next) != 2 {
		t.Errorf("members are %v behind a change of what was answered", members)
	}
	again, receipts, next, e := All(x, l)
	wantCome(t, l, want, 0, again, receipts, next, e)
	for i := range members {
		members[i] = api.Member{}
	}
	l[0] = api.Tx{}
	wantState(t, "the first answer", state, want.state)
	wantCome(t, l, want, 0, again, receipts, next, e)
	wantState(t, "what was ahead", x, s)
	accounts, m := []api.Account{of("a", 9, 0), of("root", 0, 0)}, setOf(1)
	g, e := Genesis(accounts, m)
	accounts[0], m[0] = api.Account{}, api.Member{}
	if e != api.OK {
		t.Fatal(e)
	}
	wantState(t, "Genesis", g, s)
}

// TestTriesStayAsTheyWere makes many states of one another, and then looks at all.
func TestTriesStayAsTheyWere(t *testing.T) {
	s, l := few()
	states, tries := []items{s}, []*trie.Trie{s.trie()}
	for i := 0; i < len(states) && len(states) < 200; i++ {
		for _, x := range l {
			want, e := plainDo(states[i], x)
			behind, got := Do(tries[i], x)
			if got != e {
				t.Fatalf("Do(%+v) is %d, want %d", x, got, e)
			}
			if e == 0 {
				states, tries = append(states, want), append(tries, behind)
			}
		}
	}
	for i := range states {
		wantState(t, "one of many", tries[i], states[i])
	}
	if len(states) < 100 {
		t.Errorf("only %d states", len(states))
	}
}

// TestTextsAreNotShared changes the bytes on which texts that were handed in lie: nothing else could tell.
func TestTextsAreNotShared(t *testing.T) {
	lie := []byte("abcdrootjkvwxy")
	text := func(begin, end int) string { return unsafe.String(&lie[begin], end-begin) }
	ab, cd, root, key, value, x, y := text(0, 2), text(2, 4), text(4, 8), text(8, 10), text(10, 12), text(12, 13), text(13, 14)
	first, e := Genesis([]api.Account{of(ab, 9, 0), of(root, 0, 0)}, named(x, y))
	s := stateOf(of("ab", 9, 0), of("root", 0, 0)).with("s", plainSum(named("x", "y")))
	if e != api.OK {
		t.Fatal(e)
	}
	given := []api.Tx{move(ab, 0, cd, 5), set(ab, 1, key, value), change(root, 0, named(x, y)...), del(ab, 2, cd)}
	done, _ := Do(first, set(cd, 0, key, value))
	state, receipts, next, _ := All(first, given)
	there, _ := Account(first, ab)
	none, _ := Account(first, cd)
	for i := range lie {
		lie[i] = '!'
	}
	want, wantE := plainAll(s, []api.Tx{move("ab", 0, "cd", 5), set("ab", 1, "jk", "vw"), change("root", 0, named("x", "y")...), del("ab", 2, "cd")})
	wantCome(t, given, want, wantE, state, receipts, next, e)
	wantState(t, "Genesis", first, s)
	wantState(t, "Do", done, s.with("d:jk", "vw").with("a:cd", plainValue(0, 1)))
	if there != of("ab", 9, 0) || none != of("cd", 0, 0) {
		t.Errorf("accounts are %+v, %+v", there, none)
	}
	a, _ := Data(state, "jk")
	b, _ := Data(state, "jk")
	if a != "vw" || b != "vw" || unsafe.StringData(a) == unsafe.StringData(b) {
		t.Errorf("data are %q, %q, or lie at one place", a, b)
	}
}

// TestTextsOfAnswersStandAlone looks at where the texts of answers lie.
func TestTextsOfAnswersStandAlone(t *testing.T) {
	x := stateOf(of("ab", 9, 0), of("root", 0, 0)).with("d:jk", "vw").trie()
	var places []*byte
	look := func(n string) {
		if p := unsafe.StringData(n); slices.Contains(places, p) {
			t.Errorf("%q lies where another text does", n)
		} else {
			places = append(places, p)
		}
	}
	members := named("cd", "ef")
	l := []api.Tx{move("ab", 0, "cd", 5), move("ab", 0, "cd", 5), change("root", 0, members...), change("root", 1, members...)}
	look(l[0].From) // that of the others lies there, too
	look(members[0].Name)
	look(members[1].Name)
	for range 2 {
		_, receipts, next, _ := All(x, l)
		for _, r := range receipts {
			look(r.From)
		}
		for _, m := range next {
			look(m.Name)
		}
		a, _ := Account(x, "ab")
		look(a.Name)
		v, _ := Data(x, "jk")
		look(v)
	}
}

// FuzzDo holds all calls to the words at any state of two accounts and some data, and any transaction.
func FuzzDo(f *testing.F) {
	f.Add("\x01\x09\x00", "\x00\x00", 4, 1, "a", 0, "b", 5, "", "", "", 1)
	f.Add("\x01\x09\x00", "", 4, 2, "a", 0, "", 0, "k", "v", "", 8)
	f.Add("\x00\x00", "x", 1024, 3, "a", 0, "", 0, "k", "", "", 9)
	f.Add("", "\x00", 1023, 4, "root", 0, "", 0, "", "", "\x01a\n\x02b", 3)
	f.Fuzz(func(t *testing.T, a, b string, many, kind int, from string, seq int, to string, amount int, key, value, members string, twice int) {
		s := items{"a:root": plainValue(7, 0), "d:k": "v", "s": plainSum(setOf(1))}
		for name, v := range map[string]string{"a:a": a, "a:b": b} {
			if len(v) >= 1 && len(v) <= 32 {
				s = s.with(name, v)
			}
		}
		if many = many & 0x7ff; many >= 1000 && many <= 1024 {
			s = crowded(s, many)
		}
		x := api.Tx{Kind: kind, From: from, Seq: seq, To: to, Amount: amount, Key: key, Value: value}
		for _, line := range strings.Split(members, "\n") {
			if line != "" {
				x.Members = append(x.Members, api.Member{Name: line[1:], Power: int(int8(line[0]))})
			}
		}
		wantAny(t, s, x)
		wantAll(t, s, slices.Repeat([]api.Tx{x}, int(uint(twice)%12)))
		y := x
		y.Seq++
		wantAll(t, s, []api.Tx{x, set("root", 0, "j", "w"), y, x})
		for _, name := range []string{"a", "b", from, to, key} {
			wantAccount(t, s.trie(), s, name)
			wantData(t, s.trie(), s, name)
		}
		l := []api.Account{of(from, amount, seq), of(to, seq, amount)}
		_, e := plainGenesis(l, x.Members)
		wantGenesis(t, l, x.Members, e)
	})
}
