package cert

import (
	"crypto/sha256"
	"encoding/hex"
	"math"
	"slices"
	"strings"
	"testing"
	"unsafe"

	"pharos/api"
	"pharos/oracle"
)

// votes and commits are the tags of what is signed, as numbers.
const votes, commits = 5, 6

// all32 is a sum of 32 bytes that are all the same.
func all32(b string) string {
	return strings.Repeat(b, 32)
}

// certOf is a certificate of a sum by these signers.
func certOf(sum string, signers ...string) api.Cert {
	return api.Cert{Digest: sum, Signers: signers}
}

// setOf is the members of these powers, named a, b and so on.
func setOf(powers ...int) []api.Member {
	var l []api.Member
	for i, p := range powers {
		l = append(l, api.Member{Name: string(rune('a' + i)), Power: p})
	}
	return l
}

// named is members of power 1 with these names.
func named(l ...string) []api.Member {
	var set []api.Member
	for _, s := range l {
		set = append(set, api.Member{Name: s, Power: 1})
	}
	return set
}

// tags is each tag that there is, and others.
func tags() []int {
	return []int{api.TNode, api.THead, api.TTxs, api.TSet, api.TVote, api.TCommit, api.TReceipt, 0, 8, 16, 255, 256, -1, -5, -6, 256 + 5, 256 + 6, 1<<32 + 5, 1<<32 + 6, math.MaxInt, math.MinInt, math.MinInt + 6}
}

// digests is sums that have 32 bytes.
func digests() []string {
	return []string{all32("d"), all32("\x00"), all32("\xff"), all32("d")[:31] + "\x80", "\u00e9" + all32("d")[:30], "\x01" + all32("\x00")[:31]}
}

// wrongDigests is sums that have not.
func wrongDigests() []string {
	return []string{"", "d", all32("d")[:31], all32("d") + "d", all32("d") + all32("d"), all32("\u00e9"), all32("\x00") + "\x00", strings.Repeat("d", 1<<16), hex.EncodeToString([]byte(all32("d")))}
}

// signersThatMayBe is lists of signers at the edges of what may be.
func signersThatMayBe() [][]string {
	return [][]string{
		nil,
		{},
		{"a"},
		{"\x00"},
		{"\xff\xff\xff\xff\xff\xff"},
		{"abcdef"},
		{"a", "b"},
		{"a", "c"},
		{"a", "ab", "abc", "abcdef", "b"},
		{"a", "aa", "aaa", "aaaa", "aaaaa", "aaaaaa", "b"},
		{"a", "b", "c", "d", "e", "f", "g"},
		{"abcdee", "abcdef"},
		{"B", "a"},
		{"\x00", "\x00\x00", "\x01"},
		{"a", "\x7f", "\x80", "\xff"},
		{"a\x7f", "a\x80", "b"},
		{"\u00e9", "\u4e16\u754c"},
	}
}

// signersThatMayNotBe is lists of others.
func signersThatMayNotBe() [][]string {
	return [][]string{
		{""},
		{"", "a"},
		{"a", ""},
		{"abcdefg"},
		{"a", "abcdefg"},
		{"abcdefg", "b"},
		{"\u00e9\u00e9\u00e9\u00e9"}, // 4 letters, 8 bytes
		{strings.Repeat("x", 1<<16)},
		{"a", "a"},
		{"a", "b", "b"},
		{"a", "b", "a"},
		{"a", "a", "b"},
		{"b", "a"},
		{"a", "c", "b"},
		{"c", "a", "b"},
		{"ab", "a"},
		{"abcdef", "abcdee"},
		{"a", "B"},
		{"\x80", "\x7f"}, // the other way round if bytes had signs
		{"\xff", "a"},
		{"a", "b", "c", "d", "e", "f", "g", "h"},
		{"g", "f", "e", "d", "c", "b", "a"},
		slices.Repeat([]string{"a"}, 8),
		slices.Repeat([]string{"a"}, 1<<10),
	}
}

// setsThatMayNotBe is lists of members that are no sets that may be.
func setsThatMayNotBe() [][]api.Member {
	return [][]api.Member{nil, {}, setOf(0), setOf(1, 0), setOf(-1, 3), setOf(1001), setOf(1, 1, 1, 1, 1, 1, 1, 1), named(""), named("a", ""), named("abcdefg"), named("a", "a"), named("b", "a"), named("a", "c", "b"), named("\x80", "\x7f")}
}

// plainSignersMay tells whether these may be the signers of a certificate, as its words say it.
func plainSignersMay(l []string) bool {
	for i, s := range l {
		if len(s) < 1 || len(s) > 6 || i > 0 && strings.Compare(l[i-1], s) != -1 {
			return false
		}
	}
	return len(l) <= 7
}

// plainMay is what a certificate that may be is, as its words say it.
func plainMay(c api.Cert) bool {
	return len(c.Digest) == 32 && plainSignersMay(c.Signers)
}

// plainSetMay is what a set that may be is.
func plainSetMay(set []api.Member) bool {
	var l []string
	for _, m := range set {
		if m.Power < 1 || m.Power > 1000 {
			return false
		}
		l = append(l, m.Name)
	}
	return len(l) > 0 && plainSignersMay(l)
}

// plainMark is the mark of a sum, by Go's own library.
func plainMark(tag int, sum string) string {
	s := sha256.Sum256(append([]byte{byte(tag)}, sum...))
	return string(s[:])
}

// plainEnough tells whether these of the set have more than two thirds of all power.
func plainEnough(set []api.Member, signers []string) bool {
	all, some := 0, 0
	for _, m := range set {
		all += m.Power
		if slices.Contains(signers, m.Name) {
			some += m.Power
		}
	}
	return 3*some > 2*all
}

// plainSigned tells whether the table has the signature, found among all of them.
func plainSigned(o *oracle.Table, who, mark string) bool {
	return slices.ContainsFunc(o.All(), func(s api.Signed) bool { return s.Who == who && s.Mark == mark })
}

// plainCheck is Check as its words say it.
func plainCheck(tag int, set []api.Member, c api.Cert, o *oracle.Table) api.Code {
	switch {
	case tag != votes && tag != commits:
		return api.ErrRange
	case !plainSetMay(set):
		return api.ErrSet
	case !plainMay(c):
		return api.ErrForm
	}
	for _, s := range c.Signers {
		if !slices.ContainsFunc(set, func(m api.Member) bool { return m.Name == s }) {
			return api.ErrNone
		}
	}
	for _, s := range c.Signers {
		if !plainSigned(o, s, plainMark(tag, c.Digest)) {
			return api.ErrSign
		}
	}
	if !plainEnough(set, c.Signers) {
		return api.ErrPower
	}
	return api.OK
}

// plainGather is Gather as its words say it.
func plainGather(tag int, set []api.Member, sum string, o *oracle.Table) (api.Cert, api.Code) {
	switch {
	case tag != votes && tag != commits:
		return api.Cert{}, api.ErrRange
	case !plainSetMay(set):
		return api.Cert{}, api.ErrSet
	case len(sum) != 32:
		return api.Cert{}, api.ErrForm
	}
	c := api.Cert{Digest: sum}
	for _, m := range set {
		if plainSigned(o, m.Name, plainMark(tag, sum)) {
			c.Signers = append(c.Signers, m.Name)
		}
	}
	if !plainEnough(set, c.Signers) {
		return api.Cert{}, api.ErrPower
	}
	return c, api.OK
}

// plainNum is a number up to 65535 as bytes.
func plainNum(n int) string {
	switch {
	case n == 0:
		return "\x00"
	case n < 256:
		return string([]byte{1, byte(n)})
	}
	return string([]byte{2, byte(n / 256), byte(n % 256)})
}

// plainBytes is c as bytes, whether it may be or not.
func plainBytes(c api.Cert) string {
	s := c.Digest + plainNum(len(c.Signers))
	for _, n := range c.Signers {
		s += plainNum(len(n)) + n
	}
	return s
}

// plainDecode is the certificate that may be of which s is just the bytes.
func plainDecode(s string) (api.Cert, bool) {
	if len(s) < 33 {
		return api.Cert{}, false
	}
	c, rest := certOf(s[:32]), s[33:]
	if s[32] != 0 {
		if s[32] != 1 || rest == "" || rest[0] < 1 || rest[0] > 7 {
			return api.Cert{}, false
		}
		count := int(rest[0])
		rest = rest[1:]
		for range count {
			if len(rest) < 2 || rest[0] != 1 || rest[1] < 1 || rest[1] > 6 || len(rest) < 2+int(rest[1]) {
				return api.Cert{}, false
			}
			c.Signers = append(c.Signers, rest[2:2+rest[1]])
			rest = rest[2+rest[1]:]
		}
	}
	return c, rest == "" && plainMay(c)
}

// tableOf is a table in which these signed the mark.
func tableOf(t *testing.T, mark string, who ...string) *oracle.Table {
	t.Helper()
	o := oracle.New()
	sign(t, o, mark, who...)
	return o
}

// sign puts signatures of the mark into the table, some of them not honestly.
func sign(t *testing.T, o *oracle.Table, mark string, who ...string) {
	t.Helper()
	for i, s := range who {
		if e := o.Sign(s, mark, i%2 == 0); e != api.OK {
			t.Fatalf("Sign(%q): %d", s, e)
		}
	}
}

// same tells whether two certificates are: a list without an element may be nil or empty.
func same(a, b api.Cert) bool {
	return a.Digest == b.Digest && slices.Equal(a.Signers, b.Signers)
}

// wantMark holds Mark to its words.
func wantMark(t *testing.T, tag int, sum string) {
	t.Helper()
	mark, code := "", api.ErrForm
	if tag != votes && tag != commits {
		code = api.ErrRange
	} else if len(sum) == 32 {
		mark, code = plainMark(tag, sum), api.OK
	}
	if m, e := Mark(tag, sum); m != mark || e != code {
		t.Errorf("Mark(%d, %q) = %q, %d, want %q, %d", tag, sum, m, e, mark, code)
	}
}

// wantCheck holds Check to a code, which is the one by its words, too.
func wantCheck(t *testing.T, tag int, set []api.Member, c api.Cert, o *oracle.Table, want api.Code) {
	t.Helper()
	if e := Check(tag, set, c, o); e != want || e != plainCheck(tag, set, c, o) {
		t.Errorf("Check(%d, %v, %q) = %d, want %d, by the words %d", tag, set, c, e, want, plainCheck(tag, set, c, o))
	}
}

// wantChecked holds Check to its words.
func wantChecked(t *testing.T, tag int, set []api.Member, c api.Cert, o *oracle.Table) {
	t.Helper()
	wantCheck(t, tag, set, c, o, plainCheck(tag, set, c, o))
}

// wantGather holds Gather to an answer, which is the one by its words, too.
func wantGather(t *testing.T, tag int, set []api.Member, sum string, o *oracle.Table, want api.Cert, code api.Code) {
	t.Helper()
	plain, by := plainGather(tag, set, sum, o)
	if c, e := Gather(tag, set, sum, o); !same(c, want) || e != code || !same(c, plain) || e != by {
		t.Errorf("Gather(%d, %v, %q) = %q, %d, want %q, %d, by the words %q, %d", tag, set, sum, c, e, want, code, plain, by)
	}
}

// wantGathered holds Gather to its words, and what it answers to being good.
func wantGathered(t *testing.T, tag int, set []api.Member, sum string, o *oracle.Table) {
	t.Helper()
	c, e := plainGather(tag, set, sum, o)
	wantGather(t, tag, set, sum, o, c, e)
	if e == api.OK {
		wantCheck(t, tag, set, c, o, api.OK)
	}
}

// wantBytes holds Encode of a certificate that may be to its words, and its bytes to their way back.
func wantBytes(t *testing.T, c api.Cert) {
	t.Helper()
	s, e := Encode(c)
	if s != plainBytes(c) || e != api.OK {
		t.Errorf("Encode(%q) = %q, %d, want %q", c, s, e, plainBytes(c))
	}
	if d, e := Decode(s); !same(d, c) || e != api.OK {
		t.Errorf("Decode(%q) = %q, %d, want %q", s, d, e, c)
	}
}

// wantNoCert holds the calls to refusing a certificate that may not be, and its bytes.
func wantNoCert(t *testing.T, c api.Cert) {
	t.Helper()
	if s, e := Encode(c); s != "" || e != api.ErrForm {
		t.Errorf("Encode(%q) = %q, %d", c, s, e)
	}
	wantForm(t, plainBytes(c))
	o := oracle.New()
	for _, s := range c.Signers {
		o.Sign(s, plainMark(votes, c.Digest), true) // some of them cannot
	}
	wantCheck(t, votes, setOf(1, 1, 1), c, o, api.ErrForm)
}

// wantForm holds Decode to refusing the bytes.
func wantForm(t *testing.T, s string) {
	t.Helper()
	if c, e := Decode(s); !same(c, api.Cert{}) || e != api.ErrForm {
		t.Errorf("Decode(%q) = %q, %d", s, c, e)
	}
}

// wantDecoded holds Decode to its words, and what it answers to its way back.
func wantDecoded(t *testing.T, s string) {
	t.Helper()
	want, ok := plainDecode(s)
	if !ok {
		wantForm(t, s)
		return
	}
	if c, e := Decode(s); !same(c, want) || e != api.OK {
		t.Errorf("Decode(%q) = %q, %d, want %q", s, c, e, want)
	}
	if b, e := Encode(want); b != s || e != api.OK {
		t.Errorf("Encode(%q) = %q, %d, want %q", want, b, e, s)
	}
}

// some is those of the texts whose bits are set.
func some(l []string, bits int) []string {
	var out []string
	for i, s := range l {
		if bits>>i&1 == 1 {
			out = append(out, s)
		}
	}
	return out
}

// namesOf is how the members of a set are called.
func namesOf(set []api.Member) []string {
	var l []string
	for _, m := range set {
		l = append(l, m.Name)
	}
	return l
}

func TestTagsAreThoseGiven(t *testing.T) {
	if api.TVote != votes || api.TCommit != commits || api.Digest != 32 || api.MaxMembers != 7 || api.MaxName != 6 {
		t.Error("the numbers of these tests are others")
	}
}

func TestMark(t *testing.T) {
	for _, tag := range tags() {
		for _, sum := range append(digests(), wrongDigests()...) {
			wantMark(t, tag, sum)
		}
	}
}

func TestMarksWrittenDown(t *testing.T) {
	for _, c := range []struct {
		tag       int
		sum, mark string
	}{
		{votes, all32("d"), "1d4c91aefd0d627573a47f147bd8d0da507933c5ef9e3d22cdd50ed059845432"},
		{commits, all32("d"), "f092a230d7b0b7225226300e9b0596d808d660b5ba12ff22b93878159fb8d8e5"},
		{votes, all32("\x00"), "96a01e6b435b11ab3359c9bb87ce0223466f1de49448524da0d501bdeefa96ec"},
		{commits, all32("\xff"), "36f79c619c498091fb5ea18e9778fa2743591efdf998b3eaf3354bc412a2cee5"},
	} {
		if m, e := Mark(c.tag, c.sum); hex.EncodeToString([]byte(m)) != c.mark || e != api.OK {
			t.Errorf("Mark(%d, %q) = %x, %d, want %s", c.tag, c.sum, m, e, c.mark)
		}
	}
}

func TestMarksOfUnlikeThingsDiffer(t *testing.T) {
	seen := map[string]string{}
	for _, tag := range []int{votes, commits} {
		for _, sum := range digests() {
			m, e := Mark(tag, sum)
			if was, ok := seen[m]; ok || len(m) != 32 || m == sum || e != api.OK {
				t.Errorf("Mark(%d, %q) = %q, %d, as of %q", tag, sum, m, e, was)
			}
			seen[m] = sum
		}
	}
}

// TestExample is the chapter's.
func TestExample(t *testing.T) {
	d, set := all32("d"), setOf(1, 1, 1, 1)
	for _, tag := range []int{votes, commits} {
		mark := plainMark(tag, d)
		o := tableOf(t, mark, "a", "b")
		wantCheck(t, tag, set, certOf(d, "a", "b"), o, api.ErrPower)
		wantGather(t, tag, set, d, o, api.Cert{}, api.ErrPower)
		sign(t, o, mark, "d")
		wantCheck(t, tag, set, certOf(d, "a", "b", "d"), o, api.OK)
		wantCheck(t, tag, set, certOf(d, "a", "b"), o, api.ErrPower)
		wantGather(t, tag, set, d, o, certOf(d, "a", "b", "d"), api.OK)
	}
}

// TestWhatIsWrongFirst takes away what is wrong piece by piece: what is told is always the first of the rest.
func TestWhatIsWrongFirst(t *testing.T) {
	d := all32("d")
	set, bad := setOf(3, 1, 1), setOf(3, 0, 1)
	o := tableOf(t, plainMark(commits, d), "a", "c", "z")
	for _, c := range []struct {
		tag  int
		set  []api.Member
		cert api.Cert
		want api.Code
	}{
		{api.THead, bad, certOf("d", "z", "a"), api.ErrRange},
		{api.THead, bad, certOf(d, "a", "c"), api.ErrRange},
		{api.THead, set, certOf("d", "z", "a"), api.ErrRange},
		{api.THead, set, certOf(d, "a", "c"), api.ErrRange},
		{api.THead, set, certOf(d), api.ErrRange},
		{commits, bad, certOf("d", "z", "a"), api.ErrSet},
		{commits, bad, certOf(d, "y"), api.ErrSet},
		{commits, bad, certOf(d, "a", "c"), api.ErrSet},
		{commits, set, certOf("d", "y", "z"), api.ErrForm},
		{commits, set, certOf(d, "z", "y"), api.ErrForm},
		{commits, set, certOf("d", "a", "b"), api.ErrForm},
		{commits, set, certOf("d", "a", "c"), api.ErrForm},
		{commits, set, certOf("d"), api.ErrForm},
		{commits, set, certOf(d, "b", "y"), api.ErrNone}, // ahead of the signature of b that is not there
		{commits, set, certOf(d, "b", "z"), api.ErrNone},
		{commits, set, certOf(d, "A", "b"), api.ErrNone},
		{commits, set, certOf(d, "y"), api.ErrNone},
		{commits, set, certOf(d, "a", "c", "z"), api.ErrNone}, // z signed, and the others are enough
		{commits, set, certOf(d, "b"), api.ErrSign},           // ahead of the power that b has not
		{commits, set, certOf(d, "a", "b"), api.ErrSign},
		{commits, set, certOf(d, "a", "b", "c"), api.ErrSign}, // the others are enough
		{commits, set, certOf(d, "a"), api.ErrPower},
		{commits, set, certOf(d, "c"), api.ErrPower},
		{commits, set, certOf(d), api.ErrPower},
		{commits, set, certOf(d, "a", "c"), api.OK},
	} {
		wantCheck(t, c.tag, c.set, c.cert, o, c.want)
	}
	for _, c := range []struct {
		tag  int
		set  []api.Member
		sum  string
		want api.Code
	}{
		{api.THead, bad, "d", api.ErrRange},
		{api.THead, bad, d, api.ErrRange},
		{api.THead, set, "d", api.ErrRange},
		{api.THead, set, d, api.ErrRange},
		{commits, bad, "d", api.ErrSet},
		{commits, bad, d, api.ErrSet},
		{commits, set, "d", api.ErrForm},
		{commits, set, all32("e"), api.ErrPower},
		{votes, set, d, api.ErrPower},
	} {
		wantGather(t, c.tag, c.set, c.sum, o, api.Cert{}, c.want)
	}
	wantGather(t, commits, set, d, o, certOf(d, "a", "c"), api.OK)
}

func TestTagsThatAreNotSigned(t *testing.T) {
	d, set := all32("d"), setOf(1, 1, 1, 1)
	for _, tag := range tags() {
		o := tableOf(t, plainMark(tag, d), "a", "b", "c") // the sum with that tag, whichever it is
		c, code := certOf(d, "a", "b", "c"), api.OK
		if tag != votes && tag != commits {
			c, code = api.Cert{}, api.ErrRange
		}
		wantGather(t, tag, set, d, o, c, code)
		wantCheck(t, tag, set, certOf(d, "a", "b", "c"), o, code)
	}
}

func TestSetsThatMayNotBe(t *testing.T) {
	d := all32("d")
	for _, tag := range []int{votes, commits} {
		o := tableOf(t, plainMark(tag, d), "a", "b", "c", "d", "e", "f", "g", "h")
		for _, set := range setsThatMayNotBe() {
			wantGather(t, tag, set, d, o, api.Cert{}, api.ErrSet)
			wantCheck(t, tag, set, certOf(d, "a"), o, api.ErrSet)
			wantCheck(t, tag, set, certOf(d), o, api.ErrSet)
		}
	}
}

func TestSumsOfOtherLengths(t *testing.T) {
	set := setOf(1, 1, 1)
	for _, tag := range []int{votes, commits} {
		for _, sum := range append(digests(), wrongDigests()...) {
			o := tableOf(t, plainMark(tag, sum), "a", "b", "c") // the sum of these bytes with the tag, whatever their length
			c, code := certOf(sum, "a", "b", "c"), api.OK
			if len(sum) != 32 {
				c, code = api.Cert{}, api.ErrForm
			}
			wantGather(t, tag, set, sum, o, c, code)
			wantCheck(t, tag, set, certOf(sum, "a", "b", "c"), o, code)
			wantCheck(t, tag, set, certOf(sum, "b", "a"), o, api.ErrForm)
		}
	}
}

// TestWhoSignedWhat holds that nothing but a signature of the same sum, with the same tag, counts.
func TestWhoSignedWhat(t *testing.T) {
	d, other, set := all32("d"), all32("d")[:31]+"e", setOf(1, 1, 1)
	all := certOf(d, "a", "b", "c")
	for _, tag := range []int{votes, commits} {
		turned := votes + commits - tag
		for _, mark := range []string{plainMark(turned, d), plainMark(tag, other), plainMark(api.THead, d), d, plainMark(tag, plainMark(tag, d))} {
			o := tableOf(t, mark, "a", "b", "c")
			wantCheck(t, tag, set, all, o, api.ErrSign)
			wantGather(t, tag, set, d, o, api.Cert{}, api.ErrPower)
			sign(t, o, plainMark(tag, d), "a", "b") // one is left who signed that other thing alone
			wantCheck(t, tag, set, all, o, api.ErrSign)
			wantCheck(t, tag, set, certOf(d, "a", "b"), o, api.ErrPower)
			wantGather(t, tag, set, d, o, api.Cert{}, api.ErrPower)
			sign(t, o, plainMark(tag, d), "c")
			wantCheck(t, tag, set, all, o, api.OK)
			wantGather(t, tag, set, d, o, all, api.OK)
		}
		wantCheck(t, tag, set, all, oracle.New(), api.ErrSign)
		wantCheck(t, tag, set, certOf(d), oracle.New(), api.ErrPower)
		wantGather(t, tag, set, d, oracle.New(), api.Cert{}, api.ErrPower)
	}
}

// TestWhatIsSignedBesides holds that it changes nothing: others who signed, and other things that members signed.
func TestWhatIsSignedBesides(t *testing.T) {
	d, set := all32("d"), []api.Member{{Name: "a", Power: 3}, {Name: "ab", Power: 1}, {Name: "b", Power: 1}}
	for _, tag := range []int{votes, commits} {
		o := tableOf(t, plainMark(tag, d), "a", "b", "A", "aa", "a\x00", "abc", "z", "\xff")
		sign(t, o, plainMark(votes+commits-tag, d), "a", "ab", "b", "z")
		sign(t, o, plainMark(tag, all32("e")), "a", "ab", "b", "z")
		wantGather(t, tag, set, d, o, certOf(d, "a", "b"), api.OK)
		wantCheck(t, tag, set, certOf(d, "a", "b"), o, api.OK)
		wantCheck(t, tag, set, certOf(d, "a", "ab", "b"), o, api.ErrSign)
		for _, s := range []string{"A", "aa", "a\x00", "abc", "z", "\xff"} {
			wantCheck(t, tag, set, certOf(d, s), o, api.ErrNone)
			l := []string{"a", s, "b"}
			slices.Sort(l)
			wantCheck(t, tag, set, certOf(d, l...), o, api.ErrNone)
		}
	}
}

func TestHonestOrNot(t *testing.T) {
	d, set := all32("d"), setOf(1, 1, 1)
	o, mark := oracle.New(), plainMark(votes, d)
	for _, s := range []string{"a", "b", "c"} {
		o.Sign(s, mark, false)
	}
	wantCheck(t, votes, set, certOf(d, "a", "b", "c"), o, api.OK)
	wantGather(t, votes, set, d, o, certOf(d, "a", "b", "c"), api.OK)
}

// TestJustAQuorum holds sets whose powers add up to each side of two thirds.
func TestJustAQuorum(t *testing.T) {
	d := all32("d")
	for _, c := range []struct {
		set     []api.Member
		signers []string
		want    api.Code
	}{
		{setOf(1), []string{"a"}, api.OK},
		{setOf(1), nil, api.ErrPower},
		{setOf(1000), []string{"a"}, api.OK},
		{setOf(1, 1), []string{"a"}, api.ErrPower},
		{setOf(1, 1, 1), []string{"a", "b"}, api.ErrPower}, // just two thirds
		{setOf(1, 1, 1), []string{"a", "b", "c"}, api.OK},
		{setOf(5, 1), []string{"a"}, api.OK},
		{setOf(4, 2), []string{"a"}, api.ErrPower}, // just two thirds
		{setOf(3, 1, 1), []string{"a", "c"}, api.OK},
		{setOf(3, 1, 1), []string{"a"}, api.ErrPower},
		{setOf(667, 333), []string{"a"}, api.OK},
		{setOf(666, 334), []string{"a"}, api.ErrPower},
		{setOf(1000, 1000, 1000, 1000, 1000, 1000, 1000), []string{"a", "b", "c", "d", "e"}, api.OK},
		{setOf(1000, 1000, 1000, 1000, 1000, 1000, 1000), []string{"a", "b", "c", "d"}, api.ErrPower},
		{setOf(1000, 1000, 1000, 1000, 667, 1000, 1000), []string{"a", "b", "c", "d", "e"}, api.OK},                // 4667 of 6667
		{setOf(1000, 1000, 1000, 444, 1000, 1000, 222), []string{"a", "b", "c", "d", "f"}, api.OK},                 // 4444 of 5666
		{setOf(1000, 1000, 444, 1000, 222), []string{"a", "b", "c"}, api.ErrPower},                                 // 2444 of 3666: just two thirds
		{setOf(1000, 1000, 445, 1000, 222), []string{"a", "b", "c"}, api.OK},                                       // 2445 of 3667
		{named("a", "aa", "\x7f", "\x80"), []string{"a", "\x7f", "\x80"}, api.OK},                                  // bytes above 127
		{named("\xff", "\xff\xff", "\xff\xff\xff"), []string{"\xff", "\xff\xff\xff"}, api.ErrPower},                // two of three
		{named("abcdee", "abcdef", "abcdf", "b"), []string{"abcdee", "abcdef", "abcdf"}, api.OK},                   // names of all bytes that they may have
		{named("a", "b", "c", "d", "e", "f", "g"), []string{"a", "b", "c", "d", "e", "f", "g"}, api.OK},            // a certificate of all who may be
		{named("a", "b", "c", "d", "e", "f", "g"), []string{"a", "c", "d", "e"}, api.ErrPower},                     // 4 of 7
		{named("a", "b", "c", "d", "e", "f", "g"), []string{"b", "c", "d", "f", "g"}, api.OK},                      // 5 of 7
		{named("a", "b", "c", "d", "e", "f", "g"), []string{"a", "b", "c", "d", "e", "g"}, api.OK},                 // 6 of 7
		{[]api.Member{{Name: "a", Power: 1}, {Name: "b", Power: 1000}}, []string{"b"}, api.OK},                     // the second one alone
		{[]api.Member{{Name: "a", Power: 1}, {Name: "b", Power: 1000}}, []string{"a"}, api.ErrPower},               // the first one alone
		{[]api.Member{{Name: "\x00", Power: 2}, {Name: "\x00\x00", Power: 1}}, []string{"\x00"}, api.ErrPower},     // just two thirds, by a name of a zero byte
		{[]api.Member{{Name: "\x00", Power: 3}, {Name: "\x00\x00", Power: 1}}, []string{"\x00"}, api.OK},           // three quarters
		{[]api.Member{{Name: "\x00", Power: 3}, {Name: "\x00\x00", Power: 1}}, []string{"\x00\x00"}, api.ErrPower}, // a quarter
		{[]api.Member{{Name: "B", Power: 9}, {Name: "a", Power: 1}}, []string{"B"}, api.OK},                        // names rise byte by byte
		{[]api.Member{{Name: "\u00e9", Power: 9}, {Name: "\u4e16\u754c", Power: 1}}, []string{"\u00e9"}, api.OK},   // letters of more bytes
	} {
		for _, tag := range []int{votes, commits} {
			o := tableOf(t, plainMark(tag, d), c.signers...)
			wantCheck(t, tag, c.set, certOf(d, c.signers...), o, c.want)
			cert := api.Cert{}
			if c.want == api.OK {
				cert = certOf(d, c.signers...)
			}
			wantGather(t, tag, c.set, d, o, cert, c.want)
		}
	}
}

// sets is some whose members' powers make unlike quorums.
func sets() [][]api.Member {
	return [][]api.Member{setOf(1), setOf(5, 1), setOf(2, 2), setOf(1, 1, 1), setOf(3, 1, 1), setOf(1, 1, 1, 1), setOf(4, 3, 2, 1), setOf(1000, 1, 1, 1, 1), named("\x00", "a", "ab", "b", "\xff")}
}

// TestEverySignersOfEverySigned asks for all choices of signers, one of them no member, over all choices of who signed.
func TestEverySignersOfEverySigned(t *testing.T) {
	d := all32("d")
	for _, set := range sets() {
		names := append(namesOf(set), "none")
		slices.Sort(names)
		for signed := range 1 << len(names) {
			o := tableOf(t, plainMark(votes, d), some(names, signed)...)
			sign(t, o, plainMark(commits, d), some(names, ^signed)...)
			for _, tag := range []int{votes, commits} {
				wantGathered(t, tag, set, d, o)
				for asked := range 1 << len(names) {
					wantChecked(t, tag, set, certOf(d, some(names, asked)...), o)
				}
			}
		}
	}
}

// TestTwoGoodCertificates holds those of one set to what follows (7.4): of one sum or two, with one tag or both.
func TestTwoGoodCertificates(t *testing.T) {
	d, e := all32("d"), all32("e")
	for _, c := range []struct {
		tagA, tagB int
		sumA, sumB string
	}{
		{votes, votes, d, e},
		{commits, commits, d, e},
		{votes, commits, d, d},
		{votes, commits, d, e},
		{votes, votes, d, d},
	} {
		for _, set := range sets() {
			names, found := namesOf(set), 0
			for one := range 1 << len(names) {
				for two := range 1 << len(names) {
					a, b := certOf(c.sumA, some(names, one)...), certOf(c.sumB, some(names, two)...)
					o := tableOf(t, plainMark(c.tagA, c.sumA), a.Signers...)
					sign(t, o, plainMark(c.tagB, c.sumB), b.Signers...)
					if Check(c.tagA, set, a, o) != api.OK || Check(c.tagB, set, b, o) != api.OK {
						continue
					}
					found++
					wantBothSigned(t, set, plainMark(c.tagA, c.sumA), plainMark(c.tagB, c.sumB), a, b, o)
				}
			}
			if found == 0 {
				t.Errorf("%v has no two good certificates", set)
			}
		}
	}
}

// wantBothSigned holds two good certificates to who is in both: they signed both marks, and have more power than may be faulty.
func wantBothSigned(t *testing.T, set []api.Member, markA, markB string, a, b api.Cert, o *oracle.Table) {
	t.Helper()
	all, both := 0, 0
	for _, m := range set {
		all += m.Power
		if !slices.Contains(a.Signers, m.Name) || !slices.Contains(b.Signers, m.Name) {
			continue
		}
		both += m.Power
		if !plainSigned(o, m.Name, markA) || !plainSigned(o, m.Name, markB) {
			t.Errorf("%v: %q is in %q and %q, and did not sign both", set, m.Name, a, b)
		}
	}
	if 3*both < all { // less than a third is what may be faulty
		t.Errorf("%v: %q and %q have %d of %d", set, a, b, both, all)
	}
}

// TestSomeOfThoseWhoSigned holds that a certificate need not have all of them, but that Gather's has.
func TestSomeOfThoseWhoSigned(t *testing.T) {
	d, set := all32("d"), setOf(1, 1, 1, 1)
	o := tableOf(t, plainMark(votes, d), "d", "c", "b", "a") // signed the other way round
	wantGather(t, votes, set, d, o, certOf(d, "a", "b", "c", "d"), api.OK)
	for _, l := range [][]string{{"a", "b", "c"}, {"a", "b", "d"}, {"a", "c", "d"}, {"b", "c", "d"}, {"a", "b", "c", "d"}} {
		wantCheck(t, votes, set, certOf(d, l...), o, api.OK)
	}
	for _, l := range [][]string{{"a", "b"}, {"a", "d"}, {"c", "d"}, {"b"}, nil} {
		wantCheck(t, votes, set, certOf(d, l...), o, api.ErrPower)
	}
}

func TestATableIsOnlyAsked(t *testing.T) {
	d, set := all32("d"), setOf(1, 1, 1, 1)
	o := tableOf(t, plainMark(votes, d), "a", "b", "c", "x")
	f, all := o.Fork(), o.All()
	for range 3 {
		wantCheck(t, votes, set, certOf(d, "a", "b", "c"), o, api.OK)
		wantCheck(t, commits, set, certOf(d, "a", "b", "c"), o, api.ErrSign)
		wantGather(t, votes, set, d, o, certOf(d, "a", "b", "c"), api.OK)
	}
	if !slices.Equal(o.All(), all) {
		t.Errorf("the table has %v, had %v", o.All(), all)
	}
	sign(t, o, plainMark(votes, d), "d")
	wantGather(t, votes, set, d, o, certOf(d, "a", "b", "c", "d"), api.OK)
	wantGather(t, votes, set, d, f, certOf(d, "a", "b", "c"), api.OK)
}

func TestCertificatesThatMayBe(t *testing.T) {
	for _, sum := range digests() {
		for _, l := range signersThatMayBe() {
			wantBytes(t, certOf(sum, l...))
		}
	}
}

func TestCertificatesThatMayNotBe(t *testing.T) {
	for _, sum := range append(digests(), wrongDigests()...) {
		for _, l := range signersThatMayNotBe() {
			wantNoCert(t, certOf(sum, l...))
		}
	}
	for _, l := range signersThatMayBe() {
		for _, sum := range wrongDigests() {
			wantNoCert(t, certOf(sum, l...))
		}
	}
	wantNoCert(t, api.Cert{})
}

// TestEveryShortListOfSigners holds certificates of all lists of at most 3 of a few names to the words.
func TestEveryShortListOfSigners(t *testing.T) {
	d, kinds := all32("d"), []string{"", "\x00", "a", "ab", "b", "\x80", "\xff", "abcdef", "abcdefg"}
	for size, lists := 0, 1; size <= 3; size, lists = size+1, lists*len(kinds) {
		for list := range lists {
			var l []string
			for rest := list; len(l) < size; rest /= len(kinds) {
				l = append(l, kinds[rest%len(kinds)])
			}
			if plainSignersMay(l) {
				wantBytes(t, certOf(d, l...))
			} else {
				wantNoCert(t, certOf(d, l...))
			}
		}
	}
}

func TestBytesWrittenDown(t *testing.T) {
	d := all32("d")
	for _, c := range []struct {
		cert  api.Cert
		bytes string
	}{
		{certOf(d), d + "\x00"},
		{certOf(d, "a"), d + "\x01\x01" + "\x01\x01a"},
		{certOf(d, "a", "c"), d + "\x01\x02" + "\x01\x01a" + "\x01\x01c"},
		{certOf(all32("\x00"), "abcdef", "\xff"), all32("\x00") + "\x01\x02" + "\x01\x06abcdef" + "\x01\x01\xff"},
		{certOf(d, "a", "b", "c", "d", "e", "f", "g"), d + "\x01\x07" + "\x01\x01a\x01\x01b\x01\x01c\x01\x01d\x01\x01e\x01\x01f\x01\x01g"},
	} {
		if s, e := Encode(c.cert); s != c.bytes || e != api.OK {
			t.Errorf("Encode(%q) = %q, %d, want %q", c.cert, s, e, c.bytes)
		}
		if x, e := Decode(c.bytes); !same(x, c.cert) || e != api.OK {
			t.Errorf("Decode(%q) = %q, %d, want %q", c.bytes, x, e, c.cert)
		}
	}
}

func TestDecodeOfBytesCutOrGrown(t *testing.T) {
	for _, l := range signersThatMayBe() {
		s := plainBytes(certOf(all32("\x01"), l...))
		for n := range len(s) {
			wantForm(t, s[:n])
			wantDecoded(t, s[n+1:])
		}
		for b := range 256 {
			wantForm(t, s+string([]byte{byte(b)}))
			wantDecoded(t, string([]byte{byte(b)})+s) // some are the bytes of other ones
		}
		wantForm(t, s+s)
	}
}

func TestDecodeOfOtherBytes(t *testing.T) {
	d := all32("d")
	for _, s := range []string{
		"",
		d,
		d[:31] + "\x00",
		d + "\x01\x00",                     // 0 in a byte
		d + "\x02\x00\x01" + "\x01\x01a",   // 1 in two
		d + "\x01\x01" + "\x02\x00\x01a",   // a text's length in two
		d + "\x01\x01" + "\x00",            // a name of no byte
		d + "\x01\x01" + "\x01\x00",        // the same, in a byte
		d + "\x01\x01" + "\x01\x07abcdefg", // a name of one byte too many
		d + "\x01\x02" + "\x01\x01a",       // it says more than come
		d + "\x01\x01" + "\x01\x01a\x01\x01b",
		d + "\x01\x08" + "\x01\x01a\x01\x01b\x01\x01c\x01\x01d\x01\x01e\x01\x01f\x01\x01g\x01\x01h",
		d + "\x01\x02" + "\x01\x01b\x01\x01a",
		d + "\x01\x02" + "\x01\x01a\x01\x01a",
		d + "\x08\x7f\xff\xff\xff\xff\xff\xff\xff", // no loop over so many
		d + "\x08\x7f\xff\xff\xff\xff\xff\xff\xff" + "\x01\x01a",
		d + "\x08\xff\xff\xff\xff\xff\xff\xff\xff" + "\x01\x01a",
		d + "\x05\x01\x00\x00\x00\x01" + "\x01\x01a", // 1, if only 32 bits are looked at
		d + "\x01\x01" + "\x08\x7f\xff\xff\xff\xff\xff\xff\xffa",
		d + "\x01\x01" + "\x05\x01\x00\x00\x00\x01a",
		d + "\x09" + "\x01\x01a",
		d + "\xff" + "\x01\x01a",
		"\x01\x20" + d + "\x01\x01" + "\x01\x01a", // the sum as a text
	} {
		wantForm(t, s)
	}
}

// TestDecodeOfOneByteChanged holds Decode, and Encode of what it answers, to their words where one byte of a certificate's is another one.
func TestDecodeOfOneByteChanged(t *testing.T) {
	for _, l := range signersThatMayBe() {
		c := certOf(all32("\x01"), l...)
		b := []byte(plainBytes(c))
		for i, was := range b {
			for v := range 256 {
				b[i] = byte(v)
				wantDecoded(t, string(b))
				if x, e := Decode(string(b)); e == api.OK && same(x, c) != (byte(v) == was) {
					t.Errorf("Decode(%q) = %q, of the bytes of %q", b, x, c)
				}
			}
			b[i] = was
		}
		wantBytes(t, c)
	}
}

// TestDecodeOfEveryShortBytes holds Decode to its words over all bytes of up to 9 of four kinds behind a sum.
func TestDecodeOfEveryShortBytes(t *testing.T) {
	d, kinds := all32("d"), "\x00\x01\x02a"
	b := append([]byte(d), make([]byte, 9)...)
	found := 0
	for size, texts := 0, 1; size <= 9; size, texts = size+1, texts*len(kinds) {
		for text := range texts {
			for i := range size {
				b[32+i] = kinds[text>>(2*i)&3]
			}
			s := string(b[:32+size])
			wantDecoded(t, s)
			if _, ok := plainDecode(s); ok {
				found++
			}
		}
	}
	// No signer; one of 1 byte, or of 2; two of 1 byte each; one of 1 byte ahead of one of 2, whose first byte is that one or a greater one; one of 2 ahead of one of 1, which is greater than its first byte.
	if want := 1 + 4 + 4*4 + 6 + 10*4 + 6*4; found != want {
		t.Errorf("%d certificates among them, want %d", found, want)
	}
}

func TestArgumentsStayAsTheyWere(t *testing.T) {
	d := all32("d")
	members := append(setOf(3, 1, 1), api.Member{Name: "spare", Power: -1})
	signers := []string{"a", "c", "spare", "room"}
	set, c := members[:3], certOf(d, signers[:2]...)
	o := tableOf(t, plainMark(votes, d), "a", "c")
	for range 2 {
		wantCheck(t, votes, set, c, o, api.OK)
		wantCheck(t, commits, set, c, o, api.ErrSign)
		wantCheck(t, votes, members, c, o, api.ErrSet)
		wantCheck(t, votes, set, certOf(d, signers...), o, api.ErrForm)
		wantGather(t, votes, set, d, o, certOf(d, "a", "c"), api.OK)
		wantBytes(t, c)
		wantNoCert(t, certOf(d, signers...))
	}
	if !slices.Equal(members, append(setOf(3, 1, 1), api.Member{Name: "spare", Power: -1})) || !slices.Equal(signers, []string{"a", "c", "spare", "room"}) || c.Digest != all32("d") {
		t.Errorf("members are %v, signers %q, the digest is %q", members, signers, c.Digest)
	}
}

func TestAnswersAreNewLists(t *testing.T) {
	d, set := all32("d"), setOf(1, 1, 1)
	o := tableOf(t, plainMark(votes, d), "a", "b", "c")
	want := certOf(d, "a", "b", "c")
	s := plainBytes(want)
	one, _ := Gather(votes, set, d, o)
	two, _ := Gather(votes, set, d, o)
	x, _ := Decode(s)
	y, _ := Decode(s)
	for _, l := range [][]string{one.Signers, x.Signers} {
		l = l[:cap(l)]
		for i := range l {
			l[i] = "!"
		}
	}
	if !same(two, want) || !same(y, want) {
		t.Errorf("another answer is %q, %q", two, y)
	}
	wantGather(t, votes, set, d, o, want, api.OK)
	wantBytes(t, want)
	if !slices.Equal(set, setOf(1, 1, 1)) {
		t.Errorf("the set is %v", set)
	}
}

// TestTextsAreNotShared changes the bytes on which texts that were handed in lie: nothing else could tell.
func TestTextsAreNotShared(t *testing.T) {
	d := all32("d")
	want := certOf(d, "a", "bc")
	lie := []byte(plainBytes(want) + d + "a" + "bc")
	text := func(begin, end int) string { return unsafe.String(&lie[begin], end-begin) }
	n := len(lie) - 35
	set := []api.Member{{Name: text(n+32, n+33), Power: 1}, {Name: text(n+33, n+35), Power: 1}}
	o := tableOf(t, plainMark(votes, d), "a", "bc")
	gathered, code := Gather(votes, set, text(n, n+32), o)
	decoded, e := Decode(text(0, n))
	encoded, _ := Encode(certOf(text(n, n+32), text(n+32, n+33), text(n+33, n+35)))
	empty, _ := Encode(certOf(text(n, n+32)))
	mark, _ := Mark(votes, text(n, n+32))
	for i := range lie {
		lie[i] = '!'
	}
	if !same(gathered, want) || code != api.OK || !same(decoded, want) || e != api.OK {
		t.Errorf("Gather: %q, %d, Decode: %q, %d", gathered, code, decoded, e)
	}
	if encoded != plainBytes(want) || empty != d+"\x00" || mark != plainMark(votes, d) {
		t.Errorf("Encode: %q, %q, Mark: %q", encoded, empty, mark)
	}
}

// TestTextsOfAnswersStandAlone looks at where the texts of answers lie, and those of the table.
func TestTextsOfAnswersStandAlone(t *testing.T) {
	d, set := all32("d"), setOf(1, 1, 1)
	o := tableOf(t, plainMark(votes, d), "a", "b", "c")
	s := plainBytes(certOf(d, "a", "b", "c"))
	places := []*byte{unsafe.StringData(d)}
	for _, m := range set {
		places = append(places, unsafe.StringData(m.Name))
	}
	for _, g := range o.All() {
		places = append(places, unsafe.StringData(g.Who), unsafe.StringData(g.Mark))
	}
	for range 2 {
		c, _ := Gather(votes, set, d, o)
		x, _ := Decode(s)
		for _, l := range [][]string{c.Signers, x.Signers, {c.Digest, x.Digest}} {
			for _, n := range l {
				if p := unsafe.StringData(n); slices.Contains(places, p) {
					t.Errorf("%q lies where another text does", n)
				} else {
					places = append(places, p)
				}
			}
		}
	}
}

// FuzzDecode holds Decode to its words at any bytes.
func FuzzDecode(f *testing.F) {
	f.Add("")
	for _, l := range append(signersThatMayBe(), signersThatMayNotBe()...) {
		f.Add(plainBytes(certOf(all32("d"), l...)))
	}
	f.Fuzz(func(t *testing.T, s string) {
		wantDecoded(t, s)
		c := certOf(s)
		if len(s) > 32 {
			c = certOf(s[:32], strings.Split(s[32:], "\n")...)
		}
		if plainMay(c) {
			wantBytes(t, c)
		} else {
			wantNoCert(t, c)
		}
	})
}

// FuzzCheck holds Check and Gather to their words: each line is a member, its first byte the power, or who signed, the first byte telling what.
func FuzzCheck(f *testing.F) {
	f.Add(5, "\x01a\n\x01b\n\x01c", "a\nb\nc", "\x00a\n\x00b\n\x00c", all32("d"))
	f.Add(6, "\x03a\n\x01b\n\x01c", "a\nc", "\x01a\n\x01c\n\x00b", all32("d"))
	f.Add(6, "\x03a\n\x01b\n\x01c", "a\nz", "\x01a\n\x01c\n\x01z", all32("d"))
	f.Add(2, "", "", "", "")
	f.Fuzz(func(t *testing.T, tag int, members, signers, steps, sum string) {
		var set []api.Member
		for _, line := range strings.Split(members, "\n") {
			if line != "" {
				set = append(set, api.Member{Name: line[1:], Power: int(int8(line[0]))})
			}
		}
		o := oracle.New()
		for _, line := range strings.Split(steps, "\n") {
			if line != "" {
				o.Sign(line[1:], plainMark(votes+int(line[0]&1), sum), line[0]&2 > 0) // some of them cannot
			}
		}
		wantMark(t, tag, sum)
		for _, tag := range []int{tag, votes, commits} {
			wantGathered(t, tag, set, sum, o)
			wantChecked(t, tag, set, certOf(sum, strings.Split(signers, "\n")...), o)
			wantChecked(t, tag, set, certOf(sum), o)
		}
	})
}
