package forest_test

import (
	"bytes"
	"math/rand"
	"slices"
	"strings"
	"testing"

	"cobweb/api"
	"cobweb/forest"
	"cobweb/order"
	"cobweb/pager"
	"cobweb/sector"
	"cobweb/tree"
)

// as tells n letters a.
func as(n int) string { return strings.Repeat("a", n) }

// keyIs asks for a Key.
func keyIs(t *testing.T, name, key, want string, e int) {
	t.Helper()
	if b, f := forest.Key(name, []byte(key)); string(b) != want || int(f) != e || f != api.OK && b != nil {
		t.Errorf("Key of %q, %q: %q %d, not %q %d", name, key, b, int(f), want, e)
	}
}

// splitIs asks for a Split.
func splitIs(t *testing.T, b, name, key string, e int) {
	t.Helper()
	if s, k, f := forest.Split([]byte(b)); s != name || string(k) != key || int(f) != e || f != api.OK && k != nil {
		t.Errorf("Split of %q: %q %q %d, not %q %q %d", b, s, k, int(f), name, key, e)
	}
}

// spanIs asks for a Span.
func spanIs(t *testing.T, name, from, to, a, b string, e int) {
	t.Helper()
	x, y, f := forest.Span(name, []byte(from), []byte(to))
	if string(x) != a || string(y) != b || int(f) != e || f != api.OK && (x != nil || y != nil) {
		t.Errorf("Span of %q, %q, %q: %q %q %d, not %q %q %d", name, from, to, x, y, int(f), a, b, e)
	}
}

// noNames are texts that are no names.
func noNames() []string {
	return []string{
		"", "1", "1a", "9_", " ", "a b", " a", "a ", "a-b", "-", ".", "a.b", "é", "aé", "a\x00", "\x00", "\x01a", "a\n", "\xff", "a\xff",
		"@", "[", "`", "{", "/", ":", "a/", "a:", as(17), as(16) + "1", "1" + as(15), as(15) + "-", as(15) + "é", as(255), as(256), as(257), as(1000),
	}
}

// names are texts that are names; some begin others.
func names() []string {
	return []string{
		"a", "n", "_", "A", "Z", "z", "ab", "aa", "a1", "a0", "a_", "b", "__", "_1", "Person", "knows", "index_of_names", "a9", "az",
		as(2), as(3), as(15), as(16), as(15) + "z", as(15) + "9", strings.Repeat("_", 16), strings.Repeat("z", 16), "Z" + strings.Repeat("9", 15),
	}
}

func TestExample(t *testing.T) {
	keyIs(t, "n", "\x07", "\x01\x6e\x07", ok)
	splitIs(t, "\x01\x6e\x07", "n", "\x07", ok)
	spanIs(t, "n", "", "", "\x01\x6e", "\x01\x6f", ok)
}

// P14.1

func TestKeysByHand(t *testing.T) {
	for _, c := range []struct{ name, key, want string }{
		{"n", "", "\x01n"},
		{"n", "n", "\x01nn"},
		{"n", "\x00", "\x01n\x00"},
		{"n", "\xff\xff", "\x01n\xff\xff"},
		{"ab", "q", "\x02abq"},
		{"a", "bq", "\x01abq"},
		{"_", "\x01_", "\x01_\x01_"},
		{"Z9", "a b", "\x02Z9a b"},
		{"abcdefghij", "k", "\nabcdefghijk"},
		{as(16), "", "\x10" + as(16)},
		{as(16), "a", "\x10" + as(17)},
	} {
		keyIs(t, c.name, c.key, c.want, ok)
		splitIs(t, c.want, c.name, c.key, ok)
	}
	if b, e := forest.Key("n", nil); string(b) != "\x01n" || e != api.OK {
		t.Error(b, int(e))
	}
}

func TestMost(t *testing.T) {
	for _, s := range names() {
		if n := forest.Most(s); n != 71-len(s) {
			t.Errorf("Most of %q: %d", s, n)
		}
	}
	for _, s := range noNames() {
		if n := forest.Most(s); n != 0 {
			t.Errorf("Most of %q: %d", s, n)
		}
	}
	if forest.Most("n") != 70 || forest.Most(as(16)) != 55 || forest.Most(as(15)) != 56 {
		t.Error("not the most")
	}
}

func TestKeyAtMost(t *testing.T) {
	for _, s := range names() {
		for _, n := range []int{0, 1, 54, 55, 56, 69, 70, 71, 72, 73, 255, 256, 1000} {
			for _, c := range []string{"\x00", "a", "\xff"} {
				key := strings.Repeat(c, n)
				want, e := slowKey(s, key)
				keyIs(t, s, key, want, e)
			}
		}
		most := 71 - len(s)
		b, e := forest.Key(s, make([]byte, most))
		if len(b) != 72 || e != api.OK {
			t.Errorf("a key of the most bytes of %q: %d bytes, %d", s, len(b), int(e))
		}
		keyIs(t, s, as(most+1), "", errBig)
	}
}

func TestKeyOfNoName(t *testing.T) {
	for _, s := range noNames() {
		for _, n := range []int{0, 1, 55, 70, 71, 72, 1000} {
			keyIs(t, s, as(n), "", errArg) // ahead of ErrBig
		}
	}
}

// Each byte alone, at a name's beginning and behind it.
func TestNameOfEachByte(t *testing.T) {
	for c := range 256 {
		for _, s := range []string{string([]byte{byte(c)}), string([]byte{'a', byte(c)}), string([]byte{'a', byte(c), 'a'})} {
			want, e := slowKey(s, "k")
			keyIs(t, s, "k", want, e)
			if n := forest.Most(s); n != slowMost(s) {
				t.Errorf("Most of %q: %d", s, n)
			}
			a, b, e := slowSpan(s, "k", "")
			spanIs(t, s, "k", "", a, b, e)
			whole := string([]byte{byte(len(s))}) + s + "k"
			name, key, e := slowSplit(whole)
			splitIs(t, whole, name, key, e)
		}
	}
}

// P14.2

func TestSplitsByHand(t *testing.T) {
	for _, c := range []struct{ b, name, key string }{
		{"\x01a", "a", ""},
		{"\x01aa", "a", "a"},
		{"\x02aa", "aa", ""},
		{"\x02abq", "ab", "q"},
		{"\x01a1", "a", "1"},
		{"\x02a1", "a1", ""},
		{"\x01_\xff\x00", "_", "\xff\x00"},
		{"\x01a" + as(70), "a", as(70)},
		{"\x10" + as(16), as(16), ""},
		{"\x10" + as(71), as(16), as(55)},
		{"\x02ab" + strings.Repeat("\x00", 69), "ab", strings.Repeat("\x00", 69)},
	} {
		splitIs(t, c.b, c.name, c.key, ok)
	}
}

func TestNoSplitByHand(t *testing.T) {
	for _, b := range []string{
		"", "\x00", "\x00a", "\x00\x01a", "\x01", "\x02", "\x02a", "\x05a", "\x10" + as(15), "\x11" + as(17), "\x11" + as(16), "\x48" + as(71), "\x48" + as(72),
		"\x011", "\x011a", "\x021a", "\x02a-", "\x02-a", "\x01\x00", "\x01\x01a", "\x02a\x00", "\x01\xff", "\x02a\xff", "\x02\xc3\xa9",
		"\x01a" + as(71), "\x02aa" + as(70), "\x10" + as(72), "\x10" + as(500), "\x01a" + as(254), "\x01a" + as(255), "\x01a" + as(1000),
		"\xff", "\xff" + as(255), "\x80" + as(128), "a", "ab", "n\x07", as(72), as(98), as(97 + 72),
	} {
		splitIs(t, b, "", "", errForm)
	}
	if s, k, e := forest.Split(nil); s != "" || k != nil || e != api.ErrForm {
		t.Error(s, k, int(e))
	}
}

// Each length that the first byte can tell, with fewer, as many and more bytes behind it.
func TestSplitOfEachLength(t *testing.T) {
	for c := range 256 {
		for n := range 80 {
			b := string([]byte{byte(c)}) + as(n)
			name, key, e := slowSplit(b)
			splitIs(t, b, name, key, e)
		}
	}
}

// everyText hands out all texts of up to n bytes of an alphabet.
func everyText(alphabet string, n int, each func(string)) {
	each("")
	if n == 0 {
		return
	}
	for i := range len(alphabet) {
		everyText(alphabet, n-1, func(s string) { each(alphabet[i:i+1] + s) })
	}
}

func TestSplitOfAllShortTexts(t *testing.T) {
	for _, alphabet := range []string{"\x00\x01\x02a1\xff", "\x01\x02\x03a_-", "\x01\x02\x04\x05Z"} {
		everyText(alphabet, 5, func(b string) {
			name, key, e := slowSplit(b)
			splitIs(t, b, name, key, e)
		})
	}
}

// text tells a text of n bytes, often of few different ones.
func text(r *rand.Rand, n int) string {
	b := make([]byte, n)
	alphabet := []string{"\x00\x01\xff", letters + "_0123456789", "ab", "\xfe\xff"}[r.Intn(4)]
	for i := range b {
		b[i] = alphabet[r.Intn(len(alphabet))]
		if r.Intn(40) == 0 {
			b[i] = byte(r.Intn(256))
		}
	}
	return string(b)
}

// name tells a name, or, now and then, a text that is none.
func name(r *rand.Rand) string {
	if r.Intn(8) == 0 {
		return text(r, r.Intn(19))
	}
	return names()[r.Intn(len(names()))]
}

// size tells how long a key is, often near what is the most.
func size(r *rand.Rand, s string) int {
	if r.Intn(2) == 0 {
		return max(0, slowMost(s)-1+r.Intn(3))
	}
	return r.Intn(8)
}

func TestByChance(t *testing.T) {
	r := rand.New(rand.NewSource(14))
	for range 20000 {
		s := name(r)
		key, to := text(r, size(r, s)), text(r, size(r, s))
		want, e := slowKey(s, key)
		keyIs(t, s, key, want, e)
		a, b, f := slowSpan(s, key, to)
		spanIs(t, s, key, to, a, b, f)
		if e != ok {
			continue
		}
		splitIs(t, want, s, key, ok)
		other := []byte(want)
		other[r.Intn(min(len(other), 1+r.Intn(18)))] = byte(r.Intn(20))
		n, k, e := slowSplit(string(other))
		splitIs(t, string(other), n, k, e)
		longer := want + text(r, r.Intn(4))
		n, k, e = slowSplit(longer)
		splitIs(t, longer, n, k, e)
		shorter := want[:r.Intn(len(want))]
		n, k, e = slowSplit(shorter)
		splitIs(t, shorter, n, k, e)
	}
}

// P14.3

func TestSpansByHand(t *testing.T) {
	for _, c := range []struct{ name, from, to, a, b string }{
		{"n", "", "", "\x01n", "\x01o"},
		{"n", "\x07", "", "\x01n\x07", "\x01o"},
		{"n", "", "\x07", "\x01n", "\x01n\x07"},
		{"n", "\x07", "\x09", "\x01n\x07", "\x01n\x09"},
		{"n", "\x09", "\x07", "\x01n\x09", "\x01n\x07"}, // none is between them
		{"n", "\x07", "\x07", "\x01n\x07", "\x01n\x07"},
		{"n", "\xff\xff", "", "\x01n\xff\xff", "\x01o"},
		{"n", "", "\x00", "\x01n", "\x01n\x00"},
		{"n", "", "\xff", "\x01n", "\x01n\xff"}, // not above all that begin so
		{"n", "a", "n", "\x01na", "\x01nn"},
		{"z", "", "", "\x01z", "\x01{"},
		{"Z", "", "", "\x01Z", "\x01["},
		{"_", "", "", "\x01_", "\x01`"},
		{"a9", "", "", "\x02a9", "\x02a:"},
		{"ab", "q", "", "\x02abq", "\x02ac"},
		{as(16), "", "", "\x10" + as(16), "\x10" + as(15) + "b"},
		{"n", as(70), as(70), "\x01n" + as(70), "\x01n" + as(70)},
		{"n", as(70), "", "\x01n" + as(70), "\x01o"},
		{as(16), as(55), "", "\x10" + as(71), "\x10" + as(15) + "b"},
		{as(16), "", as(55), "\x10" + as(16), "\x10" + as(71)},
	} {
		spanIs(t, c.name, c.from, c.to, c.a, c.b, ok)
	}
	for _, none := range [][]byte{nil, {}} {
		if a, b, e := forest.Span("n", none, none); string(a) != "\x01n" || string(b) != "\x01o" || e != api.OK {
			t.Error(a, b, int(e))
		}
	}
}

func TestSpanRefuses(t *testing.T) {
	for _, s := range names() {
		most := 71 - len(s)
		for _, big := range []string{as(most + 1), as(most + 2), as(72), as(73), as(256), as(256 + most), as(1000)} {
			spanIs(t, s, big, "", "", "", errBig)
			spanIs(t, s, "", big, "", "", errBig)
			spanIs(t, s, "a", big, "", "", errBig)
			spanIs(t, s, big, "a", "", "", errBig)
			spanIs(t, s, big, big, "", "", errBig)
		}
	}
	for _, s := range noNames() {
		for _, from := range []string{"", "a", as(55), as(73)} {
			for _, to := range []string{"", "a", as(55), as(73)} {
				spanIs(t, s, from, to, "", "", errArg) // ahead of ErrBig
			}
		}
	}
}

// P14.4

// treeKey is a key of a named tree.
type treeKey struct{ name, key string }

// forestKeys tells, in order, the Keys of many keys of many trees, and which they are.
func forestKeys(t *testing.T) ([]string, map[string]treeKey) {
	t.Helper()
	of := map[string]treeKey{}
	var l []string
	for _, s := range []string{"a", "aa", "ab", "aaa", "b", "_", "A", "z", "n", "o", as(16), as(15) + "b"} {
		everyText("\x00\x01a\xff", 3, func(key string) {
			b, e := forest.Key(s, []byte(key))
			if _, there := of[string(b)]; there || e != api.OK {
				t.Fatalf("Key of %q, %q: %q %d", s, key, b, int(e))
			}
			of[string(b)] = treeKey{s, key}
			l = append(l, string(b))
		})
	}
	slices.SortFunc(l, func(a, b string) int { return order.Compare([]byte(a), []byte(b)) })
	return l, of
}

func TestTreesStandApart(t *testing.T) {
	l, of := forestKeys(t)
	done := map[string]bool{}
	for i, b := range l[1:] {
		a := of[l[i]]
		c := of[b]
		if a.name == c.name {
			if a.key >= c.key {
				t.Fatalf("of %q, %q is ahead of %q", a.name, a.key, c.key)
			}
			continue
		}
		done[a.name] = true
		if done[c.name] {
			t.Fatalf("a key of %q is between those of %q", a.name, c.name)
		}
	}
}

func TestSpanIsWhatIsBetween(t *testing.T) {
	l, of := forestKeys(t)
	ends := []string{"", "\x00", "\x00\x00", "\x01", "a", "aa", "a\xff", "b", "\xff", "\xff\xff\xff", "\xff\xff\xff\xff"}
	for _, s := range []string{"a", "aa", "ab", "b", "_", "A", "n", as(16), "Other"} {
		for _, from := range ends {
			for _, to := range ends {
				a, b, e := forest.Span(s, []byte(from), []byte(to))
				if e != api.OK {
					t.Fatal(int(e))
				}
				for _, k := range l {
					is := of[k].name == s && of[k].key >= from && (to == "" || of[k].key < to)
					if got := k >= string(a) && k < string(b); got != is {
						t.Fatalf("Span of %q, %q, %q: %q is there %v", s, from, to, k, got)
					}
				}
			}
		}
	}
}

// A tree of trees: Scan of a Span tells the keys of one of them.
func TestScanOfSpan(t *testing.T) {
	d, _ := sector.New(400)
	pager.Format(d)
	p, _ := pager.Open(d)
	root := 0
	put := func(s, key string) {
		b, _ := forest.Key(s, []byte(key))
		var e api.Errno
		if root, e = tree.Put(p, root, b, []byte(s)); e != api.OK {
			t.Fatal(int(e))
		}
	}
	for _, s := range []string{"b", "a", "aa", "ab"} {
		for _, key := range []string{"", "a", "b", "\xff", as(68)} {
			put(s, key)
		}
	}
	for _, c := range []struct {
		name, from, to string
		want           []string
	}{
		{"a", "", "", []string{"", "a", as(68), "b", "\xff"}},
		{"a", "a", "b", []string{"a", as(68)}},
		{"aa", "b", "", []string{"b", "\xff"}},
		{"ab", "", "b", []string{"", "a", as(68)}},
		{"b", "\xff\xff", "", nil},
		{"c", "", "", nil},
	} {
		from, to, _ := forest.Span(c.name, []byte(c.from), []byte(c.to))
		l, e := tree.Scan(p, root, from, to, 100)
		if e != api.OK {
			t.Fatal(int(e))
		}
		var got []string
		for _, pair := range l {
			s, key, e := forest.Split(pair.Key)
			if s != c.name || string(pair.Val) != c.name || e != api.OK {
				t.Fatalf("%q is told of %q", pair.Key, c.name)
			}
			got = append(got, string(key))
		}
		if !slices.Equal(got, c.want) {
			t.Errorf("of %q, %q, %q: %q", c.name, c.from, c.to, got)
		}
	}
}

// Rules 4 and 8: what is handed in and out.

// spoil writes over bytes, their spare room too.
func spoil(b []byte) {
	b = b[:cap(b)]
	for i := range b {
		b[i] = '!'
	}
}

// roomy tells bytes that have spare room, and the whole of them.
func roomy(s string) (b, whole []byte) {
	whole = []byte(s + "spare room, of more bytes than a name has")
	return whole[:len(s)], whole
}

func TestMemory(t *testing.T) {
	for _, key := range []string{"", "k", "key", as(60)} {
		in, whole := roomy(key)
		was := bytes.Clone(whole)
		one, _ := forest.Key("name", in)
		other, _ := forest.Key("name", in)
		a, b, _ := forest.Span("name", in, in)
		c, d, _ := forest.Span("name", in, nil)
		for _, l := range [][]byte{one, a, b, c, d} {
			spoil(l)
			if !bytes.Equal(whole, was) {
				t.Fatal("what is handed in is handed out")
			}
		}
		spoil(whole)
		if string(other) != "\x04name"+key {
			t.Fatalf("what is handed in is kept: %q", other)
		}
		keyIs(t, "name", key, "\x04name"+key, ok)
	}
}

func TestMemoryOfSpan(t *testing.T) {
	for _, to := range []string{"", "to"} {
		a, b, _ := forest.Span("name", nil, []byte(to))
		was := string(b)
		spoil(a)
		spoil(append(a, "more bytes, and some more"...))
		if string(b) != was {
			t.Fatalf("both ends lie in one list: %q", b)
		}
		a, b, _ = forest.Span("name", nil, []byte(to))
		spoil(b)
		if string(a) != "\x04name" {
			t.Fatalf("both ends lie in one list: %q", a)
		}
	}
}

func TestMemoryOfSplit(t *testing.T) {
	for _, key := range []string{"", "k", as(60)} {
		in, whole := roomy("\x04name" + key)
		was := bytes.Clone(whole)
		_, one, _ := forest.Split(in)
		name, other, _ := forest.Split(in)
		spoil(one)
		spoil(append(one, "more"...))
		if !bytes.Equal(whole, was) || string(other) != key {
			t.Fatal("what is handed out is shared")
		}
		spoil(whole)
		if name != "name" || string(other) != key {
			t.Fatalf("what is handed in is kept: %q %q", name, other)
		}
	}
}

func TestBehindTheLength(t *testing.T) {
	whole := []byte("\x04name" + as(500))
	for n := range whole {
		s, k, e := slowSplit(string(whole[:n]))
		splitIs(t, string(whole[:n]), s, k, e)
		if s2, k2, e2 := forest.Split(whole[:n]); s2 != s || string(k2) != k || int(e2) != e {
			t.Fatal(n, s2, k2, int(e2))
		}
	}
}
