package tree_test

import (
	"bytes"
	"fmt"
	"slices"
	"strings"
	"testing"

	"cobweb/api"
	"cobweb/node"
	"cobweb/pager"
	"cobweb/tree"
)

// hand lays pages by hand.
type hand struct {
	t *testing.T
	p *pager.Pager
}

func byHand(t *testing.T, pages int) hand {
	t.Helper()
	_, p := begin(t, pages)
	return hand{t, p}
}

func (h hand) raw(kind byte, in string) int {
	h.t.Helper()
	no, e := h.p.Lay(kind, []byte(in))
	if e != api.OK {
		h.t.Fatal("Lay", int(e))
	}
	return no
}

func (h hand) node(n node.Node) int {
	h.t.Helper()
	b, e := node.Put(n)
	if e != api.OK {
		h.t.Fatal("Put", int(e))
	}
	if n.Leaf {
		return h.raw(2, string(b))
	}
	return h.raw(3, string(b))
}

// leaf lays one of keys that are their own values; full one of so great values that it is not poor without any one.
func (h hand) leaf(keys ...string) int {
	h.t.Helper()
	n := node.Node{Leaf: true}
	for _, k := range keys {
		n.Keys = append(n.Keys, []byte(k))
		n.Vals = append(n.Vals, node.Val{In: []byte(k[:min(len(k), 64)])})
	}
	return h.node(n)
}

func (h hand) full(keys ...string) int {
	h.t.Helper()
	n := node.Node{Leaf: true}
	for _, k := range keys {
		n.Keys = append(n.Keys, []byte(k))
		n.Vals = append(n.Vals, node.Val{In: []byte(strings.Repeat(k, 64/len(k)))})
	}
	return h.node(n)
}

// long lays a leaf of the key m with a value of so many bytes from a page on, between a and z.
func (h hand) long(size, page int) int {
	h.t.Helper()
	return h.node(node.Node{
		Leaf: true,
		Keys: [][]byte{[]byte("a"), []byte("m"), []byte("z")},
		Vals: []node.Val{{In: []byte("a")}, {Long: size, Page: page}, {In: []byte("z")}},
	})
}

// branch lays one of a kid, and keys and kids.
func (h hand) branch(kid int, l ...any) int {
	h.t.Helper()
	n := node.Node{Kids: []int{kid}}
	for i := 0; i < len(l); i += 2 {
		n.Keys = append(n.Keys, []byte(l[i].(string)))
		n.Kids = append(n.Kids, l[i+1].(int))
	}
	return h.node(n)
}

// chain lays so many branches of one kid, above one another.
func (h hand) chain(kid, many int) int {
	h.t.Helper()
	for range many {
		kid = h.branch(kid)
	}
	return kid
}

// next tells what a value's page begins with.
func next(no int) string { return string([]byte{byte(no), byte(no / 256)}) }

func as(n int) string { return strings.Repeat("v", n) }

// isCorrupt asks that the calls that need the way to a key tell so, and change nothing.
func (h hand) isCorrupt(what string, root int, key string) {
	h.t.Helper()
	was := [3]int{h.p.Used(), h.p.Waiting(), h.p.Free()}
	if v, ok, e := tree.Get(h.p, root, []byte(key)); len(v) != 0 || ok || e != api.ErrCorrupt {
		h.t.Errorf("%s: Get %q: %.40q %v %d", what, key, v, ok, int(e))
	}
	for _, to := range []string{"", key + "\x00"} {
		if l, e := tree.Scan(h.p, root, []byte(key), []byte(to), 1); len(l) != 0 || e != api.ErrCorrupt {
			h.t.Errorf("%s: Scan %q %q: %v %d", what, key, to, l, int(e))
		}
	}
	for _, val := range []string{"", as(4096)} {
		if r, e := tree.Put(h.p, root, []byte(key), []byte(val)); r != 0 || e != api.ErrCorrupt {
			h.t.Errorf("%s: Put %q: %d %d", what, key, r, int(e))
		}
	}
	if r, there, e := tree.Del(h.p, root, []byte(key)); r != 0 || there || e != api.ErrCorrupt {
		h.t.Errorf("%s: Del %q: %d %v %d", what, key, r, there, int(e))
	}
	h.wholeIsCorrupt(what, root)
	if is := [3]int{h.p.Used(), h.p.Waiting(), h.p.Free()}; is != was {
		h.t.Errorf("%s: pages %v, not %v", what, is, was)
	}
}

// wholeIsCorrupt asks so of the calls that need all pages.
func (h hand) wholeIsCorrupt(what string, root int) {
	h.t.Helper()
	if l, e := tree.Pages(h.p, root); len(l) != 0 || e != api.ErrCorrupt {
		h.t.Errorf("%s: Pages: %v %d", what, l, int(e))
	}
	if l, e := tree.Scan(h.p, root, nil, nil, maxInt); len(l) != 0 || e != api.ErrCorrupt {
		h.t.Errorf("%s: Scan: %v %d", what, l, int(e))
	}
}

// P13.1
func TestRootsThatAreNone(t *testing.T) {
	h := byHand(t, 20)
	for _, root := range []int{minInt, -1, -2, 1, 2, 21, 22, 23, api.MaxSectors - 1, api.MaxSectors, 1 << 16, maxInt} {
		h.isCorrupt("root", root, "m")
		depthRefused(t, h.p, root, api.ErrCorrupt)
	}
	good := "\x01\x01m\x01x"
	for kind := range 256 {
		if kind%8 > 4 {
			continue
		}
		h := byHand(t, 20)
		root := h.raw(byte(kind), good)
		if kind == 2 {
			is(t, h.p, root, slow{"m": "x"})
			continue
		}
		h.isCorrupt("kind", root, "m")
		depthRefused(t, h.p, root, api.ErrCorrupt)
	}
	for _, in := range []string{"", "\x00", good + "\x00", good[:4], "\x02" + good[1:], "\x01\x01m\xff\x40\x00\x09\x00", "\x02\x01m\x01x\x01m\x01x"} {
		h := byHand(t, 20)
		root := h.raw(2, in)
		h.isCorrupt(in, root, "m")
		depthRefused(t, h.p, root, api.ErrCorrupt)
	}
}

// A root that is not 0 has a key at least, also where it is a branch.
func TestTreesOfNoKeys(t *testing.T) {
	h := byHand(t, 90)
	for _, root := range []int{h.leaf(), h.chain(h.leaf(), 1), h.chain(h.leaf(), 15)} {
		h.isCorrupt("no keys", root, "m")
		depthRefused(t, h.p, root, api.ErrCorrupt)
	}
	h.wholeIsCorrupt("no keys", h.branch(h.leaf(), "m", h.leaf()))
	root := h.branch(h.leaf(), "m", h.leaf("m"), "n", h.leaf())
	isSo(t, h.p, root, slow{"m": "m"}, true)
	misses(t, h.p, root, "a")
	misses(t, h.p, root, "z")
	if root := del(t, h.p, h.branch(h.leaf(), "m", h.leaf("m")), "m"); root != 0 {
		t.Error(root)
	}
}

// A key stands where all branches above it say.
func TestKeysInTheWrongPlace(t *testing.T) {
	for _, c := range []struct {
		what, key string
		build     func(h hand) int
	}{
		{"the next one's key", "a", func(h hand) int { return h.branch(h.leaf("a", "m"), "m", h.leaf("n")) }},
		{"above the next one's", "a", func(h hand) int { return h.branch(h.leaf("a", "z"), "m", h.leaf("n")) }},
		{"below its own", "n", func(h hand) int { return h.branch(h.leaf("a"), "m", h.leaf("l", "n")) }},
		{"below its own, far", "z", func(h hand) int { return h.branch(h.leaf("a"), "m", h.leaf("", "z")) }},
		{"between, the next one's", "n", func(h hand) int { return h.branch(h.leaf("a"), "m", h.leaf("n", "p"), "p", h.leaf("q")) }},
		{"between, below", "n", func(h hand) int { return h.branch(h.leaf("a"), "m", h.leaf("lzz", "n"), "p", h.leaf("q")) }},
		{"the order of the kids", "a", func(h hand) int { return h.branch(h.leaf("n"), "m", h.leaf("a")) }},
		{"only the upper branch says so", "l", func(h hand) int {
			return h.branch(h.branch(h.leaf("a"), "k", h.leaf("l", "n")), "m", h.branch(h.leaf("m"), "o", h.leaf("o")))
		}},
		{"only the upper branch says so", "m", func(h hand) int {
			return h.branch(h.branch(h.leaf("a"), "k", h.leaf("k")), "m", h.branch(h.leaf("l", "m"), "o", h.leaf("o")))
		}},
		{"a branch's key", "m", func(h hand) int {
			return h.branch(h.branch(h.leaf("a"), "k", h.leaf("k")), "m", h.branch(h.leaf(), "l", h.leaf("m")))
		}},
		{"a branch's key", "a", func(h hand) int {
			return h.branch(h.branch(h.leaf("a"), "m", h.leaf()), "m", h.branch(h.leaf("m"), "o", h.leaf("o")))
		}},
	} {
		h := byHand(t, 20)
		root := c.build(h)
		h.isCorrupt(c.what, root, c.key)
		commit(t, h.p, root)
		h.isCorrupt(c.what, root, c.key)
	}
}

// Keys that are just where they may be.
func TestKeysInTheRightPlace(t *testing.T) {
	h := byHand(t, 40)
	for _, c := range []struct {
		root int
		keys string
	}{
		{h.branch(h.leaf("a", "l"), "m", h.leaf("m", "n")), "alm n"},
		{h.branch(h.leaf("a"), "m", h.leaf("m"), "n", h.leaf("n")), "amn"},
		{h.branch(h.leaf("a"), "k", h.leaf("z")), "az"},
		{h.branch(h.branch(h.leaf("a"), "k", h.leaf("k", "l")), "m", h.branch(h.leaf("m"), "o", h.leaf("o"))), "aklmo"},
		{h.branch(h.branch(h.leaf("a")), "m", h.branch(h.leaf("m"), "o", h.leaf("o"))), "amo"},
		{h.branch(h.leaf(), "", h.leaf("", "b")), "b"},
	} {
		s := slow{}
		for _, k := range strings.ReplaceAll(c.keys, " ", "") {
			s[string(k)] = string(k)
		}
		if c.keys == "b" {
			s[""] = ""
		}
		isSo(t, h.p, c.root, s, true)
	}
}

// Each kid that is no node of the tree, whatever else its page has.
func TestKidsThatAreNone(t *testing.T) {
	for i, kid := range []func(h hand) int{
		func(h hand) int { return 21 },                    // not laid
		func(h hand) int { return 22 },                    // no page
		func(h hand) int { return 4095 },                  // no page
		func(h hand) int { return h.raw(4, "\x00\x00v") }, // a value's
		func(h hand) int { return h.raw(0, "") },
		func(h hand) int { return h.raw(2, "\x01") },
		func(h hand) int { return h.raw(3, "\x01\x01m\x01m") },
		func(h hand) int { return 4 }, // the branch itself
	} {
		for _, key := range []string{"a", "m"} {
			h := byHand(t, 20)
			keys := []string{"b", "c", "d", "e", "f", "g"}
			if key == "a" {
				keys = []string{"n", "o", "p", "q", "r", "s"}
			}
			good := h.full(keys...)
			bad := kid(h)
			for h.p.Used() < 2 {
				h.raw(9, "")
			}
			root := 0
			if key == "a" {
				root = h.branch(bad, "m", good)
				depthRefused(t, h.p, root, api.ErrCorrupt)
			} else {
				root = h.branch(good, "m", bad)
			}
			if root != 4 {
				t.Fatal(root)
			}
			h.isCorrupt(fmt.Sprint("kid ", i), root, key)
		}
	}
}

// What is not needed may be whatever it is.
func TestWhatIsNotNeeded(t *testing.T) {
	h := byHand(t, 60)
	six := []string{"b", "c", "d", "e", "f", "g"}
	s := slow{}
	for _, k := range six {
		s[k] = strings.Repeat(k, 64)
	}
	root := h.branch(h.full(six...), "m", 9, "p", h.leaf("p"))
	if root == 9 || h.p.Used() > 3 {
		t.Fatal(root)
	}
	h.wholeIsCorrupt("the middle", root)
	for k, v := range s {
		gets(t, h.p, root, k, v)
	}
	gets(t, h.p, root, "p", "p")
	misses(t, h.p, root, "a")
	misses(t, h.p, root, "q")
	if n, e := tree.Depth(h.p, root); n != 2 || e != api.OK {
		t.Error(n, int(e))
	}
	absent(t, h.p, root, "a")
	absent(t, h.p, root, "q")
	scans(t, h.p, root, "", "", 6, s)
	scans(t, h.p, root, "c", "", 5, s)
	scans(t, h.p, root, "c", "m", maxInt, s)
	scans(t, h.p, root, "", "lzz", maxInt, s)
	scans(t, h.p, root, "p", "", maxInt, slow{"p": "p"})
	scans(t, h.p, root, "m", "m", maxInt, s)
	scans(t, h.p, root, "m", "", 0, s)
	scanRefused(t, h.p, root, "", "", 7, api.ErrCorrupt)
	scanRefused(t, h.p, root, "c", "m\x00", 6, api.ErrCorrupt)
	scanRefused(t, h.p, root, "m", "n", 1, api.ErrCorrupt)
	scanRefused(t, h.p, root, "ozz", "", 1, api.ErrCorrupt)
	next := put(t, h.p, root, "d", strings.Repeat("D", 64))
	gets(t, h.p, next, "d", strings.Repeat("D", 64))
	next = del(t, h.p, next, "e")
	misses(t, h.p, next, "e")
	gets(t, h.p, next, "p", "p")
}

// Where a node is poor, the one beside it is needed, too, and is at the same depth.
func TestBesideANodeThatIsPoor(t *testing.T) {
	for _, bad := range []func(h hand) int{
		func(h hand) int { return 40 },
		func(h hand) int { return h.branch(h.leaf("n"), "o", h.leaf("o")) },
		func(h hand) int { return h.leaf("a", "z") },
		func(h hand) int { return h.raw(4, "\x00\x00v") },
	} {
		h := byHand(t, 60)
		for _, root := range []int{
			h.branch(h.full("b", "c"), "m", bad(h)),
			h.branch(bad(h), "b", h.full("b", "c")),
			h.branch(bad(h), "b", h.full("b", "c"), "m", bad(h)),
		} {
			used := h.p.Used()
			delRefused(t, h.p, root, "c", api.ErrCorrupt)
			putRefused(t, h.p, root, "c", "", api.ErrCorrupt)
			if h.p.Used() != used {
				t.Error(h.p.Used(), used)
			}
			next := put(t, h.p, root, "c", as(64)) // it is not poor, so the other one is not needed
			gets(t, h.p, next, "c", as(64))
			gets(t, h.p, next, "b", strings.Repeat("b", 64))
		}
	}
}

// All leaves are equally deep.
func TestLeavesAtSeveralDepths(t *testing.T) {
	h := byHand(t, 60)
	for _, root := range []int{
		h.branch(h.leaf("a"), "m", h.branch(h.leaf("m"), "n", h.leaf("n"))),
		h.branch(h.branch(h.leaf("a"), "b", h.leaf("b")), "m", h.leaf("m")),
		h.branch(h.leaf("a"), "m", h.branch(h.leaf("m"))),
		h.branch(h.leaf("a"), "b", h.leaf("b"), "m", h.branch(h.leaf("m"), "n", h.leaf("n"))),
	} {
		h.wholeIsCorrupt("depths", root)
		gets(t, h.p, root, "a", "a")
		gets(t, h.p, root, "m", "m")
		scans(t, h.p, root, "", "", 1, slow{"a": "a"})
		scans(t, h.p, root, "m", "", 1, slow{"m": "m"})
	}
}

// At most 16 nodes stand above one another, and none above itself.
func TestDeepTrees(t *testing.T) {
	h := byHand(t, 200)
	for _, n := range []int{1, 2, 15, 16} {
		root := h.chain(h.leaf("m"), n-1)
		if f := isSo(t, h.p, root, slow{"m": "m"}, true); f.deep != n {
			t.Error(f.deep, n)
		}
		misses(t, h.p, root, "a")
		absent(t, h.p, root, "z")
	}
	for _, n := range []int{17, 18, 40} {
		root := h.chain(h.leaf("m"), n-1)
		h.isCorrupt("deep", root, "m")
		depthRefused(t, h.p, root, api.ErrCorrupt)
	}
	h = byHand(t, 20)
	ring := h.branch(4)
	h.branch(2)
	h.branch(3)
	h.isCorrupt("a ring", ring, "m")
	depthRefused(t, h.p, ring, api.ErrCorrupt)
	self := h.branch(5)
	h.isCorrupt("itself", self, "m")
	depthRefused(t, h.p, self, api.ErrCorrupt)
	last := h.branch(h.leaf("a"), "m", 7)
	h.isCorrupt("itself, last", last, "m")
	gets(t, h.p, last, "a", "a")
}

// A tree of few nodes above one another, which a change leaves as it must be.
func TestChangesOfDeepTrees(t *testing.T) {
	for n := 1; n <= 16; n++ {
		h := byHand(t, 200)
		root := put(t, h.p, h.chain(h.leaf("m"), n-1), "n", "n")
		is(t, h.p, root, slow{"m": "m", "n": "n"})
		just(t, h.p, root)
		if root := del(t, h.p, del(t, h.p, root, "m"), "n"); root != 0 || h.p.Used() != 0 {
			t.Error(root, h.p.Used())
		}
		if root := del(t, h.p, h.chain(h.leaf("m"), n-1), "m"); root != 0 || h.p.Used() != 0 {
			t.Error(root, h.p.Used())
		}
	}
}

// A change that would set a 17th node above 16 is refused: there is no such tree.
func TestNoTreeGetsTooDeep(t *testing.T) {
	key := func(high int, c string) string { return strings.Repeat("\xff", high) + strings.Repeat(c, 72-high) }
	wide := func(kid, high int) node.Node { // with one key more no page takes it; the other kids are nowhere
		n := node.Node{Kids: []int{kid}}
		for _, c := range strings.Split("abcdef", "") {
			n.Keys = append(n.Keys, []byte(key(high, c)))
			n.Kids = append(n.Kids, 4000)
		}
		return n
	}
	for _, n := range []int{15, 16} {
		h := byHand(t, 200)
		kid := h.leaf(key(0, "a"), key(0, "c"), key(0, "d"))
		for i := range n - 1 {
			kid = h.node(wide(kid, i+1))
		}
		gets(t, h.p, kid, key(0, "c"), key(0, "c")[:64])
		used := h.p.Used()
		if n == 16 {
			putRefused(t, h.p, kid, key(0, "e"), as(64), api.ErrCorrupt)
			if h.p.Used() != used {
				t.Error(h.p.Used(), used)
			}
			next := put(t, h.p, kid, key(0, "c"), as(64))
			gets(t, h.p, next, key(0, "c"), as(64))
			continue
		}
		next := put(t, h.p, kid, key(0, "e"), as(64))
		gets(t, h.p, next, key(0, "e"), as(64))
		if d, e := tree.Depth(h.p, next); d != 16 || e != api.OK {
			t.Error(d, int(e))
		}
	}
}

// P13.1: a value's pages.
func TestValuesThatAreNone(t *testing.T) {
	for i, c := range []struct {
		size  int
		pages func(h hand) int
	}{
		{100, func(h hand) int { return h.raw(4, next(0)+as(99)) }},
		{100, func(h hand) int { return h.raw(4, next(0)+as(101)) }},
		{100, func(h hand) int { return h.raw(4, next(0)) }},
		{100, func(h hand) int { return h.raw(4, "") }},
		{100, func(h hand) int { return h.raw(4, "\x00") }},
		{100, func(h hand) int { return h.raw(2, next(0)+as(100)) }},
		{100, func(h hand) int { return h.raw(3, next(0)+as(100)) }},
		{100, func(h hand) int { return h.raw(0, next(0)+as(100)) }},
		{100, func(h hand) int { return h.raw(4, next(2)+as(100)) }}, // itself, behind its end
		{100, func(h hand) int { return h.raw(4, next(9)+as(100)) }},
		{100, func(h hand) int { return h.raw(4, next(1)+as(100)) }},
		{100, func(h hand) int { return h.raw(4, "\x00\x01"+as(100)) }},
		{100, func(h hand) int { return 9 }},
		{100, func(h hand) int { return 4095 }},
		{491, func(h hand) int { return h.raw(4, next(h.raw(4, next(0)))+as(491)) }}, // a page too many
		{491, func(h hand) int { return h.raw(4, next(0)+as(490)) }},
		{492, func(h hand) int { return h.raw(4, next(0)+as(491)) }}, // one too few
		{492, func(h hand) int { return h.raw(4, next(h.raw(4, next(0)))+as(491)) }},
		{492, func(h hand) int { return h.raw(4, next(h.raw(4, next(0)+as(2)))+as(490)) }},
		{492, func(h hand) int { return h.raw(4, next(h.raw(4, next(0)+as(2)))+as(491)) }},
		{492, func(h hand) int { return h.raw(4, next(h.raw(2, next(0)+as(1)))+as(491)) }},
		{492, func(h hand) int { return h.raw(4, next(1)+as(491)) }},
		{492, func(h hand) int { return h.raw(4, next(4095)+as(491)) }},
		{982, func(h hand) int { return h.raw(4, next(2)+as(491)) }}, // itself
		{982, func(h hand) int { return h.raw(4, next(h.raw(4, next(2)+as(491)))+as(491)) }},
		{4096, func(h hand) int { return h.raw(4, next(2)+as(491)) }},
	} {
		h := byHand(t, 20)
		root := h.long(c.size, c.pages(h))
		h.isCorrupt(fmt.Sprint("value ", i), root, "m")
		gets(t, h.p, root, "a", "a")
		gets(t, h.p, root, "z", "z")
		misses(t, h.p, root, "n")
		scans(t, h.p, root, "", "m", 9, slow{"a": "a"})
		scans(t, h.p, root, "", "", 1, slow{"a": "a"})
		scans(t, h.p, root, "n", "", 9, slow{"z": "z"})
		if n, e := tree.Depth(h.p, root); n != 1 || e != api.OK {
			t.Error(n, int(e))
		}
		next := put(t, h.p, root, "b", "b")
		gets(t, h.p, next, "b", "b")
		next = del(t, h.p, next, "a")
		h.isCorrupt(fmt.Sprint("value ", i), next, "m")
	}
}

// A value by hand, as the chapter says, is read.
func TestValuesByHand(t *testing.T) {
	for _, n := range []int{65, 66, 255, 490, 491, 492, 981, 982, 983, 1473, 1474, 3928, 3929, 4095, 4096} {
		h := byHand(t, 20)
		want := as(n - 1)
		want += "w"
		no := 0
		for to := n; to > 0; {
			from := (to - 1) / 491 * 491
			no = h.raw(4, next(no)+want[from:to])
			to = from
		}
		root := h.long(n, no)
		s := slow{"a": "a", "m": want, "z": "z"}
		is(t, h.p, root, s)
		just(t, h.p, root)
		root = put(t, h.p, root, "m", "short")
		s["m"] = "short"
		is(t, h.p, root, s)
		just(t, h.p, root)
	}
}

// A page is used once in a tree.
func TestPagesUsedTwice(t *testing.T) {
	h := byHand(t, 60)
	val := h.raw(4, next(0)+as(100))
	n := node.Node{Leaf: true, Keys: [][]byte{[]byte("a"), []byte("b")}, Vals: []node.Val{{Long: 100, Page: val}, {Long: 100, Page: val}}}
	two := h.node(n)
	h.wholeIsCorrupt("a value's page", two)
	gets(t, h.p, two, "a", as(100))
	gets(t, h.p, two, "b", as(100))
	tail := h.raw(4, next(h.raw(4, next(0)+as(9)))+as(491))
	n.Vals = []node.Val{{Long: 500, Page: tail}, {Long: 991, Page: h.raw(4, next(tail)+as(491))}}
	h.wholeIsCorrupt("a value's end", h.node(n))
	none := h.leaf()
	h.wholeIsCorrupt("a leaf", h.branch(h.leaf("a"), "m", none, "n", none))
	h.wholeIsCorrupt("a branch", h.branch(h.branch(h.leaf("a")), "m", h.branch(none), "n", h.branch(none)))
}

// Where a bit of a page is turned, just the calls that need it tell so.
func TestTurnedBits(t *testing.T) {
	d, p := begin(t, 200)
	s := some(60)
	s["050"], s["101"] = as(2000), as(65)
	root := putAll(t, p, 0, s)
	commit(t, p, root)
	f := is(t, p, root, s)
	if f.deep != 2 {
		t.Fatal(f.deep)
	}
	keys := s.scan("", "", len(s))
	h := hand{t, p}
	for _, no := range f.pages() {
		was := sectors(t, d, []int{no})[0]
		b := bytes.Clone(was)
		b[(no*37)%api.Size] ^= 1 << (no % 8)
		d.Write(no, b)
		bad := 0
		for _, k := range keys {
			needs := slices.Contains(f.ways[k], no)
			v, ok, e := tree.Get(p, root, []byte(k))
			if needs && (e != api.ErrCorrupt || ok || len(v) != 0) || !needs && (e != api.OK || !ok || string(v) != s[k]) {
				t.Error(no, k, needs, len(v), ok, int(e))
			}
			if needs {
				bad++
				h.isCorrupt("bit", root, k)
			}
		}
		if bad == 0 || no == root && bad != len(keys) {
			t.Error(no, bad)
		}
		d.Write(no, was)
	}
	is(t, p, root, s)
}
