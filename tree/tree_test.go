package tree_test

import (
	"bytes"
	"fmt"
	"math"
	"math/rand"
	"slices"
	"strings"
	"testing"

	"cobweb/api"
	"cobweb/pager"
	"cobweb/sector"
	"cobweb/tree"
)

const (
	maxInt = math.MaxInt
	minInt = math.MinInt
)

// refusals asks that all calls of a root, with these keys, tell an error, and nothing else.
func refusals(t *testing.T, p *pager.Pager, root int, key string, want api.Errno) {
	t.Helper()
	if v, ok, e := tree.Get(p, root, []byte(key)); len(v) != 0 || ok || e != want {
		t.Errorf("Get %q of %d: %.40q %v, error %d, not %d", key, root, v, ok, int(e), int(want))
	}
	scanRefused(t, p, root, key, "", maxInt, want)
	scanRefused(t, p, root, "", key, 1, want)
	scanRefused(t, p, root, key, key, 0, want)
	putRefused(t, p, root, key, "x", want)
	delRefused(t, p, root, key, want)
}

func scanRefused(t *testing.T, p *pager.Pager, root int, from, to string, most int, want api.Errno) {
	t.Helper()
	if l, e := tree.Scan(p, root, []byte(from), []byte(to), most); len(l) != 0 || e != want {
		t.Errorf("Scan %q %q %d of %d: %d pairs, error %d, not %d", from, to, most, root, len(l), int(e), int(want))
	}
}

func pagesRefused(t *testing.T, p *pager.Pager, root int, want api.Errno) {
	t.Helper()
	if l, e := tree.Pages(p, root); len(l) != 0 || e != want {
		t.Errorf("Pages of %d: %v, error %d, not %d", root, l, int(e), int(want))
	}
}

func depthRefused(t *testing.T, p *pager.Pager, root int, want api.Errno) {
	t.Helper()
	if n, e := tree.Depth(p, root); n != 0 || e != want {
		t.Errorf("Depth of %d: %d, error %d, not %d", root, n, int(e), int(want))
	}
}

func putRefused(t *testing.T, p *pager.Pager, root int, key, val string, want api.Errno) {
	t.Helper()
	if r, e := tree.Put(p, root, []byte(key), []byte(val)); r != 0 || e != want {
		t.Errorf("Put %q of %d: %d, error %d, not %d", key, root, r, int(e), int(want))
	}
}

func delRefused(t *testing.T, p *pager.Pager, root int, key string, want api.Errno) {
	t.Helper()
	if r, there, e := tree.Del(p, root, []byte(key)); r != 0 || there || e != want {
		t.Errorf("Del %q of %d: %d %v, error %d, not %d", key, root, r, there, int(e), int(want))
	}
}

// absent asks a Del of a key that isn't there.
func absent(t *testing.T, p *pager.Pager, root int, key string) {
	t.Helper()
	if r, there, e := tree.Del(p, root, []byte(key)); r != root || there || e != api.OK {
		t.Errorf("Del %q of %d: %d %v, error %d", key, root, r, there, int(e))
	}
}

// P13.1, P13.2
func TestNone(t *testing.T) {
	var missing *pager.Pager
	for _, p := range []*pager.Pager{missing, {}, new(pager.Pager)} {
		for _, root := range []int{minInt, -1, 0, 1, 2, maxInt} {
			for _, key := range []string{"", "a", strings.Repeat("a", 73)} {
				refusals(t, p, root, key, api.ErrNil)
				scanRefused(t, p, root, "", "", -1, api.ErrNil)
				putRefused(t, p, root, key, strings.Repeat("x", 4097), api.ErrNil)
			}
			pagesRefused(t, p, root, api.ErrNil)
			depthRefused(t, p, root, api.ErrNil)
		}
	}
}

// An argument's error is told ahead of a page's, ErrArg of Put ahead of ErrBig, that ahead of a page's.
func TestArguments(t *testing.T) {
	d, p := begin(t, 20)
	good := put(t, p, 0, "a", "x")
	ops := d.Ops()
	for _, root := range []int{0, good, 1, -1, 9} {
		for _, n := range []int{73, 74, 256, 1 << 16} {
			long := strings.Repeat("k", n)
			refusals(t, p, root, long, api.ErrArg)
			scanRefused(t, p, root, "a", long, 5, api.ErrArg)
			putRefused(t, p, root, long, strings.Repeat("x", 4097), api.ErrArg)
		}
		for _, most := range []int{-1, -2, minInt} {
			scanRefused(t, p, root, "", "", most, api.ErrArg)
			scanRefused(t, p, root, "z", "a", most, api.ErrArg)
		}
		for _, n := range []int{4097, 4098, 1 << 16} {
			putRefused(t, p, root, "a", strings.Repeat("x", n), api.ErrBig)
		}
	}
	if d.Ops() != ops || p.Used() != 1 {
		t.Error(d.Ops()-ops, p.Used())
	}
	is(t, p, good, slow{"a": "x"})
}

// Keys of no bytes, and of just as many as may be.
func TestKeysAtTheLimits(t *testing.T) {
	_, p := begin(t, 40)
	s := slow{"": "none", strings.Repeat("\x00", 72): "low", strings.Repeat("\xff", 72): "high", "\x00": "", "\xff": "\x00", strings.Repeat("a", 72): strings.Repeat("b", 64), strings.Repeat("a", 71): strings.Repeat("b", 4096)}
	root := putAll(t, p, 0, s)
	is(t, p, root, s)
	just(t, p, root)
	misses(t, p, root, strings.Repeat("a", 70))
	misses(t, p, root, strings.Repeat("\xff", 71))
	misses(t, p, root, strings.Repeat("b", 72))
	for _, k := range s.scan("", "", len(s)) {
		root = del(t, p, root, k)
		delete(s, k)
		is(t, p, root, s)
	}
	just(t, p, root)
}

func TestExample(t *testing.T) {
	_, p := begin(t, 9)
	root := put(t, p, put(t, p, 0, "b", "2"), "a", "1")
	scans(t, p, root, "", "", 9, slow{"a": "1", "b": "2"})
	if root = del(t, p, del(t, p, root, "b"), "a"); root != 0 || p.Used() != 0 {
		t.Error(root, p.Used())
	}
}

func TestTheEmptyTree(t *testing.T) {
	d, p := begin(t, 9)
	is(t, p, 0, slow{})
	for _, key := range []string{"", "a", strings.Repeat("a", 72)} {
		misses(t, p, 0, key)
		absent(t, p, 0, key)
		scans(t, p, 0, key, "", 9, slow{})
		scans(t, p, 0, "", key, maxInt, slow{})
	}
	if d.Ops() != 3 || p.Used() != 0 {
		t.Error(d.Ops(), p.Used())
	}
}

// some tells pairs of several leaves: keys of one to three digits, each twice as far from the other.
func some(n int) slow {
	s := slow{}
	for i := range n {
		s[fmt.Sprintf("%03d", 2*i)] = strings.Repeat("v", i%65)
	}
	return s
}

// P13.1: Scan's edges are of each key, and of what lies between.
func TestScanEdges(t *testing.T) {
	_, p := begin(t, 60)
	s := some(60)
	root := putAll(t, p, 0, s)
	if f := is(t, p, root, s); f.deep != 2 || len(f.nodes) < 6 {
		t.Fatal(f.deep, len(f.nodes))
	}
	var edges []string
	for i := range 121 {
		edges = append(edges, fmt.Sprintf("%03d", i))
	}
	edges = append(edges, "", "0", "1", "\x00", "\xff", "0100", "010\x00", strings.Repeat("\xff", 72))
	for _, from := range edges {
		for _, to := range edges {
			scans(t, p, root, from, to, 200, s)
		}
		for _, most := range []int{0, 1, 2, 5, 20, 59, 60, 61, 1 << 40, maxInt} {
			scans(t, p, root, from, "", most, s)
			scans(t, p, root, from, "090", most, s)
		}
		if _, there := s[from]; !there {
			misses(t, p, root, from)
			absent(t, p, root, from)
		}
	}
}

// A scan of a tree of many levels, by chance.
func TestScanAgainstSlow(t *testing.T) {
	r := rand.New(rand.NewSource(13))
	_, p := begin(t, 1000)
	s := slow{}
	root := 0
	for range 400 {
		k, v := text(r, pick(r, 1, 2, 3, 40, 72)), text(r, pick(r, 0, 5, 64, 65, 600))
		root = put(t, p, root, k, v)
		s[k] = v
	}
	is(t, p, root, s)
	keys := s.scan("", "", len(s))
	edge := func() string { return pick(r, "", pick(r, keys...), text(r, r.Intn(4)), pick(r, keys...)+"\x00") }
	for range 2000 {
		from, to := edge(), edge()
		if len(from) <= 72 && len(to) <= 72 {
			scans(t, p, root, from, to, pick(r, 0, 1, 7, 100, maxInt), s)
		}
	}
}

// P13.2: a key has the value that it was put last.
func TestPutInThePlace(t *testing.T) {
	_, p := begin(t, 30)
	root := put(t, p, put(t, p, 0, "a", "1"), "c", "3")
	for _, n := range []int{0, 1, 63, 64, 65, 66, 490, 491, 492, 493, 981, 982, 983, 4095, 4096, 64, 4096, 4096, 65, 0, 0} {
		v := strings.Repeat("v", n)
		root = put(t, p, root, "b", v)
		f := is(t, p, root, slow{"a": "1", "b": v, "c": "3"})
		if len(f.nodes) != 1 || len(f.long) != pagesOf(n) {
			t.Error(n, f.nodes, f.long)
		}
		just(t, p, root)
	}
	root = put(t, p, root, "b", strings.Repeat("w", 4096))
	root = del(t, p, root, "b")
	is(t, p, root, slow{"a": "1", "c": "3"})
	just(t, p, root)
}

// The pages of a value, by hand: they are found by their numbers.
func TestPagesOfAValue(t *testing.T) {
	r := rand.New(rand.NewSource(2))
	for _, n := range []int{65, 491, 492, 982, 983, 4096} {
		_, p := begin(t, 30)
		v := text(r, n)
		root := put(t, p, 0, "k", v)
		kind, in, _ := p.Read(root)
		if kind != 2 || len(in) != 8 || string(in[:4]) != "\x01\x01k\xff" || int(in[4])+256*int(in[5]) != n {
			t.Fatalf("%d: %d %x", n, kind, in)
		}
		var got string
		no := int(in[6]) + 256*int(in[7])
		for no != 0 {
			kind, in, e := p.Read(no)
			if kind != 4 || e != api.OK {
				t.Fatal(kind, int(e))
			}
			no = int(in[0]) + 256*int(in[1])
			got += string(in[2:])
			if no != 0 && len(in) != 493 {
				t.Error(n, len(in))
			}
		}
		if got != v {
			t.Error(n, len(got))
		}
	}
}

func TestDelOfWhatIsNotThere(t *testing.T) {
	d, p := begin(t, 200)
	s := some(60)
	root := putAll(t, p, 0, s)
	commit(t, p, root)
	ops := d.Ops()
	for _, k := range []string{"", "0", "001", "051", "0500", "119", "12", "\xff", strings.Repeat("0", 72)} {
		absent(t, p, root, k)
	}
	if d.Ops() != ops || p.Waiting() != 0 {
		t.Error(d.Ops()-ops, p.Waiting())
	}
	just(t, p, root)
}

// A disk without room, or one that was cut, is told; the elder tree is whole, and what was laid is free again.
func TestThePagersErrors(t *testing.T) {
	for _, change := range []func(p *pager.Pager, root int) (int, api.Errno){
		func(p *pager.Pager, root int) (int, api.Errno) {
			return tree.Put(p, root, []byte("050"), bytes.Repeat([]byte("w"), 4096))
		},
		func(p *pager.Pager, root int) (int, api.Errno) {
			r, there, e := tree.Del(p, root, []byte("050"))
			if there != (e == api.OK) {
				t.Error(there, int(e))
			}
			return r, e
		},
	} {
		for _, isCommitted := range []bool{true, false} {
			for _, e := range []api.Errno{api.ErrFull, api.ErrCut} {
				n := 0
				for refusedBy(t, n, isCommitted, e, change) {
					n++
				}
				if n < 2 {
					t.Error(isCommitted, int(e), n)
				}
			}
		}
	}
}

// refusedBy does a change where but n pages are free, or n operations left; false: that was enough.
func refusedBy(t *testing.T, n int, isCommitted bool, want api.Errno, change func(p *pager.Pager, root int) (int, api.Errno)) bool {
	t.Helper()
	d, p := begin(t, 60)
	s := some(60)
	s["050"] = strings.Repeat("u", 2000)
	root := putAll(t, p, 0, s)
	if isCommitted {
		commit(t, p, root)
	}
	spare := 0
	if want == api.ErrFull {
		for p.Free() > n {
			p.Lay(9, nil)
			spare++
		}
	} else {
		d.Cut(n)
	}
	used, waiting := p.Used(), p.Waiting()
	next, e := change(p, root)
	d.Cut(-1)
	if e == api.OK {
		if next == 0 || p.Used()-spare != len(look(t, p, next, false).pages()) {
			t.Error(n, next, p.Used(), spare)
		}
		return false
	}
	if e != want || next != 0 || p.Used() != used || p.Waiting() != waiting {
		t.Error(n, int(e), next, p.Used()-used, p.Waiting()-waiting)
	}
	is(t, p, root, s)
	if p.Abort() != api.OK {
		t.Error("Abort")
	}
	if isCommitted {
		is(t, p, root, s)
		just(t, p, root)
	}
	return !t.Failed()
}

func TestBehindACommitThatFailed(t *testing.T) {
	d, p := begin(t, 60)
	s := some(30)
	root := putAll(t, p, 0, s)
	d.Cut(0)
	if e := p.Commit(root, 1, 1); e != api.ErrCut {
		t.Fatal(int(e))
	}
	d.Cut(-1)
	for range 2 {
		is(t, p, root, s)
		absent(t, p, root, "051")
		putRefused(t, p, root, "051", "x", api.ErrState)
		putRefused(t, p, 0, "051", "x", api.ErrState)
		delRefused(t, p, root, "050", api.ErrState)
		just(t, p, root)
	}
}

// A tree whose pages are not in use can't be changed: the pager says so.
func TestOfAnElderRoot(t *testing.T) {
	_, p := begin(t, 60)
	s := some(30)
	root := putAll(t, p, 0, s)
	commit(t, p, root)
	if _, e := p.Pin(); e != api.OK {
		t.Fatal(int(e))
	}
	next := put(t, p, root, "051", "new")
	commit(t, p, next)
	is(t, p, root, s)
	putRefused(t, p, root, "051", "x", api.ErrNone)
	if p.Abort() != api.OK {
		t.Error("Abort")
	}
	delRefused(t, p, root, "050", api.ErrNone)
	if p.Abort() != api.OK {
		t.Error("Abort")
	}
	is(t, p, root, s)
	just(t, p, next)
	s["051"] = "new"
	is(t, p, next, s)
}

// P13.2: what is on the way is written anew and dropped, and perhaps one beside each; nothing else is touched.
func TestWrittenAnew(t *testing.T) {
	r := rand.New(rand.NewSource(5))
	d, p := begin(t, 2000)
	s := slow{}
	root := 0
	for range 300 {
		k, v := text(r, pick(r, 2, 30, 72)), text(r, pick(r, 0, 20, 64, 64, 700))
		root = put(t, p, root, k, v)
		s[k] = v
	}
	commit(t, p, root)
	beside := 0
	for len(s) > 0 {
		key := pick(r, s.scan("", "", len(s))...)
		val, isPut := text(r, pick(r, 0, 0, 64, 1000)), r.Intn(3) == 0
		if isPut && r.Intn(2) == 0 {
			key = text(r, 3)
		}
		next, many := anew(t, d, p, root, s, key, func() int {
			if isPut {
				return put(t, p, root, key, val)
			}
			return del(t, p, root, key)
		})
		beside += many
		if t.Failed() {
			t.FailNow()
		}
		root = next
		commit(t, p, root)
		delete(s, key)
		if isPut {
			s[key] = val
		}
	}
	if beside < 20 {
		t.Error("beside", beside)
	}
}

// anew does a change of a key in a committed tree, and holds what it dropped against the nodes on the way; it tells the new root, and how many nodes beside these were dropped.
func anew(t *testing.T, d *sector.Disk, p *pager.Pager, root int, s slow, key string, change func() int) (next, beside int) {
	t.Helper()
	was := look(t, p, root, false)
	bytesWere := sectors(t, d, was.pages())
	way, near := wayTo(t, p, root, key)
	next = change()
	now := look(t, p, next, false)
	if p.Used() != len(now.pages()) || !sameSectors(bytesWere, sectors(t, d, was.pages())) {
		t.Error(p.Used(), len(now.pages()))
	}
	isGone := func(no int) bool { return !slices.Contains(now.nodes, no) }
	for _, no := range way {
		if !isGone(no) {
			t.Error("not written anew", no)
		}
	}
	for _, l := range near {
		gone := slices.DeleteFunc(slices.Clone(l), func(no int) bool { return !isGone(no) })
		if len(gone) > 1 {
			t.Error("two beside one", gone)
		}
		beside += len(gone)
	}
	gone := slices.DeleteFunc(slices.Clone(was.nodes), func(no int) bool { return !isGone(no) })
	if len(gone) != len(way)+beside {
		t.Error("gone", gone, "way", way)
	}
	if long := pagesOf(len(s[key])); p.Waiting() != len(gone)+long {
		t.Error("waiting", p.Waiting(), "gone", len(gone), long)
	}
	return next, beside
}

// pagesOf tells how many pages a value of so many bytes has.
func pagesOf(n int) int {
	if n <= 64 {
		return 0
	}
	return (n + 490) / 491
}

// Rule 4: what is handed in is not changed and not kept, what is handed out is new memory.
func TestMemory(t *testing.T) {
	_, p := begin(t, 60)
	s := slow{}
	root := 0
	for i := range 20 {
		key, val := []byte(fmt.Sprintf("k%02dSPARE", i)), []byte(strings.Repeat("v", 40*i)+"SPARE")
		wasKey, wasVal := bytes.Clone(key), bytes.Clone(val)
		r, e := tree.Put(p, root, key[:3], val[:40*i])
		if e != api.OK || !bytes.Equal(key, wasKey) || !bytes.Equal(val, wasVal) {
			t.Fatal(int(e), key, val)
		}
		root = r
		s[string(key[:3])] = string(val[:40*i])
		spoil(key)
		spoil(val)
	}
	is(t, p, root, s)
	for k := range s {
		v, _, _ := tree.Get(p, root, []byte(k))
		spoil(v)
	}
	l, _ := tree.Scan(p, root, nil, nil, 99)
	for i := range l {
		spoil(l[i].Key)
		spoil(l[i].Val)
		for _, x := range l[i+1:] {
			if string(x.Val) != s[string(x.Key)] {
				t.Fatalf("%q shares", x.Key)
			}
		}
	}
	one, _ := tree.Pages(p, root)
	for i := range one[:cap(one)] {
		one[:cap(one)][i] = -1
	}
	is(t, p, root, s)
	from, to := []byte("k03SPARE"), []byte("k05SPARE")
	if l, e := tree.Scan(p, root, from[:3], to[:3], 9); len(l) != 2 || e != api.OK || string(from)+string(to) != "k03SPAREk05SPARE" {
		t.Error(len(l), int(e), from, to)
	}
	if _, there, e := tree.Del(p, root, from[:3]); !there || e != api.OK || string(from) != "k03SPARE" {
		t.Error(there, int(e), from)
	}
}

// spoil writes over bytes, their spare room too.
func spoil(b []byte) {
	b = b[:cap(b)]
	for i := range b {
		b[i] = '!'
	}
}
