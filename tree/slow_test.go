package tree_test

import (
	"bytes"
	"maps"
	"math/rand"
	"slices"
	"strings"
	"testing"

	"cobweb/api"
	"cobweb/node"
	"cobweb/pager"
	"cobweb/sector"
	"cobweb/tree"
)

// What the chapter says, once more, as slowly as it is said there.

// slow is what a tree must be: a map, that is gone over in order.
type slow map[string]string

// scan tells the keys from one on, where to is not empty below that, the first most ones.
func (s slow) scan(from, to string, most int) []string {
	var l []string
	for _, k := range slices.Sorted(maps.Keys(s)) {
		if k >= from && (to == "" || k < to) && len(l) < most {
			l = append(l, k)
		}
	}
	return l
}

// found is what the pages of a tree tell, looked at one by one.
type found struct {
	t     *testing.T
	p     *pager.Pager
	pairs slow
	nodes []int
	long  []int
	deep  int
	ways  map[string][]int // of a key all pages that its value needs
	loose bool             // nodes may be less than a quarter full
}

// look goes over the pages of a tree, and asks of them all that the chapter says of such ones.
func look(t *testing.T, p *pager.Pager, root int, loose bool) *found {
	t.Helper()
	f := &found{t: t, p: p, pairs: slow{}, ways: map[string][]int{}, loose: loose}
	if root == 0 {
		return f
	}
	f.node(root, nil, nil, nil)
	all := f.pages()
	if len(slices.Compact(slices.Clone(all))) != len(all) {
		t.Error("a page is used twice", all)
	}
	if len(f.pairs) == 0 || f.deep > 16 {
		t.Error(root, len(f.pairs), f.deep)
	}
	return f
}

func (f *found) pages() []int { return slices.Sorted(slices.Values(slices.Concat(f.nodes, f.long))) }

// node looks at a node below others, whose keys are from one on, and below another one.
func (f *found) node(no int, above []int, from, to *string) {
	f.t.Helper()
	above = append(slices.Clone(above), no)
	deep := len(above)
	kind, in, e := f.p.Read(no)
	n, e2 := node.Read(kind, in)
	if e != api.OK || e2 != api.OK {
		f.t.Fatal("page", no, "kind", kind, int(e), int(e2))
	}
	f.nodes = append(f.nodes, no)
	if deep > 1 && 4*len(in) < 493 && !f.loose {
		f.t.Errorf("page %d has %d bytes", no, len(in))
	}
	var keys []*string
	for _, b := range n.Keys {
		k := string(b)
		if from != nil && k < *from || to != nil && k >= *to {
			f.t.Errorf("page %d: %q is not where it must be", no, k)
		}
		keys = append(keys, &k)
	}
	if !n.Leaf {
		keys = slices.Concat([]*string{from}, keys, []*string{to})
		for i, kid := range n.Kids {
			f.node(kid, above, keys[i], keys[i+1])
		}
		return
	}
	if f.deep != 0 && f.deep != deep {
		f.t.Error("leaves", f.deep, "and", deep, "deep")
	}
	f.deep = deep
	for i, k := range keys {
		was := len(f.long)
		f.pairs[*k] = f.value(n.Vals[i])
		f.ways[*k] = slices.Concat(above, f.long[was:])
	}
}

// value reads a value's pages: each has the next one's number, and 491 bytes, the last one what is left.
func (f *found) value(v node.Val) string {
	f.t.Helper()
	if v.Page == 0 {
		return string(v.In)
	}
	var s strings.Builder
	for no := v.Page; no != 0; {
		f.long = append(f.long, no)
		kind, in, e := f.p.Read(no)
		left := v.Long - s.Len()
		if kind != 4 || e != api.OK || left < 1 || len(in) != 2+min(left, 491) {
			f.t.Fatal("value's page", no, "kind", kind, int(e), len(in), left)
		}
		s.Write(in[2:])
		no = int(in[0]) + 256*int(in[1])
	}
	if s.Len() != v.Long {
		f.t.Error("a value of", s.Len(), "bytes, not", v.Long)
	}
	return s.String()
}

// wayTo tells the nodes' pages on the way to a key, and of each but the root those of the ones beside it.
func wayTo(t *testing.T, p *pager.Pager, root int, key string) (way []int, beside [][]int) {
	t.Helper()
	for no := root; no != 0; {
		way = append(way, no)
		kind, in, _ := p.Read(no)
		n, e := node.Read(kind, in)
		if e != api.OK {
			t.Fatal(no, int(e))
		}
		if n.Leaf {
			break
		}
		i := 0
		for i < len(n.Keys) && string(n.Keys[i]) <= key {
			i++
		}
		no = n.Kids[i]
		beside = append(beside, slices.Concat(n.Kids[max(i-1, 0):i], n.Kids[i+1:min(i+2, len(n.Kids))]))
	}
	return way, beside
}

// begin opens a disk of so many pages, which was formatted.
func begin(t *testing.T, pages int) (*sector.Disk, *pager.Pager) {
	t.Helper()
	d, e := sector.New(2 + pages)
	if e != api.OK || pager.Format(d) != api.OK {
		t.Fatal("New, Format", int(e))
	}
	p, e := pager.Open(d)
	if e != api.OK {
		t.Fatal("Open", int(e))
	}
	return d, p
}

func put(t *testing.T, p *pager.Pager, root int, key, val string) int {
	t.Helper()
	r, e := tree.Put(p, root, []byte(key), []byte(val))
	if r == 0 || e != api.OK {
		t.Fatalf("Put %q: %d, error %d", key, r, int(e))
	}
	return r
}

func del(t *testing.T, p *pager.Pager, root int, key string) int {
	t.Helper()
	r, there, e := tree.Del(p, root, []byte(key))
	if !there || e != api.OK {
		t.Fatalf("Del %q: %d %v, error %d", key, r, there, int(e))
	}
	return r
}

// putAll puts the pairs of a map, rising.
func putAll(t *testing.T, p *pager.Pager, root int, s slow) int {
	t.Helper()
	for _, k := range s.scan("", "", len(s)) {
		root = put(t, p, root, k, s[k])
	}
	return root
}

func commit(t *testing.T, p *pager.Pager, root int) {
	t.Helper()
	if e := p.Commit(root, 1, 1); e != api.OK {
		t.Fatal("Commit", root, int(e))
	}
}

// gets asks for a key that is there.
func gets(t *testing.T, p *pager.Pager, root int, key, want string) {
	t.Helper()
	if v, ok, e := tree.Get(p, root, []byte(key)); string(v) != want || !ok || e != api.OK {
		t.Errorf("Get %q: %.40q %v, error %d; not %.40q", key, v, ok, int(e), want)
	}
}

// misses asks for a key that isn't there.
func misses(t *testing.T, p *pager.Pager, root int, key string) {
	t.Helper()
	if v, ok, e := tree.Get(p, root, []byte(key)); len(v) != 0 || ok || e != api.OK {
		t.Errorf("Get %q: %.40q %v, error %d", key, v, ok, int(e))
	}
}

// scans holds a Scan against the right keys, with their values.
func scans(t *testing.T, p *pager.Pager, root int, from, to string, most int, s slow) {
	t.Helper()
	l, e := tree.Scan(p, root, []byte(from), []byte(to), most)
	var keys []string
	for _, x := range l {
		keys = append(keys, string(x.Key))
		if string(x.Val) != s[string(x.Key)] {
			t.Errorf("Scan %q %q: %q has %.40q, not %.40q", from, to, x.Key, x.Val, s[string(x.Key)])
		}
	}
	if want := s.scan(from, to, most); !slices.Equal(keys, want) || e != api.OK {
		t.Errorf("Scan %q %q %d: %q, error %d; not %q", from, to, most, keys, int(e), want)
	}
}

// is asks that the tree of a root has just a map's pairs, by its pages and by all calls.
func is(t *testing.T, p *pager.Pager, root int, s slow) *found {
	t.Helper()
	return isSo(t, p, root, s, false)
}

func isSo(t *testing.T, p *pager.Pager, root int, s slow, loose bool) *found {
	t.Helper()
	f := look(t, p, root, loose)
	if !maps.Equal(f.pairs, s) {
		t.Errorf("%d pairs, not %d", len(f.pairs), len(s))
	}
	if (root == 0) != (len(s) == 0) {
		t.Error("root", root, "of", len(s))
	}
	if l, e := tree.Pages(p, root); !slices.Equal(l, f.pages()) || e != api.OK {
		t.Errorf("Pages %v, error %d; not %v", l, int(e), f.pages())
	}
	if n, e := tree.Depth(p, root); n != f.deep || e != api.OK {
		t.Errorf("Depth %d, error %d; not %d", n, int(e), f.deep)
	}
	scans(t, p, root, "", "", len(s)+1, s)
	for k, v := range s {
		gets(t, p, root, k, v)
	}
	return f
}

// just asks that a tree's pages are those in use.
func just(t *testing.T, p *pager.Pager, root int) {
	t.Helper()
	if l, e := tree.Pages(p, root); len(l) != p.Used() || e != api.OK {
		t.Errorf("%d pages, error %d; %d are in use", len(l), int(e), p.Used())
	}
}

// sectors tells the bytes of pages.
func sectors(t *testing.T, d *sector.Disk, pages []int) [][]byte {
	t.Helper()
	var l [][]byte
	for _, no := range pages {
		b, e := d.Read(no)
		if e != api.OK {
			t.Fatal(no, int(e))
		}
		l = append(l, b)
	}
	return l
}

func sameSectors(a, b [][]byte) bool { return slices.EqualFunc(a, b, bytes.Equal) }

func text(r *rand.Rand, n int) string {
	b := make([]byte, n)
	r.Read(b)
	return string(b)
}

func pick[T any](r *rand.Rand, l ...T) T { return l[r.Intn(len(l))] }
