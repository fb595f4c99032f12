package tree_test

import (
	"fmt"
	"maps"
	"math/rand"
	"slices"
	"strings"
	"testing"

	"cobweb/api"
	"cobweb/pager"
	"cobweb/tree"
)

// state is a root, and what its tree must be.
type state struct {
	gen, root int
	pairs     slow
}

// run is a tree that is changed by chance, its last committed state, and the pinned ones.
type run struct {
	r         *rand.Rand
	p         *pager.Pager
	now, last state
	pinned    []state
	key, val  func(r *rand.Rand) string
}

func (s state) copied() state { return state{s.gen, s.root, maps.Clone(s.pairs)} }

func (u *run) put(t *testing.T) {
	t.Helper()
	k, v := u.key(u.r), u.val(u.r)
	if len(u.now.pairs) > 0 && u.r.Intn(3) == 0 {
		k = pick(u.r, slices.Sorted(maps.Keys(u.now.pairs))...)
	}
	r, e := tree.Put(u.p, u.now.root, []byte(k), []byte(v))
	if e == api.ErrFull && r == 0 {
		u.abort(t)
		return
	}
	if e != api.OK || r == 0 {
		t.Fatal(r, int(e))
	}
	u.now.root, u.now.pairs[k] = r, v
	gets(t, u.p, r, k, v)
}

func (u *run) del(t *testing.T) {
	t.Helper()
	k := u.key(u.r)
	if len(u.now.pairs) > 0 && u.r.Intn(9) > 0 {
		k = pick(u.r, slices.Sorted(maps.Keys(u.now.pairs))...)
	}
	if _, there := u.now.pairs[k]; !there {
		absent(t, u.p, u.now.root, k)
		return
	}
	r, there, e := tree.Del(u.p, u.now.root, []byte(k))
	if e == api.ErrFull && r == 0 && !there {
		u.abort(t)
		return
	}
	if e != api.OK || !there {
		t.Fatal(r, there, int(e))
	}
	u.now.root = r
	delete(u.now.pairs, k)
	misses(t, u.p, r, k)
}

// abort is behind ErrFull, too: the tree is then whole, and its pages just those in use.
func (u *run) abort(t *testing.T) {
	t.Helper()
	is(t, u.p, u.now.root, u.now.pairs)
	just(t, u.p, u.now.root)
	if e := u.p.Abort(); e != api.OK {
		t.Fatal(int(e))
	}
	u.now = u.last.copied()
}

func (u *run) step(t *testing.T, puts int) {
	t.Helper()
	switch n := u.r.Intn(100); {
	case n < 3:
		commit(t, u.p, u.now.root)
		u.now.gen = u.p.Meta().Gen
		u.last = u.now.copied()
	case n < 4:
		u.abort(t)
	case n < 6 && len(u.pinned) < 3:
		gen, e := u.p.Pin()
		if e != api.OK || gen != u.last.gen {
			t.Fatal(gen, int(e))
		}
		u.pinned = append(u.pinned, u.last)
	case n < 8 && len(u.pinned) > 0:
		i := u.r.Intn(len(u.pinned))
		if e := u.p.Unpin(u.pinned[i].gen); e != api.OK {
			t.Fatal(int(e))
		}
		u.pinned = slices.Delete(u.pinned, i, i+1)
	case n < 8+puts:
		u.put(t)
	default:
		u.del(t)
	}
	just(t, u.p, u.now.root)
}

// elder asks that the committed and the pinned states tell what they told.
func (u *run) elder(t *testing.T) {
	t.Helper()
	for _, s := range append(slices.Clone(u.pinned), u.last) {
		is(t, u.p, s.root, s.pairs)
	}
}

func keyOf(lens ...int) func(r *rand.Rand) string {
	return func(r *rand.Rand) string { return text(r, pick(r, lens...)) }
}

// nearOf tells keys that begin with the same bytes, and differ at their ends.
func nearOf(r *rand.Rand) string {
	return strings.Repeat("\x80", pick(r, 0, 1, 35, 69, 70)) + text(r, pick(r, 1, 2))
}

func numberOf(r *rand.Rand) string { return fmt.Sprintf("%08d", r.Intn(500)) }

// P13.2, P13.3, by chance.
func TestAgainstSlow(t *testing.T) {
	for i, c := range []struct{ key, val func(r *rand.Rand) string }{
		{keyOf(1, 2), keyOf(0)},
		{keyOf(1), keyOf(0, 1, 64)},
		{keyOf(72), keyOf(64)},
		{keyOf(0, 1, 72), keyOf(0, 64)},
		{keyOf(3, 72), keyOf(0, 0, 0, 64, 65)},
		{keyOf(60, 72), keyOf(0)},
		{nearOf, keyOf(0, 10, 64, 64)},
		{nearOf, keyOf(0, 64, 65, 491, 492, 4096)},
		{numberOf, keyOf(20, 60)},
		{keyOf(4, 20), keyOf(0, 30, 65, 2000)},
	} {
		r := rand.New(rand.NewSource(int64(i)))
		_, p := begin(t, pick(r, 250, 400, 900))
		u := &run{r: r, p: p, key: c.key, val: c.val, now: state{gen: 2, pairs: slow{}}, last: state{gen: 2, pairs: slow{}}}
		for _, puts := range []int{75, 30, 60, 45, 85, 5} {
			for n := range 300 {
				u.step(t, puts)
				if n%7 == 0 {
					is(t, p, u.now.root, u.now.pairs)
				}
				if n%50 == 0 {
					u.elder(t)
				}
				if t.Failed() {
					t.Fatal("profile", i)
				}
			}
		}
	}
}

// turns tells numbers in an order: rising, falling, from the middle on, from both ends, and by chance.
func turns(r *rand.Rand, n int) [][]int {
	var up, middle, ends []int
	for i := range n {
		up = append(up, i)
		middle = append(middle, n/2+(i+1)/2*(1-i%2*2))
		ends = append(ends, i%2*(n-1)+i/2*(1-i%2*2))
	}
	down := slices.Clone(up)
	slices.Reverse(down)
	return [][]int{up, down, middle, ends, r.Perm(n)}
}

// In whatever order keys come and go, each node but the root is at least a quarter full at each time.
func TestOrders(t *testing.T) {
	r := rand.New(rand.NewSource(3))
	const n = 60
	for _, size := range []struct{ key, val int }{{72, 64}, {72, 0}, {4, 64}, {2, 0}, {72, 100}} {
		for _, in := range turns(r, n) {
			for _, out := range turns(r, n) {
				_, p := begin(t, 500)
				s := slow{}
				root := 0
				for j, l := range [][]int{in, out} {
					for _, i := range l {
						k := fmt.Sprintf("%02d", i) + strings.Repeat("k", size.key-2)
						if j == 0 {
							s[k] = as(size.val)
							root = put(t, p, root, k, s[k])
						} else {
							root = del(t, p, root, k)
							delete(s, k)
						}
						if f := look(t, p, root, false); !maps.Equal(f.pairs, s) || p.Used() != len(f.pages()) {
							t.Fatal(size, in, out, i, len(f.pairs), p.Used())
						}
					}
				}
				if t.Failed() || root != 0 || p.Used() != 0 {
					t.Fatal(size, in, out, root, p.Used())
				}
			}
		}
	}
}

// A few great entries: all orders in which they come, and some in which they go.
func TestAllOrders(t *testing.T) {
	const n = 7
	var all [][]int
	var add func(l []int)
	add = func(l []int) {
		if len(l) == n {
			all = append(all, slices.Clone(l))
		}
		for i := range n {
			if !slices.Contains(l, i) {
				add(append(l, i))
			}
		}
	}
	add(nil)
	for j, in := range all {
		_, p := begin(t, 30)
		root := 0
		for _, i := range in {
			root = put(t, p, root, fmt.Sprint(i)+strings.Repeat("k", 71), as(64))
			look(t, p, root, false)
		}
		for left, i := range all[(j*1009)%len(all)] {
			root = del(t, p, root, fmt.Sprint(i)+strings.Repeat("k", 71))
			if f := look(t, p, root, false); len(f.pairs) != n-1-left || p.Used() != len(f.nodes) {
				t.Fatal(in, left, i)
			}
		}
		if t.Failed() || root != 0 {
			t.Fatal(in, root)
		}
	}
}

// fill puts chance keys till no page is free.
func fill(t *testing.T, p *pager.Pager, r *rand.Rand) (int, slow) {
	t.Helper()
	root, s := 0, slow{}
	for {
		k := text(r, 72)
		next, e := tree.Put(p, root, []byte(k), []byte(k[:64]))
		if e == api.ErrFull && next == 0 {
			return root, s
		}
		if e != api.OK {
			t.Fatal(int(e))
		}
		root, s[k] = next, k[:64]
	}
}

// A disk that is full of nodes holds no more than 16 above one another; what goes gives room.
func TestAFullDisk(t *testing.T) {
	const spare = 20
	d, p := begin(t, api.MaxSectors-2)
	for range spare {
		p.Lay(9, nil)
	}
	root, s := fill(t, p, rand.New(rand.NewSource(6)))
	for no := 2; no < 2+spare; no++ {
		p.Drop(no)
	}
	f := is(t, p, root, s)
	just(t, p, root)
	if f.deep < 5 || f.deep > 16 || p.Free() > 2*spare || len(s) < 6000 {
		t.Error(f.deep, p.Free(), len(s))
	}
	commit(t, p, root)
	keys := s.scan("", "", len(s))
	for _, k := range keys[:len(keys)-1000] {
		next, there, e := tree.Del(p, root, []byte(k))
		if e == api.ErrFull && next == 0 && !there { // what was dropped waits for the Commit
			commit(t, p, root)
			next = del(t, p, root, k)
		} else if e != api.OK || !there {
			t.Fatal(int(e), there)
		}
		root = next
		delete(s, k)
	}
	commit(t, p, root)
	just(t, p, root)
	c, e := d.Crash(nil)
	q, e2 := pager.Open(c)
	if e != api.OK || e2 != api.OK {
		t.Fatal(int(e), int(e2))
	}
	is(t, q, q.Meta().Root, s)
}
