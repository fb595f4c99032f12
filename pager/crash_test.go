package pager_test

import (
	"bytes"
	"maps"
	"math/rand"
	"slices"
	"strconv"
	"testing"

	"cobweb/api"
	"cobweb/meta"
	"cobweb/pager"
	"cobweb/sector"
)

// state is one that a crash may find: a Meta, and what its pages tell.
type state struct {
	meta  meta.Meta
	pages map[int]string
}

// slow is what a pager must be, read off the chapter: each page on its own.
type slow struct {
	last         state
	next         *state // of a Commit that failed
	pinned       []state
	pages        []slowPage // from 2 on
	kept, anLaid bool
}

type slowPage struct {
	used, laid bool
	gone       int // the Gen from which on no state has it
	text       string
}

func slowOf(pages int, last state) *slow {
	return &slow{last: last, pages: make([]slowPage, pages)}
}

func (s *slow) page(k int) *slowPage {
	if k < 2 || k >= 2+len(s.pages) {
		return nil
	}
	return &s.pages[k-2]
}

// isFree tells whether neither the next state, nor the committed one, nor a pinned one, nor one between these, has a page.
func (s *slow) isFree(x slowPage) bool {
	gen := s.last.meta.Gen
	for _, p := range s.pinned {
		gen = min(gen, p.meta.Gen)
	}
	return !x.used && x.gone <= gen
}

func (s *slow) counts() (free, waiting, used int) {
	for _, x := range s.pages {
		switch {
		case x.used:
			used++
		case s.isFree(x):
			free++
		default:
			waiting++
		}
	}
	return free, waiting, used
}

func (s *slow) keep(pages []int) api.Errno {
	if s.kept || s.anLaid {
		return api.ErrState
	}
	s.kept = true
	for _, k := range pages {
		x := s.page(k)
		if x == nil {
			return api.ErrArg
		}
		if x.used {
			return api.ErrThere
		}
		*x = slowPage{used: true, text: s.last.pages[k]}
	}
	return api.OK
}

func (s *slow) lay(text string, cut bool) (int, api.Errno) {
	if s.next != nil {
		return 0, api.ErrState
	}
	i := slices.IndexFunc(s.pages, s.isFree)
	if i < 0 {
		return 0, api.ErrFull
	}
	if cut {
		return 0, api.ErrCut
	}
	s.pages[i] = slowPage{used: true, laid: true, text: text}
	s.anLaid = true
	return i + 2, api.OK
}

func (s *slow) drop(k int) api.Errno {
	x := s.page(k)
	switch {
	case x == nil:
		return api.ErrArg
	case !x.used:
		return api.ErrNone
	case x.laid:
		*x = slowPage{}
	default:
		x.used, x.gone = false, s.last.meta.Gen+1
	}
	return api.OK
}

func (s *slow) commit(root, node, edge int, cut bool) api.Errno {
	if s.next != nil {
		return api.ErrState
	}
	if x := s.page(root); root != 0 && (x == nil || !x.used) {
		return api.ErrArg
	}
	if node < s.last.meta.Node || edge < s.last.meta.Edge {
		return api.ErrArg
	}
	next := state{meta.Meta{Gen: s.last.meta.Gen + 1, Root: root, Node: node, Edge: edge}, map[int]string{}}
	for i, x := range s.pages {
		if x.used {
			next.pages[i+2] = x.text
		}
	}
	if cut {
		s.next = &next
		return api.ErrCut
	}
	s.last = next
	for i := range s.pages {
		s.pages[i].laid = false
	}
	return api.OK
}

func (s *slow) abort() api.Errno {
	if s.next != nil {
		return api.ErrState
	}
	for i, x := range s.pages {
		if x.laid {
			s.pages[i] = slowPage{}
		} else if !x.used && x.gone > s.last.meta.Gen {
			s.pages[i].used = true
		}
	}
	return api.OK
}

func (s *slow) unpin(gen int) api.Errno {
	i := slices.IndexFunc(s.pinned, func(p state) bool { return p.meta.Gen == gen })
	if i < 0 {
		return api.ErrNone
	}
	s.pinned = slices.Delete(s.pinned, i, i+1)
	return api.OK
}

// holds holds what a pager reads against a state's pages; one without a text was kept, and never laid.
func holds(t *testing.T, p *pager.Pager, s state) {
	t.Helper()
	for k, text := range s.pages {
		isThere(t, p, k, text)
	}
}

func isThere(t *testing.T, p *pager.Pager, k int, text string) {
	t.Helper()
	if text == "" {
		unread(t, p, k, api.ErrCorrupt)
	} else {
		reads(t, p, k, 7, text)
	}
}

func (s *slow) same(t *testing.T, p *pager.Pager) {
	t.Helper()
	isMeta(t, p, s.last.meta)
	free, waiting, used := s.counts()
	counts(t, p, free, waiting, used)
	for _, l := range append([]state{s.last}, s.pinned...) {
		holds(t, p, l)
	}
	for i, x := range s.pages {
		if x.used {
			isThere(t, p, i+2, x.text)
		}
	}
}

// run is a pager, its disk, and what it must be.
type run struct {
	r    *rand.Rand
	d    *sector.Disk
	p    *pager.Pager
	s    *slow
	many int
}

func (u *run) some(l ...int) int { return l[u.r.Intn(len(l))] }

// cut cuts the disk now and then, behind less operations than it is asked for, and tells whether.
func (u *run) cut(operations int) bool {
	if u.r.Intn(6) > 0 {
		return false
	}
	u.d.Cut(u.r.Intn(operations))
	return true
}

func (u *run) step(t *testing.T) {
	t.Helper()
	k := u.r.Intn(len(u.s.pages)+4) - 1
	switch u.r.Intn(14) {
	case 0, 1, 2, 3:
		u.many++
		text, cut := strconv.Itoa(u.many), u.cut(1)
		got, e := u.p.Lay(7, []byte(text))
		if want, f := u.s.lay(text, cut); got != want || e != f {
			t.Errorf("Lay: %d %d, not %d %d", got, int(e), want, int(f))
		}
	case 4, 5, 6:
		no(t, "Drop", u.p.Drop(k), u.s.drop(k))
	case 7, 8, 9:
		m := u.s.last.meta
		root, node, edge := u.some(0, k, k, k), m.Node+u.some(0, 0, 1, 9, -1), m.Edge+u.some(0, 0, 1, 9)
		cut := u.cut(3)
		no(t, "Commit", u.p.Commit(root, node, edge), u.s.commit(root, node, edge, cut))
	case 10:
		no(t, "Abort", u.p.Abort(), u.s.abort())
	case 11:
		pin(t, u.p, u.s.last.meta.Gen)
		u.s.pinned = append(u.s.pinned, u.s.last)
	case 12:
		gen := u.s.last.meta.Gen - u.r.Intn(4)
		if len(u.s.pinned) > 0 && u.r.Intn(2) == 0 {
			gen = u.s.pinned[u.r.Intn(len(u.s.pinned))].meta.Gen
		}
		unpin(t, u.p, gen, u.s.unpin(gen))
	case 13:
		no(t, "Keep", u.p.Keep([]int{k}), u.s.keep([]int{k}))
	}
	u.d.Cut(-1)
	u.s.same(t, u.p)
}

// keeps tells how much of each write that waits is kept, by chance.
func (u *run) keeps() []int {
	l := make([]int, u.r.Intn(u.d.Waiting()+2))
	for i := range l {
		l[i] = u.some(0, 0, api.Size, api.Size, u.r.Intn(api.Size), u.r.Intn(60), -1, maxInt)
	}
	return l
}

// reopen opens what a crash left, where the opening may crash, too, and holds it against what may be found.
func (u *run) reopen(t *testing.T) {
	t.Helper()
	d := crash(t, u.d, u.keeps()...)
	for u.r.Intn(2) == 0 {
		d.Cut(u.r.Intn(3))
		pager.Open(d)
		d = crash(t, d, u.some(0, 0, 1, 5, u.r.Intn(api.Size), api.Size))
	}
	p := open(t, d)
	s := u.s.last
	if u.s.next != nil && p.Meta() == u.s.next.meta {
		s = *u.s.next
	}
	isMeta(t, p, s.meta)
	holds(t, p, s)
	u.d, u.p, u.s = d, p, slowOf(len(u.s.pages), s)
	kept := slices.Sorted(maps.Keys(s.pages))
	no(t, "Keep", p.Keep(kept), u.s.keep(kept))
	u.s.same(t, p)
}

// P10.3 to P10.7, by chance.
func TestAgainstSlow(t *testing.T) {
	r := rand.New(rand.NewSource(10))
	for range 150 {
		pages := 2 + r.Intn(9)
		d, p := begin(t, pages)
		u := &run{r: r, d: d, p: p, s: slowOf(pages, state{meta: two})}
		for range 300 {
			u.step(t)
			if u.s.next != nil && r.Intn(3) == 0 || r.Intn(60) == 0 {
				u.reopen(t)
			}
			if t.Failed() {
				t.FailNow()
			}
		}
	}
}

// script lays, drops, pins, aborts and commits, and tells of each Commit the state behind it, and whether it ended; false: the disk was cut.
func script(t *testing.T, p *pager.Pager, tell func(next state, ended bool)) bool {
	t.Helper()
	now := map[int]string{}
	lay := func(text string) bool {
		k, e := p.Lay(7, []byte(text))
		if e == api.OK {
			now[k] = text
		}
		return e == api.OK
	}
	done := func(root int) bool {
		next := state{meta.Meta{Gen: p.Meta().Gen + 1, Root: root, Node: 1 + p.Meta().Gen, Edge: 4}, maps.Clone(now)}
		tell(next, false)
		if p.Commit(root, next.meta.Node, 4) != api.OK {
			return false
		}
		tell(next, true)
		return true
	}
	gone := func(pages ...int) {
		drop(t, p, pages...)
		for _, k := range pages {
			delete(now, k)
		}
	}
	if !lay("a") || !lay("b") || !lay("c") || !done(2) {
		return false
	}
	gone(2)
	if !lay("d") {
		return false
	}
	gone(3, 5)
	if !lay("e") || !done(4) || !lay("f") {
		return false
	}
	was := maps.Clone(now)
	gone(4, 2)
	no(t, "Abort", p.Abort(), api.OK)
	delete(was, 2) // it was laid, and is free
	now = was
	if !lay("g") || !lay("h") {
		return false
	}
	gone(4)
	pin(t, p, p.Meta().Gen)
	if !done(2) || !lay("i") || !lay("j") || !done(0) {
		return false
	}
	unpin(t, p, p.Meta().Gen-2, api.OK)
	return lay("k") && done(4)
}

// keepLists tells what may be kept of so many writes: none, all, each alone, all but one, and parts by chance.
func keepLists(r *rand.Rand, waits int) [][]int {
	l := [][]int{nil, slices.Repeat([]int{api.Size}, waits)}
	for i := range waits {
		alone, others := make([]int, waits), slices.Repeat([]int{api.Size}, waits)
		alone[i], others[i] = api.Size, 0
		l = append(l, alone, others)
	}
	for range 12 {
		parts := make([]int, waits)
		for i := range parts {
			parts[i] = []int{0, r.Intn(api.Size + 1), r.Intn(60), api.Size}[r.Intn(4)]
		}
		l = append(l, parts)
	}
	return l
}

// P10.7: the disk is cut behind each operation of a script, and what a crash leaves is opened.
func TestCrashAnywhere(t *testing.T) {
	r := rand.New(rand.NewSource(11))
	for n := range 100 {
		d, p := begin(t, 8)
		may := []state{{meta: two}}
		d.Cut(n)
		whole := script(t, p, func(next state, ended bool) {
			if ended {
				may = nil
			}
			may = append(may, next)
		})
		for _, keep := range keepLists(r, d.Waiting()) {
			c := crash(t, d, keep...)
			q := open(t, c)
			i := slices.IndexFunc(may, func(s state) bool { return s.meta == q.Meta() })
			if i < 0 {
				t.Fatalf("cut behind %d, kept %v: Meta %v, not of %v", n, keep, q.Meta(), may)
			}
			holds(t, q, may[i])
		}
		if t.Failed() {
			t.Fatal(n)
		}
		if whole {
			if n < 20 || len(may) != 1 {
				t.Error(n, may)
			}
			return
		}
	}
	t.Error("it was cut each time")
}

// The Meta that a Commit writes counts when all of it is there, and not ahead of that; so again and again, whatever the elder one left.
func TestTornMeta(t *testing.T) {
	for _, again := range []int{0, 1, 10, 46, 47, 300, 511} {
		for n := range api.Size + 1 {
			d, p := begin(t, 4)
			lays(t, p, "a", 2)
			commit(t, p, 2)
			for _, keep := range []int{again, n} {
				lays(t, p, "b", 3)
				drop(t, p, 2)
				d.Cut(2)
				no(t, "Commit", p.Commit(3, 9, 9), api.ErrCut)
				whole := sealed(t, meta.Meta{Gen: 4, Root: 3, Node: 9, Edge: 9})
				c := crash(t, d, keep)
				left := read(t, c, 0)
				if bytes.Equal(left, whole) {
					q := open(t, c)
					isMeta(t, q, meta.Meta{Gen: 4, Root: 3, Node: 9, Edge: 9})
					reads(t, q, 3, 7, "b")
					break
				}
				d, p = c, open(t, c)
				isMeta(t, p, meta.Meta{Gen: 3, Root: 2, Node: 1, Edge: 1})
				reads(t, p, 2, 7, "a")
				if !bytes.Equal(left, sealed(t, two)) {
					sectorIs(t, crash(t, c), 0, nil)
				}
				no(t, "Keep", p.Keep([]int{2}), api.OK)
			}
			if t.Failed() {
				t.Fatal(again, n)
			}
		}
	}
}

// A crash in the opening, however much of its write is kept, leaves what an opening finds.
func TestCrashInTheOpening(t *testing.T) {
	m := meta.Meta{Gen: 3, Root: 2, Node: 1, Edge: 1}
	for _, torn := range []int{6, 13, 30, 46, 200} { // the first five bytes are the elder one's, too
		for n := range api.Size + 1 {
			d, p := begin(t, 4)
			lays(t, p, "a", 2)
			commit(t, p, 2)
			d.Cut(2)
			no(t, "Commit", p.Commit(2, 5, 5), api.ErrCut)
			c := crash(t, d, torn)
			c.Cut(1)
			if q, e := pager.Open(c); q != nil || e != api.ErrCut {
				t.Fatal(q, int(e))
			}
			c = crash(t, c, n)
			q := open(t, c)
			isMeta(t, q, m)
			reads(t, q, 2, 7, "a")
			sectorIs(t, crash(t, c), 0, nil)
		}
	}
}

// A page of a pinned state is laid anew as soon as that is let go, and no sooner.
func TestPinnedIsNotLaidAnew(t *testing.T) {
	const many = 30
	_, p := begin(t, many+2)
	lays(t, p, "a", 2)
	commit(t, p, 2)
	pin(t, p, 3)
	for i := range many {
		turn(t, p, 2+i, 3+i)
	}
	reads(t, p, 2, 7, "a")
	lays(t, p, "b", many+3)
	refused(t, p, nil, api.ErrFull)
	unpin(t, p, 3, api.OK)
	counts(t, p, many, 0, 2)
	lays(t, p, "b", 2, 3, 4)
}
