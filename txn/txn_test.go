package txn_test

import (
	"bytes"
	"fmt"
	"math"
	"slices"
	"strings"
	"testing"

	"cobweb/api"
	"cobweb/meta"
	"cobweb/pager"
	"cobweb/sector"
	"cobweb/tree"
	"cobweb/txn"
)

const (
	maxInt = math.MaxInt
	minInt = math.MinInt
	top    = 1 << 60 // the last of all numbers, and of all generations
)

func as(n int) string { return strings.Repeat("a", n) }

// no holds an error against the one that must be told.
func no(t *testing.T, what string, e, want api.Errno) {
	t.Helper()
	if e != want {
		t.Errorf("%s: error %d, not %d", what, int(e), int(want))
	}
}

func disk(t *testing.T, sectors int) *sector.Disk {
	t.Helper()
	d, e := sector.New(sectors)
	if e != api.OK {
		t.Fatal("New", sectors, int(e))
	}
	return d
}

func open(t *testing.T, d *sector.Disk) *txn.Store {
	t.Helper()
	s, e := txn.Open(d)
	if e != api.OK || s == nil {
		t.Fatal("Open", s, int(e))
	}
	return s
}

// create opens a disk of so many pages, which was made one of no keys.
func create(t *testing.T, pages int) (*sector.Disk, *txn.Store) {
	t.Helper()
	d := disk(t, 2+pages)
	if e := txn.Create(d); e != api.OK {
		t.Fatal("Create", int(e))
	}
	return d, open(t, d)
}

// begun is a store with a transaction.
func begun(t *testing.T, pages int) (*sector.Disk, *txn.Store) {
	t.Helper()
	d, s := create(t, pages)
	begin(t, s)
	return d, s
}

func crash(t *testing.T, d *sector.Disk, keep ...int) *sector.Disk {
	t.Helper()
	c, e := d.Crash(keep)
	if e != api.OK {
		t.Fatal("Crash", int(e))
	}
	return c
}

// look opens a disk below its store, and tells the committed Meta, and the pages of its tree.
func look(t *testing.T, d *sector.Disk) (meta.Meta, []int) {
	t.Helper()
	p, e := pager.Open(crash(t, d))
	if e != api.OK {
		t.Fatal("Open", int(e))
	}
	l, e := tree.Pages(p, p.Meta().Root)
	if e != api.OK {
		t.Fatal("Pages", int(e))
	}
	return p.Meta(), l
}

func begin(t *testing.T, s *txn.Store) {
	t.Helper()
	no(t, "Begin", s.Begin(), api.OK)
	if !s.Active() {
		t.Error("not active")
	}
}

func commit(t *testing.T, s *txn.Store) {
	t.Helper()
	gen := s.Gen()
	no(t, "Commit", s.Commit(), api.OK)
	if s.Active() || s.Gen() != gen+1 {
		t.Error("Commit", s.Active(), gen, s.Gen())
	}
}

func abort(t *testing.T, s *txn.Store) {
	t.Helper()
	gen := s.Gen()
	no(t, "Abort", s.Abort(), api.OK)
	if s.Active() || s.Gen() != gen {
		t.Error("Abort", s.Active(), gen, s.Gen())
	}
}

func put(t *testing.T, s *txn.Store, name, key, val string) {
	t.Helper()
	no(t, "Put "+name+" "+key, s.Put(name, []byte(key), []byte(val)), api.OK)
}

func del(t *testing.T, s *txn.Store, name, key string, want bool) {
	t.Helper()
	if there, e := s.Del(name, []byte(key)); there != want || e != api.OK {
		t.Errorf("Del %q %q: %v, error %d; not %v", name, key, there, int(e), want)
	}
}

// noDel holds Del's error against the right one.
func noDel(t *testing.T, s *txn.Store, name, key string, want api.Errno) {
	t.Helper()
	if there, e := s.Del(name, []byte(key)); there || e != want {
		t.Errorf("Del %q %q: %v, error %d; not %d", name, key, there, int(e), int(want))
	}
}

func save(t *testing.T, s *txn.Store, want int) {
	t.Helper()
	if n, e := s.Save(); n != want || e != api.OK {
		t.Errorf("Save: %d, error %d; not %d", n, int(e), want)
	}
}

func back(t *testing.T, s *txn.Store, place int) {
	t.Helper()
	no(t, fmt.Sprint("Back ", place), s.Back(place), api.OK)
	save(t, s, place)
}

func pin(t *testing.T, s *txn.Store, want int) {
	t.Helper()
	if n, e := s.Pin(); n != want || e != api.OK {
		t.Errorf("Pin: %d, error %d; not %d", n, int(e), want)
	}
}

func release(t *testing.T, s *txn.Store, view int, want api.Errno) {
	t.Helper()
	no(t, fmt.Sprint("Release ", view), s.Release(view), want)
}

func next(t *testing.T, s *txn.Store, which, want int) {
	t.Helper()
	peek(t, s, which, want)
	if n, e := s.Next(which); n != want || e != api.OK {
		t.Errorf("Next %d: %d, error %d; not %d", which, n, int(e), want)
	}
}

func peek(t *testing.T, s *txn.Store, which, want int) {
	t.Helper()
	if n, e := s.Peek(which); n != want || e != api.OK {
		t.Errorf("Peek %d: %d, error %d; not %d", which, n, int(e), want)
	}
}

// noNumber holds the error of Next and Peek against the right one.
func noNumber(t *testing.T, s *txn.Store, which int, want api.Errno) {
	t.Helper()
	if n, e := s.Next(which); n != 0 || e != want {
		t.Errorf("Next %d: %d, error %d; not %d", which, n, int(e), int(want))
	}
	if n, e := s.Peek(which); n != 0 || e != want {
		t.Errorf("Peek %d: %d, error %d; not %d", which, n, int(e), int(want))
	}
}

func has(t *testing.T, s *txn.Store, view int, name, key, want string) {
	t.Helper()
	if v, there, e := s.Get(view, name, []byte(key)); string(v) != want || !there || e != api.OK {
		t.Errorf("Get %d %q %q: %.40q %v, error %d; not %.40q", view, name, key, v, there, int(e), want)
	}
}

func lacks(t *testing.T, s *txn.Store, view int, name, key string) {
	t.Helper()
	noGet(t, s, view, name, key, api.OK)
}

func noGet(t *testing.T, s *txn.Store, view int, name, key string, want api.Errno) {
	t.Helper()
	if v, there, e := s.Get(view, name, []byte(key)); len(v) != 0 || there || e != want {
		t.Errorf("Get %d %q %q: %.40q %v, error %d; not %d", view, name, key, v, there, int(e), int(want))
	}
}

func noScan(t *testing.T, s *txn.Store, view int, name, from, to string, most int, want api.Errno) {
	t.Helper()
	if l, e := s.Scan(view, name, []byte(from), []byte(to), most); len(l) != 0 || e != want {
		t.Errorf("Scan %d %q %q %q %d: %v, error %d; not %d", view, name, from, to, most, l, int(e), int(want))
	}
}

// scans holds what a Scan tells, as keys with = and their values, against texts.
func scans(t *testing.T, s *txn.Store, view int, name, from, to string, most int, want ...string) {
	t.Helper()
	l, e := s.Scan(view, name, []byte(from), []byte(to), most)
	var told []string
	for _, x := range l {
		told = append(told, string(x.Key)+"="+string(x.Val))
	}
	if !slices.Equal(told, want) || e != api.OK {
		t.Errorf("Scan %d %q %q %q %d: %.200q, error %d; not %.200q", view, name, from, to, most, told, int(e), want)
	}
}

// all holds all pairs of a tree against texts.
func all(t *testing.T, s *txn.Store, view int, name string, want ...string) {
	t.Helper()
	scans(t, s, view, name, "", "", maxInt, want...)
}

func counts(t *testing.T, s *txn.Store, used, waiting, free int) {
	t.Helper()
	if s.Used() != used || s.Waiting() != waiting || s.Free() != free {
		t.Errorf("Used %d Waiting %d Free %d; not %d %d %d", s.Used(), s.Waiting(), s.Free(), used, waiting, free)
	}
}

// closed asks that each call that needs a transaction which may go on tells ErrState, ahead of all other errors.
func closed(t *testing.T, s *txn.Store) {
	t.Helper()
	gen, used, waiting, free := s.Gen(), s.Used(), s.Waiting(), s.Free()
	for _, name := range []string{"n", "", "1"} {
		no(t, "Put", s.Put(name, []byte("a"), nil), api.ErrState)
		no(t, "Put", s.Put(name, make([]byte, 73), make([]byte, 4097)), api.ErrState)
		noDel(t, s, name, "a", api.ErrState)
		noDel(t, s, name, as(73), api.ErrState)
	}
	for _, which := range []int{0, 1, 2, -1, minInt, maxInt} {
		noNumber(t, s, which, api.ErrState)
		no(t, "Back", s.Back(which), api.ErrState)
	}
	if n, e := s.Save(); n != 0 || e != api.ErrState {
		t.Error("Save", n, int(e))
	}
	no(t, "Commit", s.Commit(), api.ErrState)
	counts(t, s, used, waiting, free)
	if s.Gen() != gen {
		t.Error("Gen", s.Gen(), gen)
	}
}

// idle asks for all that a store without a transaction refuses.
func idle(t *testing.T, s *txn.Store) {
	t.Helper()
	if s.Active() {
		t.Error("active")
	}
	closed(t, s)
	no(t, "Abort", s.Abort(), api.ErrState)
}

// broken asks for all that a broken transaction refuses.
func broken(t *testing.T, s *txn.Store) {
	t.Helper()
	closed(t, s)
	no(t, "Begin", s.Begin(), api.ErrState)
	if !s.Active() {
		t.Error("not active")
	}
}

func TestExample(t *testing.T) {
	d, s := begun(t, 20)
	put(t, s, "n", "a", "x")
	save(t, s, 1)
	put(t, s, "n", "b", "y")
	back(t, s, 1)
	commit(t, s)
	all(t, s, 0, "n", "a=x")
	all(t, open(t, crash(t, d)), 0, "n", "a=x")
}

// Rule 1: of nil, and of a plain store.
func TestOfNil(t *testing.T) {
	for _, s := range []*txn.Store{nil, {}} {
		for _, e := range []api.Errno{s.Begin(), s.Commit(), s.Abort(), s.Back(0), s.Back(-1), s.Release(0), s.Release(2)} {
			no(t, "of none", e, api.ErrNil)
		}
		no(t, "Put", s.Put("n", nil, nil), api.ErrNil)
		no(t, "Put", s.Put("", make([]byte, 100), make([]byte, 5000)), api.ErrNil)
		noDel(t, s, "n", "a", api.ErrNil)
		noDel(t, s, "", "a", api.ErrNil)
		for _, which := range []int{0, 1, 2, -1} {
			noNumber(t, s, which, api.ErrNil)
			noGet(t, s, which, "n", "a", api.ErrNil)
			noGet(t, s, which, "", "a", api.ErrNil)
			noScan(t, s, which, "n", "", "", 9, api.ErrNil)
			noScan(t, s, which, "", "", "", -1, api.ErrNil)
		}
		if n, e := s.Save(); n != 0 || e != api.ErrNil {
			t.Error("Save", n, int(e))
		}
		if n, e := s.Pin(); n != 0 || e != api.ErrNil {
			t.Error("Pin", n, int(e))
		}
		if s.Active() || s.Gen() != 0 {
			t.Error(s.Active(), s.Gen())
		}
		counts(t, s, 0, 0, 0)
	}
}

// P15.1

func TestCreate(t *testing.T) {
	for _, d := range []*sector.Disk{nil, {}} {
		no(t, "Create", txn.Create(d), api.ErrNil)
	}
	for n := 1; n < 4; n++ {
		no(t, "Create", txn.Create(disk(t, n)), api.ErrArg)
	}
	for _, n := range []int{4, 5, 100, api.MaxSectors} {
		d := disk(t, n)
		no(t, "Create", txn.Create(d), api.OK)
		for _, d := range []*sector.Disk{d, crash(t, d)} {
			m, pages := look(t, d)
			if m != (meta.Meta{Gen: 2, Node: 1, Edge: 1}) || len(pages) != 0 {
				t.Error(n, m, pages)
			}
			s := open(t, d)
			idle(t, s)
			counts(t, s, 0, 0, n-2)
			if s.Gen() != 2 {
				t.Error(s.Gen())
			}
			all(t, s, 0, "n")
			release(t, s, 2, api.ErrNone)
		}
	}
	for n := range 3 {
		d := disk(t, 9)
		d.Cut(n)
		no(t, "Create", txn.Create(d), api.ErrCut)
	}
}

// Of a disk that has a store there is none of its keys behind Create.
func TestCreateAnew(t *testing.T) {
	d, s := begun(t, 20)
	put(t, s, "n", "a", "x")
	next(t, s, 0, 1)
	commit(t, s)
	no(t, "Create", txn.Create(d), api.OK)
	s = open(t, d)
	all(t, s, 0, "n")
	counts(t, s, 0, 0, 20)
	begin(t, s)
	next(t, s, 0, 1)
}

func noOpen(t *testing.T, d *sector.Disk, want api.Errno) {
	t.Helper()
	if s, e := txn.Open(d); s != nil || e != want {
		t.Errorf("Open: %v, error %d; not %d", s, int(e), int(want))
	}
}

// hand writes Metas to a disk, and lets them last.
func hand(t *testing.T, d *sector.Disk, metas ...meta.Meta) {
	t.Helper()
	for _, m := range metas {
		b, k, e := meta.Seal(m)
		if e != api.OK || d.Write(k, b) != api.OK {
			t.Fatal("Seal", m, int(e))
		}
	}
	no(t, "Flush", d.Flush(), api.OK)
}

func TestOpenRefuses(t *testing.T) {
	for _, d := range []*sector.Disk{nil, {}} {
		noOpen(t, d, api.ErrNil)
	}
	for _, n := range []int{1, 2, 3, 4, 100} {
		noOpen(t, disk(t, n), api.ErrCorrupt)
	}
	d, _ := create(t, 10)
	hand(t, d, meta.Meta{Gen: 3, Root: 12, Node: 1, Edge: 1})
	noOpen(t, d, api.ErrCorrupt) // no such sector
	hand(t, d, meta.Meta{Gen: 3, Root: 11, Node: 1, Edge: 1})
	noOpen(t, d, api.ErrCorrupt) // no node
	d, _ = create(t, 10)
	d.Write(1, nil)
	d.Cut(0) // the other Meta's sector is emptied
	noOpen(t, d, api.ErrCut)
	d.Cut(1)
	noOpen(t, d, api.ErrCut)
	d.Cut(-1)
	open(t, d)
}

// Each page of a tree, also of long values, must be right; the others need not be.
func TestOpenOfATreeThatIsNone(t *testing.T) {
	d, s := begun(t, 100)
	for i := range 60 {
		put(t, s, "n", fmt.Sprintf("%02d", i), as(i))
	}
	put(t, s, "z", "long", as(3000))
	commit(t, s)
	_, pages := look(t, d)
	if len(pages) < 10 {
		t.Fatal(pages)
	}
	for k := 2; k < d.Len(); k++ {
		c := crash(t, d)
		b, _ := c.Read(k)
		b[20] ^= 8
		c.Write(k, b)
		if slices.Contains(pages, k) {
			noOpen(t, c, api.ErrCorrupt)
		} else {
			all(t, open(t, c), 0, "z", "long="+as(3000))
		}
	}
}

func TestOpenKeepsThePages(t *testing.T) {
	d, s := begun(t, 100)
	for i := range 40 {
		put(t, s, "n", fmt.Sprintf("%02d", i), as(i))
	}
	put(t, s, "z", "long", as(3000))
	next(t, s, 1, 1)
	commit(t, s)
	pin(t, s, 3)
	_, pages := look(t, d)
	s = open(t, crash(t, d))
	counts(t, s, len(pages), 0, 100-len(pages))
	idle(t, s)
	release(t, s, 3, api.ErrNone)
	noGet(t, s, 3, "n", "00", api.ErrNone)
	if s.Gen() != 3 {
		t.Error(s.Gen())
	}
	begin(t, s)
	for i := 40; i < 80; i++ { // what is laid takes the place of none of them
		put(t, s, "n", fmt.Sprintf("%02d", i), as(i%40))
	}
	for i := range 80 {
		has(t, s, 0, "n", fmt.Sprintf("%02d", i), as(i%40))
	}
	has(t, s, 0, "z", "long", as(3000))
}

// P15.2

func TestStates(t *testing.T) {
	_, s := create(t, 20)
	idle(t, s)
	begin(t, s)
	no(t, "Begin", s.Begin(), api.ErrState)
	put(t, s, "n", "a", "1")
	no(t, "Begin", s.Begin(), api.ErrState)
	save(t, s, 1)
	commit(t, s)
	idle(t, s)
	begin(t, s)
	save(t, s, 0)
	put(t, s, "n", "a", "2")
	put(t, s, "n", "b", "2")
	next(t, s, 0, 1)
	next(t, s, 1, 1)
	has(t, s, 0, "n", "a", "2")
	abort(t, s)
	idle(t, s)
	all(t, s, 0, "n", "a=1")
	counts(t, s, 1, 0, 19)
	begin(t, s)
	peek(t, s, 0, 1)
	peek(t, s, 1, 1)
	save(t, s, 0)
	del(t, s, "n", "a", true)
	commit(t, s)
	all(t, s, 0, "n")
	counts(t, s, 0, 0, 20)
}

// A Commit of nothing is one, too.
func TestCommitOfNothing(t *testing.T) {
	d, s := create(t, 4)
	for gen := 3; gen < 20; gen++ {
		begin(t, s)
		commit(t, s)
		m, _ := look(t, d)
		if s.Gen() != gen || m != (meta.Meta{Gen: gen, Node: 1, Edge: 1}) {
			t.Error(gen, s.Gen(), m)
		}
	}
}

// failed asks for all that a store refuses behind a Commit that failed, and for what it still tells.
func failed(t *testing.T, s *txn.Store, gen int, name string, want ...string) {
	t.Helper()
	idle(t, s)
	no(t, "Begin", s.Begin(), api.ErrState)
	no(t, "Begin", s.Begin(), api.ErrState)
	idle(t, s)
	if s.Gen() != gen {
		t.Error("Gen", s.Gen(), gen)
	}
	all(t, s, 0, name, want...)
	pin(t, s, gen)
	all(t, s, gen, name, want...)
	release(t, s, gen, api.OK)
	release(t, s, gen, api.ErrNone)
}

func TestCommitFails(t *testing.T) {
	for n := range 3 {
		d, s := begun(t, 20)
		put(t, s, "n", "a", "1")
		next(t, s, 0, 1)
		commit(t, s)
		begin(t, s)
		put(t, s, "n", "a", "2")
		next(t, s, 0, 2)
		d.Cut(n)
		no(t, "Commit", s.Commit(), api.ErrCut)
		failed(t, s, 3, "n", "a=1")
		d.Cut(-1)
		failed(t, s, 3, "n", "a=1")
		s = open(t, crash(t, d))
		all(t, s, 0, "n", "a=1")
		begin(t, s)
		next(t, s, 0, 2)
		s = open(t, crash(t, d, 512, 512, 512))
		has(t, s, 0, "n", "a", []string{"1", "1", "2"}[n])
		begin(t, s)
		next(t, s, 0, []int{2, 2, 3}[n])
	}
}

// What a Commit fails with is the pager's error, also where that refuses the numbers; then none of its pages are used.
func TestCommitOfNumbersThatAreNone(t *testing.T) {
	for which := range 2 {
		d, _ := create(t, 20)
		hand(t, d, meta.Meta{Gen: 3, Node: top, Edge: top})
		s := open(t, d)
		begin(t, s)
		next(t, s, which, top)
		put(t, s, "n", "a", as(1000))
		no(t, "Commit", s.Commit(), api.ErrArg)
		failed(t, s, 3, "n")
		counts(t, s, 0, 0, 20)
	}
	d, s := begun(t, 20)
	put(t, s, "n", "a", "1")
	put(t, s, "n", "b", as(1000))
	commit(t, s)
	m, pages := look(t, d)
	hand(t, d, meta.Meta{Gen: 4, Root: m.Root, Node: top, Edge: 7})
	s = open(t, d)
	begin(t, s)
	next(t, s, 0, top)
	next(t, s, 1, 7)
	del(t, s, "n", "b", true)
	no(t, "Commit", s.Commit(), api.ErrArg)
	failed(t, s, 4, "n", "a=1", "b="+as(1000))
	counts(t, s, len(pages), 0, 20-len(pages))
}

// Behind the last of all generations there is no next one.
func TestTheLastGeneration(t *testing.T) {
	d, _ := create(t, 20)
	hand(t, d, meta.Meta{Gen: top - 1, Node: 5, Edge: 6})
	s := open(t, d)
	begin(t, s)
	put(t, s, "n", "a", "1")
	commit(t, s)
	begin(t, s)
	no(t, "Put", s.Put("n", []byte("b"), nil), api.ErrArg)
	broken(t, s)
	all(t, s, 0, "n", "a=1")
	abort(t, s)
	begin(t, s)
	no(t, "Commit", s.Commit(), api.ErrArg)
	failed(t, s, top, "n", "a=1")
}

// P15.3

func TestPutAndDel(t *testing.T) {
	_, s := begun(t, 60)
	put(t, s, "n", "", "none")
	put(t, s, "n", "a", "")
	put(t, s, "n", "b", as(4096))
	put(t, s, "n", "a", "x")
	put(t, s, "m", "a", "y")
	put(t, s, as(16), as(55), "long")
	put(t, s, "_", as(70), "long, too")
	all(t, s, 0, "n", "=none", "a=x", "b="+as(4096))
	all(t, s, 0, "m", "a=y")
	all(t, s, 0, as(16), as(55)+"=long")
	all(t, s, 0, "_", as(70)+"=long, too")
	all(t, s, 0, "nn")
	del(t, s, "n", "c", false)
	del(t, s, "nn", "a", false)
	del(t, s, "n", "a", true)
	del(t, s, "n", "a", false)
	del(t, s, "n", "", true)
	del(t, s, as(16), as(55), true)
	all(t, s, 0, "n", "b="+as(4096))
	all(t, s, 0, "m", "a=y")
	all(t, s, 0, as(16))
	commit(t, s)
	all(t, s, 0, "n", "b="+as(4096))
}

// noNames are texts that are no names.
func noNames() []string {
	return []string{"", "1", "a b", "a-", "é", "a\x00", as(17), as(300)}
}

func TestPutAndDelRefuse(t *testing.T) {
	_, s := begun(t, 60)
	put(t, s, "n", "a", "x")
	for _, name := range noNames() {
		no(t, "Put", s.Put(name, nil, nil), api.ErrArg)
		no(t, "Put", s.Put(name, make([]byte, 73), make([]byte, 4097)), api.ErrArg)
		noDel(t, s, name, "a", api.ErrArg)
		noDel(t, s, name, as(73), api.ErrArg)
	}
	for _, c := range []struct {
		name string
		most int
	}{{"n", 70}, {"nn", 69}, {as(16), 55}} {
		for _, over := range []int{1, 2, 17, 1000} {
			no(t, "Put", s.Put(c.name, make([]byte, c.most+over), nil), api.ErrBig)
			noDel(t, s, c.name, as(c.most+over), api.ErrBig)
		}
		no(t, "Put", s.Put(c.name, make([]byte, c.most), make([]byte, 4097)), api.ErrBig)
		noDel(t, s, c.name, as(c.most), api.OK)
	}
	for _, n := range []int{4097, 4098, 10000} {
		no(t, "Put", s.Put("n", []byte("a"), make([]byte, n)), api.ErrBig)
	}
	for _, which := range []int{-1, 2, 3, minInt, maxInt} {
		noNumber(t, s, which, api.ErrArg)
	}
	all(t, s, 0, "n", "a=x") // it is not broken
	put(t, s, "n", "b", "y")
	commit(t, s)
	all(t, s, 0, "n", "a=x", "b=y")
}

// What is refused is no place to go back to.
func TestRefusedCountsNot(t *testing.T) {
	_, s := begun(t, 60)
	put(t, s, "n", "a", "x")
	no(t, "Put", s.Put("", []byte("a"), nil), api.ErrArg)
	no(t, "Put", s.Put("n", make([]byte, 71), nil), api.ErrBig)
	no(t, "Put", s.Put("n", []byte("a"), make([]byte, 4097)), api.ErrBig)
	noDel(t, s, "", "a", api.ErrArg)
	noDel(t, s, "n", as(71), api.ErrBig)
	no(t, "Back", s.Back(2), api.ErrArg)
	save(t, s, 1)
	back(t, s, 0)
	all(t, s, 0, "n")
}

func TestNumbers(t *testing.T) {
	d, s := begun(t, 20)
	next(t, s, 0, 1)
	next(t, s, 0, 2)
	next(t, s, 1, 1)
	peek(t, s, 0, 3)
	peek(t, s, 1, 2)
	commit(t, s)
	if m, _ := look(t, d); m != (meta.Meta{Gen: 3, Node: 3, Edge: 2}) {
		t.Error(m)
	}
	begin(t, s)
	next(t, s, 0, 3)
	next(t, s, 1, 2)
	next(t, s, 1, 3)
	abort(t, s)
	begin(t, s)
	next(t, s, 0, 3)
	put(t, s, "n", "a", "x")
	next(t, s, 1, 2)
	back(t, s, 0)
	next(t, s, 0, 4) // numbers are not done back
	next(t, s, 1, 3)
	commit(t, s)
	s = open(t, crash(t, d))
	begin(t, s)
	next(t, s, 0, 5)
	next(t, s, 1, 4)
}

func TestNumbersEnd(t *testing.T) {
	for _, node := range []int{top - 2, top - 1, top} {
		for which := range 2 {
			d, _ := create(t, 20)
			m := meta.Meta{Gen: 3, Node: 7, Edge: node}
			if which == 0 {
				m.Node, m.Edge = node, 7
			}
			hand(t, d, m)
			s := open(t, d)
			begin(t, s)
			for n := node; n <= top; n++ {
				next(t, s, which, n)
			}
			for range 3 {
				peek(t, s, which, top+1)
				if n, e := s.Next(which); n != 0 || e != api.ErrFull {
					t.Error(n, int(e))
				}
			}
			next(t, s, 1-which, 7)
			put(t, s, "n", "a", "x") // it is not broken
			abort(t, s)
			begin(t, s)
			peek(t, s, which, node)
			for n := node; n < top; n++ {
				next(t, s, which, n)
			}
			commit(t, s)
			begin(t, s)
			next(t, s, which, top)
		}
	}
}

// A disk that has no room left breaks the transaction; what was done so far is told, till the Abort.
func TestFullBreaks(t *testing.T) {
	_, s := begun(t, 12)
	put(t, s, "n", "a", as(491))
	commit(t, s)
	used, free := s.Used(), s.Free()
	begin(t, s)
	next(t, s, 0, 1)
	put(t, s, "n", "b", as(491*3))
	put(t, s, "n", "a", "short")
	no(t, "Put", s.Put("n", []byte("c"), make([]byte, 4096)), api.ErrFull)
	broken(t, s)
	all(t, s, 0, "n", "a=short", "b="+as(491*3))
	noGet(t, s, 0, "1", "a", api.ErrArg)
	pin(t, s, 3)
	all(t, s, 3, "n", "a="+as(491))
	release(t, s, 3, api.OK)
	broken(t, s)
	abort(t, s)
	all(t, s, 0, "n", "a="+as(491))
	counts(t, s, used, 0, free)
	begin(t, s)
	peek(t, s, 0, 1)
	put(t, s, "n", "b", "y")
	commit(t, s)
	all(t, s, 0, "n", "a="+as(491), "b=y")
}

// A Del needs room, too.
func TestFullBreaksDel(t *testing.T) {
	_, s := begun(t, 4)
	put(t, s, "n", "a", "1")
	put(t, s, "n", "b", "2")
	commit(t, s)
	begin(t, s)
	put(t, s, "m", "c", as(491*2))
	noDel(t, s, "n", "a", api.ErrFull)
	broken(t, s)
	all(t, s, 0, "n", "a=1", "b=2")
	abort(t, s)
	counts(t, s, 1, 0, 3)
}

func TestCutBreaks(t *testing.T) {
	for n := range 2 {
		d, s := begun(t, 40)
		put(t, s, "n", "a", "1")
		put(t, s, "n", "b", "1")
		commit(t, s)
		begin(t, s)
		d.Cut(n)
		for range n {
			put(t, s, "n", "a", "2")
		}
		if n == 0 {
			no(t, "Put", s.Put("n", []byte("a"), nil), api.ErrCut)
		} else {
			noDel(t, s, "n", "a", api.ErrCut)
		}
		d.Cut(-1)
		broken(t, s)
		all(t, s, 0, "n", "a="+[]string{"1", "2"}[n], "b=1")
		abort(t, s)
		all(t, s, 0, "n", "a=1", "b=1")
		counts(t, s, 1, 0, 39)
		begin(t, s)
		put(t, s, "n", "a", "3")
		commit(t, s)
		all(t, s, 0, "n", "a=3", "b=1")
	}
}

// A page that is none breaks a transaction that needs it, and is told of each look at it.
func TestCorruptBreaks(t *testing.T) {
	d, s := begun(t, 40)
	put(t, s, "n", "a", "1")
	commit(t, s)
	pin(t, s, 3)
	m, _ := look(t, d)
	whole, _ := d.Read(m.Root)
	d.Write(m.Root, nil)
	for range 2 {
		for _, view := range []int{0, 3} {
			noGet(t, s, view, "n", "a", api.ErrCorrupt)
			noScan(t, s, view, "n", "", "", 9, api.ErrCorrupt)
			scans(t, s, view, "n", "", "", 0)
		}
		begin(t, s)
		no(t, "Put", s.Put("n", []byte("a"), nil), api.ErrCorrupt)
		broken(t, s)
		noGet(t, s, 0, "n", "a", api.ErrCorrupt)
		abort(t, s)
		begin(t, s)
		noDel(t, s, "n", "b", api.ErrCorrupt)
		broken(t, s)
		abort(t, s)
	}
	d.Write(m.Root, whole)
	begin(t, s)
	put(t, s, "n", "a", "2")
	d.Write(m.Root, nil) // the elder state's page
	has(t, s, 0, "n", "a", "2")
	noGet(t, s, 3, "n", "a", api.ErrCorrupt)
	commit(t, s)
	has(t, s, 0, "n", "a", "2")
}

// P15.4

func TestSaveAndBack(t *testing.T) {
	_, s := begun(t, 60)
	put(t, s, "n", "z", "committed")
	put(t, s, "n", "y", as(1000))
	commit(t, s)
	begin(t, s)
	var was [][]string
	told := func() (l []string) {
		for _, name := range []string{"n", "m"} {
			pairs, _ := s.Scan(0, name, nil, nil, 99)
			for _, x := range pairs {
				l = append(l, fmt.Sprintf("%s %q %q", name, x.Key, x.Val))
			}
		}
		return l
	}
	do := func() {
		for i, step := range []func(){
			func() { put(t, s, "n", "a", "1") },
			func() { put(t, s, "n", "a", "2") },
			func() { put(t, s, "n", "a", "2") },
			func() { del(t, s, "n", "z", true) },
			func() { del(t, s, "n", "z", false) },
			func() { put(t, s, "m", "z", as(4096)) },
			func() { put(t, s, "n", "y", "") },
			func() { put(t, s, "n", "z", "") },
			func() { del(t, s, "n", "a", true) },
			func() { put(t, s, "n", "a", as(700)) },
			func() { del(t, s, "m", "z", true) },
			func() { del(t, s, "n", "y", true) },
		} {
			save(t, s, i)
			was = append(was, told())
			step()
		}
		save(t, s, 12)
		was = append(was, told())
	}
	for place := range 13 {
		was = nil
		do()
		for _, k := range []int{-1, minInt, 13, 14, maxInt} {
			no(t, "Back", s.Back(k), api.ErrArg)
		}
		save(t, s, 12)
		back(t, s, 12)
		if !slices.Equal(told(), was[12]) {
			t.Error(told(), was[12])
		}
		back(t, s, place)
		if !slices.Equal(told(), was[place]) {
			t.Error(place, told(), was[place])
		}
		no(t, "Back", s.Back(place+1), api.ErrArg)
		back(t, s, 0)
		if !slices.Equal(told(), was[0]) {
			t.Error(place, told(), was[0])
		}
	}
	put(t, s, "n", "b", "")
	back(t, s, 1)
	commit(t, s)
	all(t, s, 0, "n", "b=", "y="+as(1000), "z=committed")
	all(t, s, 0, "m")
}

// A Back that has no room for its work breaks the transaction: what was done back so far is told.
func TestBackBreaks(t *testing.T) {
	_, s := begun(t, 12)
	put(t, s, "n", "a", as(491*8)) // nine pages
	commit(t, s)
	counts(t, s, 9, 0, 3)
	begin(t, s)
	del(t, s, "n", "a", true) // its pages wait
	put(t, s, "n", "b", "1")
	put(t, s, "n", "b", "2")
	no(t, "Back", s.Back(0), api.ErrFull)
	broken(t, s)
	all(t, s, 0, "n")
	abort(t, s)
	all(t, s, 0, "n", "a="+as(491*8))
	counts(t, s, 9, 0, 3)
}

func TestBackIsCut(t *testing.T) {
	for n := range 3 {
		d, s := begun(t, 40)
		for _, k := range []string{"a", "b", "c"} {
			put(t, s, "n", k, "")
		}
		put(t, s, "n", "d", "")
		d.Cut(n)
		no(t, "Back", s.Back(0), api.ErrCut)
		broken(t, s)
		all(t, s, 0, "n", []string{"a=", "b=", "c=", "d="}[:4-n]...)
		d.Cut(-1)
		broken(t, s)
		abort(t, s)
		all(t, s, 0, "n")
	}
}

// P15.5

func TestPins(t *testing.T) {
	_, s := create(t, 60)
	pin(t, s, 2)
	begin(t, s)
	put(t, s, "n", "a", "1")
	put(t, s, "n", "l", as(600))
	pin(t, s, 2) // the committed state, not the transaction's
	all(t, s, 2, "n")
	commit(t, s)
	for range 3 {
		pin(t, s, 3)
	}
	begin(t, s)
	put(t, s, "n", "a", "2")
	del(t, s, "n", "l", true)
	for range 3 {
		all(t, s, 2, "n")
		all(t, s, 3, "n", "a=1", "l="+as(600))
		all(t, s, 0, "n", "a=2")
		release(t, s, 3, api.OK)
	}
	release(t, s, 3, api.ErrNone)
	noGet(t, s, 3, "n", "a", api.ErrNone)
	pin(t, s, 3)
	commit(t, s)
	all(t, s, 3, "n", "a=1", "l="+as(600))
	for _, view := range []int{1, 4, 5, -1, -3, minInt, maxInt, 0} {
		release(t, s, view, api.ErrNone)
		if view != 0 {
			noGet(t, s, view, "n", "a", api.ErrNone)
			noScan(t, s, view, "n", "", "", 9, api.ErrNone)
		}
	}
	release(t, s, 2, api.OK)
	all(t, s, 2, "n")
	release(t, s, 2, api.OK)
	noGet(t, s, 2, "n", "a", api.ErrNone)
	all(t, s, 3, "n", "a=1", "l="+as(600))
	counts(t, s, 1, 3, 56)
	release(t, s, 3, api.OK)
	counts(t, s, 1, 0, 59)
	all(t, s, 0, "n", "a=2")
}

// Forest's errors come ahead of a view that is not pinned, and that ahead of tree's.
func TestGetAndScanRefuse(t *testing.T) {
	_, s := begun(t, 60)
	put(t, s, "n", "a", "x")
	for _, view := range []int{0, 2, 7, -1} {
		for _, name := range noNames() {
			noGet(t, s, view, name, as(73), api.ErrArg)
			noScan(t, s, view, name, as(73), as(73), -1, api.ErrArg)
		}
		noGet(t, s, view, "n", as(71), api.ErrBig)
		noScan(t, s, view, "n", as(71), "", -1, api.ErrBig)
		noScan(t, s, view, "n", "", as(71), -1, api.ErrBig)
		if view != 0 {
			noGet(t, s, view, "n", as(70), api.ErrNone)
			noScan(t, s, view, "n", as(70), as(70), -1, api.ErrNone)
		}
	}
	lacks(t, s, 0, "n", as(70))
	noScan(t, s, 0, "n", "", "", -1, api.ErrArg)
	noScan(t, s, 0, "n", "", "", minInt, api.ErrArg)
	all(t, s, 0, "n", "a=x")
}

func TestScanByHand(t *testing.T) {
	_, s := begun(t, 60)
	for _, name := range []string{"m", "n", "n1", "o"} {
		for _, k := range []string{"", "a", "ab", "b", "\xff\xff"} {
			put(t, s, name, k, name)
		}
	}
	all(t, s, 0, "n", "=n", "a=n", "ab=n", "b=n", "\xff\xff=n")
	scans(t, s, 0, "n", "", "", 0)
	scans(t, s, 0, "n", "", "", 1, "=n")
	scans(t, s, 0, "n", "a", "", 2, "a=n", "ab=n")
	scans(t, s, 0, "n", "a", "ab", 9, "a=n")
	scans(t, s, 0, "n", "a\x00", "b", 9, "ab=n")
	scans(t, s, 0, "n", "a", "a", 9)
	scans(t, s, 0, "n", "b", "a", 9)
	scans(t, s, 0, "n1", "ac", "\xff\xff\x00", 9, "b=n1", "\xff\xff=n1")
	scans(t, s, 0, "o", "\xff\xff\x00", "", 9)
	scans(t, s, 0, "mm", "", "", 9)
	scans(t, s, 0, "m", as(70), "", 1, "ab=m")
}

// Rule 4

// spoil writes over bytes, their spare room too.
func spoil(b []byte) {
	b = b[:cap(b)]
	for i := range b {
		b[i] = '!'
	}
}

func TestMemory(t *testing.T) {
	_, s := begun(t, 90)
	for _, n := range []int{0, 1, 64, 65, 600} {
		key, val := []byte("keySPARE"), []byte(as(n)+"SPARE")
		name := fmt.Sprint("n", n)
		put(t, s, name, "other", "x")
		for range 2 { // there is nothing, and then something
			no(t, "Put", s.Put(name, key[:3], val[:n]), api.OK)
			if string(key) != "keySPARE" || string(val) != as(n)+"SPARE" {
				t.Error(key, val)
			}
		}
		place, _ := s.Save()
		from := bytes.Clone(key)
		if there, e := s.Del(name, key[:3]); !there || e != api.OK || !bytes.Equal(from, key) {
			t.Error(there, int(e), key)
		}
		spoil(key)
		spoil(val)
		back(t, s, place)
		all(t, s, 0, name, "key="+as(n), "other=x")
		v, _, _ := s.Get(0, name, from[:3])
		spoil(v)
		l, _ := s.Scan(0, name, from[:1], from[3:], 9)
		if len(l) != 0 || string(from) != "keySPARE" {
			t.Error(l, from)
		}
		l, _ = s.Scan(0, name, nil, nil, 9)
		spoil(l[0].Key)
		spoil(l[0].Val)
		if string(l[1].Key) != "other" || string(l[1].Val) != "x" {
			t.Error(l[1])
		}
		for _, x := range l[:cap(l)][len(l):] {
			if x.Key != nil || x.Val != nil {
				t.Error("spare", x)
			}
		}
		all(t, s, 0, name, "key="+as(n), "other=x")
	}
	commit(t, s)
}
