package txn_test

import (
	"fmt"
	"maps"
	"math/rand"
	"slices"
	"strings"
	"testing"

	"cobweb/api"
	"cobweb/sector"
	"cobweb/tree"
	"cobweb/txn"
)

// What the chapter says, once more, as slowly as it is said there.

// state is what named trees have: a map for each name.
type state map[string]map[string]string

func (s state) copied() state {
	c := state{}
	for name, m := range s {
		c[name] = maps.Clone(m)
	}
	return c
}

func (s state) with(name, key, val string) state {
	c := s.copied()
	if c[name] == nil {
		c[name] = map[string]string{}
	}
	c[name][key] = val
	return c
}

func (s state) without(name, key string) state {
	c := s.copied()
	delete(c[name], key)
	return c
}

// scan tells a tree's keys, with = and their values, from one on, where to is not empty below that, the first most ones.
func (s state) scan(name, from, to string, most int) []string {
	var l []string
	for _, k := range slices.Sorted(maps.Keys(s[name])) {
		if k >= from && (to == "" || k < to) && len(l) < most {
			l = append(l, k+"="+s[name][k])
		}
	}
	return l
}

func same(a, b state) bool {
	for _, name := range names() {
		if !maps.Equal(a[name], b[name]) {
			return false
		}
	}
	return true
}

// names are those of the trees; some begin others, and some are beside others.
func names() []string { return []string{"n", "m", "n1", "nn", "_", as(16)} }

func right(name string) bool { return slices.Contains(names(), name) }

// read tells all that a view has.
func read(t *testing.T, s *txn.Store, view int) state {
	t.Helper()
	all := state{}
	for _, name := range names() {
		l, e := s.Scan(view, name, nil, nil, maxInt)
		if e != api.OK {
			t.Fatal("Scan", view, name, int(e))
		}
		all[name] = map[string]string{}
		for _, x := range l {
			all[name][string(x.Key)] = string(x.Val)
		}
		if !slices.IsSortedFunc(l, func(a, b tree.Pair) int { return strings.Compare(string(a.Key), string(b.Key)) }) {
			t.Error("not rising", name)
		}
	}
	return all
}

func is(t *testing.T, s *txn.Store, view int, want state) {
	t.Helper()
	if got := read(t, s, view); !same(got, want) {
		t.Errorf("view %d: %.300q, not %.300q", view, got, want)
	}
}

// slow is what a store must be.
type slow struct {
	gen     int
	last    state
	numbers [2]int
	now     *slowWork
	pins    []slowPin // one for each Pin
	failed  bool
	pages   map[int][]int // of each generation, from Open on
}

type slowPin struct {
	gen  int
	what state
}

type slowWork struct {
	was     []state // ahead of each Put and Del that was not done back
	what    state
	numbers [2]int
	broken  bool
}

func (m *slow) begin() api.Errno {
	if m.now != nil || m.failed {
		return api.ErrState
	}
	m.now = &slowWork{what: m.last, numbers: m.numbers}
	return api.OK
}

// open tells the error of a call that needs a transaction which may go on.
func (m *slow) open() api.Errno {
	if m.now == nil || m.now.broken {
		return api.ErrState
	}
	return api.OK
}

func (m *slow) change(name, key, val string) api.Errno {
	if e := m.open(); e != api.OK {
		return e
	}
	if !right(name) {
		return api.ErrArg
	}
	if len(key)+len(name)+1 > 72 || len(val) > 4096 {
		return api.ErrBig
	}
	return api.OK
}

func (m *slow) done(next state) {
	m.now.was = append(m.now.was, m.now.what)
	m.now.what = next
}

func (m *slow) pinned(gen int) int {
	return slices.IndexFunc(m.pins, func(p slowPin) bool { return p.gen == gen })
}

// view tells what a view has; nil: there is no such one.
func (m *slow) view(view int) state {
	if view == 0 && m.now != nil {
		return m.now.what
	}
	if view == 0 {
		return m.last
	}
	if i := m.pinned(view); i >= 0 {
		return m.pins[i].what
	}
	return nil
}

// waiting tells how many pages the committed state does not have, that a state has which is neither ahead of all pinned ones, nor that one.
func (m *slow) waiting() int {
	least := m.gen
	for _, p := range m.pins {
		least = min(least, p.gen)
	}
	elder := map[int]int{}
	for gen := least; gen < m.gen; gen++ {
		for _, k := range m.pages[gen] {
			elder[k]++
		}
	}
	for _, k := range m.pages[m.gen] {
		delete(elder, k)
	}
	return len(elder)
}

// run is a store, its disk, and what it must be.
type run struct {
	t     *testing.T
	r     *rand.Rand
	d     *sector.Disk
	s     *txn.Store
	m     *slow
	tight bool  // a change may have no room
	cut   bool  // the disk was cut ahead of what is asked
	next  state // of a Commit that failed, with its numbers
	nexts [2]int
}

func pick[T any](r *rand.Rand, l ...T) T { return l[r.Intn(len(l))] }

func begins(t *testing.T, r *rand.Rand, pages int, tight bool) *run {
	d, s := create(t, pages)
	u := &run{t: t, r: r, d: d, s: s, tight: tight, m: &slow{gen: 2, last: state{}, numbers: [2]int{1, 1}, pages: map[int][]int{}}}
	u.m.pages[2] = nil
	return u
}

// breaks tells whether an error is one that the disk may tell, though all else is right; then the transaction must be broken.
func (u *run) breaks(e api.Errno) bool {
	if e == api.ErrFull && u.tight || e == api.ErrCut && u.cut {
		u.m.now.broken = true
		return true
	}
	return false
}

func (u *run) cuts(operations int) {
	u.cut = u.r.Intn(40) == 0
	if u.cut {
		u.d.Cut(u.r.Intn(operations))
	}
}

func (u *run) name() string {
	if u.r.Intn(30) == 0 {
		return pick(u.r, noNames()...)
	}
	return pick(u.r, names()...)
}

// key tells one that is there, mostly, where some are.
func (u *run) key(name string) string {
	there := slices.Sorted(maps.Keys(u.m.view(0)[name]))
	if len(there) > 0 && u.r.Intn(2) == 0 {
		return pick(u.r, there...)
	}
	k := fmt.Sprint(u.r.Intn(200))
	if u.r.Intn(8) == 0 {
		room := max(71-len(name)-len(k), 0)
		return k + as(pick(u.r, 20, room, room+1))
	}
	return k
}

func (u *run) val() string {
	n := pick(u.r, 0, 1, 20, 64, 65, 100, u.r.Intn(700), u.r.Intn(64))
	if u.r.Intn(40) == 0 {
		n = pick(u.r, 4096, 4097)
	}
	return strings.Repeat(string(rune('a'+u.r.Intn(26))), n)
}

func (u *run) put() {
	u.t.Helper()
	name := u.name()
	key, val := u.key(name), u.val()
	want := u.m.change(name, key, val)
	if want == api.OK {
		u.cuts(5)
	}
	e := u.s.Put(name, []byte(key), []byte(val))
	if want == api.OK && u.breaks(e) {
		return
	}
	no(u.t, "Put", e, want)
	if want == api.OK {
		u.m.done(u.m.now.what.with(name, key, val))
	}
}

func (u *run) del() {
	u.t.Helper()
	name := u.name()
	key := u.key(name)
	want := u.m.change(name, key, "")
	if want != api.OK {
		noDel(u.t, u.s, name, key, want)
		return
	}
	u.cuts(5)
	there, e := u.s.Del(name, []byte(key))
	if u.breaks(e) && !there {
		return
	}
	_, was := u.m.now.what[name][key]
	if there != was || e != api.OK {
		u.t.Error("Del", name, key, there, was, int(e))
	}
	u.m.done(u.m.now.what.without(name, key))
}

func (u *run) back() {
	u.t.Helper()
	if u.m.open() != api.OK {
		no(u.t, "Back", u.s.Back(u.r.Intn(3)-1), api.ErrState)
		return
	}
	w := u.m.now
	place := u.r.Intn(len(w.was)+3) - 1
	if place < 0 || place > len(w.was) {
		no(u.t, "Back", u.s.Back(place), api.ErrArg)
		return
	}
	u.cuts(9)
	e := u.s.Back(place)
	if u.breaks(e) { // all states on the way are possible
		got := read(u.t, u.s, 0)
		i := slices.IndexFunc(append(slices.Clone(w.was), w.what)[place:], func(x state) bool { return same(x, got) })
		if i < 0 {
			u.t.Error("Back", place, "is none of the states on the way")
		}
		w.what = got
		return
	}
	no(u.t, "Back", e, api.OK)
	if place < len(w.was) {
		w.what = w.was[place]
		w.was = w.was[:place]
	}
}

func (u *run) commit() {
	u.t.Helper()
	want := u.m.open()
	if want != api.OK {
		no(u.t, "Commit", u.s.Commit(), want)
		return
	}
	u.cuts(4)
	e := u.s.Commit()
	m, w := u.m, u.m.now
	m.now = nil
	if e == api.ErrCut && u.cut {
		m.failed = true
		u.next, u.nexts = w.what, w.numbers
		return
	}
	no(u.t, "Commit", e, api.OK)
	m.gen, m.last, m.numbers = m.gen+1, w.what, w.numbers
	_, m.pages[m.gen] = look(u.t, u.d)
}

func (u *run) abort() {
	u.t.Helper()
	want := api.OK
	if u.m.now == nil {
		want = api.ErrState
	}
	no(u.t, "Abort", u.s.Abort(), want)
	u.m.now = nil
}

func (u *run) pin() {
	u.t.Helper()
	pin(u.t, u.s, u.m.gen)
	u.m.pins = append(u.m.pins, slowPin{u.m.gen, u.m.last})
}

func (u *run) release() {
	u.t.Helper()
	gen := u.m.gen - u.r.Intn(9) + 1
	if len(u.m.pins) > 0 && u.r.Intn(4) > 0 {
		gen = pick(u.r, u.m.pins...).gen
	}
	i := u.m.pinned(gen)
	if i < 0 {
		release(u.t, u.s, gen, api.ErrNone)
		return
	}
	release(u.t, u.s, gen, api.OK)
	u.m.pins = slices.Delete(u.m.pins, i, i+1)
}

func (u *run) number() {
	u.t.Helper()
	which := pick(u.r, 0, 0, 0, 1, 1, 1, -1, 2)
	if e := u.m.open(); e != api.OK {
		noNumber(u.t, u.s, which, e)
	} else if which < 0 || which > 1 {
		noNumber(u.t, u.s, which, api.ErrArg)
	} else {
		next(u.t, u.s, which, u.m.now.numbers[which])
		u.m.now.numbers[which]++
	}
}

func (u *run) ask() {
	u.t.Helper()
	view := pick(u.r, 0, 0, 1, u.m.gen, u.m.gen-1, u.m.gen-2)
	if len(u.m.pins) > 0 && u.r.Intn(2) == 0 {
		view = pick(u.r, u.m.pins...).gen
	}
	name := u.name()
	key, to := u.key(name), u.key(name)
	what := u.m.view(view)
	want := api.OK
	switch {
	case !right(name):
		want = api.ErrArg
	case len(key)+len(name)+1 > 72:
		want = api.ErrBig
	case what == nil:
		want = api.ErrNone
	}
	val, there := what[name][key]
	if want != api.OK || !there {
		noGet(u.t, u.s, view, name, key, want)
	} else {
		has(u.t, u.s, view, name, key, val)
	}
	if want == api.OK && len(to)+len(name)+1 <= 72 {
		to = pick(u.r, to, to, "")
		most := pick(u.r, 0, 1, 2, 5, 1000, maxInt)
		scans(u.t, u.s, view, name, key, to, most, what.scan(name, key, to, most)...)
	}
}

// told holds all that a store tells of itself against what it must be.
func (u *run) told(whole bool) {
	u.t.Helper()
	m := u.m
	if u.s.Active() != (m.now != nil) || u.s.Gen() != m.gen {
		u.t.Error(u.s.Active(), u.s.Gen(), m.gen)
	}
	if n := u.s.Used() + u.s.Waiting() + u.s.Free(); n != u.d.Len()-2 {
		u.t.Error("pages", n)
	}
	if m.now == nil && !m.failed {
		used, waiting := len(m.pages[m.gen]), m.waiting()
		counts(u.t, u.s, used, waiting, u.d.Len()-2-used-waiting)
	}
	if m.open() == api.OK {
		save(u.t, u.s, len(m.now.was))
		peek(u.t, u.s, 0, m.now.numbers[0])
		peek(u.t, u.s, 1, m.now.numbers[1])
	}
	if whole {
		is(u.t, u.s, 0, m.view(0))
		for _, p := range m.pins {
			is(u.t, u.s, p.gen, p.what)
		}
	}
}

func (u *run) step() {
	u.t.Helper()
	switch n := u.r.Intn(100); {
	case n < 6:
		no(u.t, "Begin", u.s.Begin(), u.m.begin())
	case n < 45:
		u.put()
	case n < 60:
		u.del()
	case n < 65:
		u.back()
	case n < 69:
		u.commit()
	case n < 71:
		u.abort()
	case n < 75:
		u.pin()
	case n < 80:
		u.release()
	case n < 84:
		u.number()
	default:
		u.ask()
	}
	if u.cut {
		u.d.Cut(-1)
		u.cut = false
	}
	if u.m.now != nil && u.m.now.broken && u.r.Intn(3) == 0 {
		u.abort()
	}
}

// keeps tells how much of each write that waits is kept, by chance.
func keeps(r *rand.Rand, waits int) []int {
	l := make([]int, r.Intn(waits+2))
	for i := range l {
		l[i] = pick(r, 0, 0, api.Size, api.Size, r.Intn(api.Size), r.Intn(60), -1, maxInt)
	}
	return l
}

// reopen opens what a crash left, where the opening may crash, too, and holds it against what may be found.
func (u *run) reopen() {
	u.t.Helper()
	d := crash(u.t, u.d, keeps(u.r, u.d.Waiting())...)
	for u.r.Intn(2) == 0 {
		d.Cut(u.r.Intn(3))
		txn.Open(d)
		d = crash(u.t, d, keeps(u.r, d.Waiting())...)
	}
	s := open(u.t, d)
	last, numbers := u.m.last, u.m.numbers
	if u.m.failed && s.Gen() == u.m.gen+1 {
		last, numbers = u.next, u.nexts
		u.m.gen++
	}
	for _, p := range u.m.pins {
		noGet(u.t, s, p.gen, "n", "a", api.ErrNone)
	}
	u.d, u.s, u.m = d, s, &slow{gen: u.m.gen, last: last, numbers: numbers, pages: map[int][]int{}}
	_, u.m.pages[u.m.gen] = look(u.t, d)
	u.told(true)
	no(u.t, "Begin", s.Begin(), u.m.begin())
	u.told(true)
}

// P15.2 to P15.7, by chance.
func TestAgainstSlow(t *testing.T) {
	for i, pages := range []int{6, 12, 20, 40, 40, 90, 250, 1000} {
		r := rand.New(rand.NewSource(int64(i)))
		for range 4 {
			u := begins(t, r, pages, pages < 1000)
			for n := range 700 {
				u.step()
				u.told(n%9 == 0)
				if u.m.failed && r.Intn(5) == 0 || r.Intn(150) == 0 {
					u.reopen()
				}
				if t.Failed() {
					t.Fatal("pages", pages, "step", n)
				}
			}
		}
	}
}
