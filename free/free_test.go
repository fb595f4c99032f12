package free_test

import (
	"math"
	"math/rand"
	"slices"
	"testing"

	"cobweb/api"
	"cobweb/free"
)

const (
	maxInt = math.MaxInt
	minInt = math.MinInt
)

// What State tells of a page.
const (
	none = iota
	isFree
	inUse
	waiting
)

func list(t *testing.T, from, to int) *free.List {
	t.Helper()
	l, e := free.New(from, to)
	if l == nil || e != api.OK {
		t.Fatal("New", from, to, int(e))
	}
	return l
}

// no holds an error against the one that must be told.
func no(t *testing.T, what string, page int, e, want api.Errno) {
	t.Helper()
	if e != want {
		t.Errorf("%s %d: error %d, not %d", what, page, int(e), int(want))
	}
}

func use(t *testing.T, l *free.List, pages ...int) {
	t.Helper()
	for _, page := range pages {
		no(t, "Use", page, l.Use(page), api.OK)
	}
}

func later(t *testing.T, l *free.List, page, gen int) {
	t.Helper()
	no(t, "Later", page, l.Later(page, gen), api.OK)
}

func give(t *testing.T, l *free.List, page int) {
	t.Helper()
	no(t, "Give", page, l.Give(page), api.OK)
}

// alloc holds the pages that Alloc tells, one behind the other, against numbers.
func alloc(t *testing.T, l *free.List, want ...int) {
	t.Helper()
	for _, w := range want {
		if page, e := l.Alloc(); page != w || e != api.OK {
			t.Errorf("Alloc: %d, error %d; not %d", page, int(e), w)
		}
	}
}

func isFull(t *testing.T, l *free.List) {
	t.Helper()
	if page, e := l.Alloc(); page != 0 || e != api.ErrFull {
		t.Errorf("Alloc: %d, error %d; not ErrFull", page, int(e))
	}
}

// states holds the states of the pages from a number on, and how many there are of each, against numbers.
func states(t *testing.T, l *free.List, from int, want ...int) {
	t.Helper()
	var many [4]int
	for i, w := range want {
		many[w]++
		if s := l.State(from + i); s != w {
			t.Errorf("State %d: %d, not %d", from+i, s, w)
		}
	}
	if l.Free() != many[isFree] || l.Used() != many[inUse] || l.Waiting() != many[waiting] {
		t.Errorf("Free %d Used %d Waiting %d, of %v", l.Free(), l.Used(), l.Waiting(), want)
	}
}

// P9.1
func TestNew(t *testing.T) {
	wrong := [][2]int{
		{-1, 5}, {-1, -1}, {-1, 0}, {minInt, 0}, {minInt, maxInt}, {minInt, minInt}, {-5, -3},
		{1, 0}, {5, 4}, {maxInt, minInt}, {4096, 4095}, {0, -1}, {5, minInt},
		{0, api.MaxSectors + 1}, {api.MaxSectors, api.MaxSectors + 1}, {api.MaxSectors + 1, api.MaxSectors + 1},
		{0, maxInt}, {maxInt, maxInt}, {api.MaxSectors + 1, 0},
	}
	for _, w := range wrong {
		if l, e := free.New(w[0], w[1]); l != nil || e != api.ErrArg {
			t.Error(w, l, int(e))
		}
	}
	for _, r := range [][2]int{{0, 1}, {0, 7}, {2, 5}, {2, 3}, {0, api.MaxSectors}, {2, api.MaxSectors}, {api.MaxSectors - 1, api.MaxSectors}} {
		l := list(t, r[0], r[1])
		states(t, l, r[0], slices.Repeat([]int{isFree}, r[1]-r[0])...)
		for page := r[0]; page < r[1]; page++ {
			alloc(t, l, page)
		}
		isFull(t, l)
		states(t, l, r[0], slices.Repeat([]int{inUse}, r[1]-r[0])...)
	}
}

// A list of no pages is one all the same.
func TestNewOfNoPages(t *testing.T) {
	for _, n := range []int{0, 1, 2, 77, api.MaxSectors} {
		l := list(t, n, n)
		isFull(t, l)
		for _, page := range []int{n - 1, n, n + 1, 0, -1} {
			no(t, "Use", page, l.Use(page), api.ErrArg)
			no(t, "Give", page, l.Give(page), api.ErrArg)
			no(t, "Later", page, l.Later(page, 0), api.ErrArg)
			states(t, l, page, none)
		}
		if l.Settle(maxInt) != 0 || l.Forget(0) != 0 {
			t.Error(n)
		}
	}
}

func TestNewOnesAreApart(t *testing.T) {
	a, b := list(t, 0, 2), list(t, 0, 2)
	use(t, a, 0, 1)
	later(t, a, 1, 3)
	states(t, b, 0, isFree, isFree)
	alloc(t, b, 0, 1)
	give(t, b, 0)
	states(t, a, 0, inUse, waiting)
}

// P9.2
func TestUse(t *testing.T) {
	l := list(t, 2, 6)
	use(t, l, 5, 2, 4)
	states(t, l, 2, inUse, isFree, inUse, inUse)
	later(t, l, 4, 1)
	for _, page := range []int{2, 4, 5} {
		no(t, "Use", page, l.Use(page), api.ErrThere)
	}
	states(t, l, 2, inUse, isFree, waiting, inUse)
	give(t, l, 5)
	use(t, l, 5, 3)
	states(t, l, 2, inUse, inUse, waiting, inUse)
	if n := l.Settle(1); n != 1 {
		t.Error(n)
	}
	use(t, l, 4)
	states(t, l, 2, inUse, inUse, inUse, inUse)
}

// A page that is none is told ahead of what is kept.
func TestNoSuchPage(t *testing.T) {
	l := list(t, 2, 5)
	use(t, l, 2, 4)
	later(t, l, 4, 0)
	for _, page := range []int{minInt, -1, 0, 1, 5, 6, api.MaxSectors, maxInt} {
		no(t, "Use", page, l.Use(page), api.ErrArg)
		no(t, "Give", page, l.Give(page), api.ErrArg)
		for _, gen := range []int{minInt, -1, 0, 1, maxInt} {
			no(t, "Later", page, l.Later(page, gen), api.ErrArg)
		}
		if s := l.State(page); s != none {
			t.Error("State", page, s)
		}
	}
	states(t, l, 2, inUse, isFree, waiting)
}

func TestAlloc(t *testing.T) {
	l := list(t, 2, 7)
	use(t, l, 2, 4)
	alloc(t, l, 3, 5)
	states(t, l, 2, inUse, inUse, inUse, inUse, isFree)
	give(t, l, 4)
	give(t, l, 2)
	alloc(t, l, 2, 4, 6)
	isFull(t, l)
	isFull(t, l)
	states(t, l, 2, inUse, inUse, inUse, inUse, inUse)
	give(t, l, 6)
	alloc(t, l, 6)
	isFull(t, l)
}

// Page 0 is told like any other, and with an error it is the zero that stands beside one.
func TestAllocOfPageZero(t *testing.T) {
	l := list(t, 0, 1)
	alloc(t, l, 0)
	isFull(t, l)
	later(t, l, 0, 0)
	isFull(t, l)
	states(t, l, 0, waiting)
	if n := l.Settle(0); n != 1 {
		t.Error(n)
	}
	alloc(t, l, 0)
}

func TestGive(t *testing.T) {
	l := list(t, 2, 5)
	for _, page := range []int{2, 3, 4} {
		no(t, "Give", page, l.Give(page), api.ErrNone)
	}
	states(t, l, 2, isFree, isFree, isFree)
	use(t, l, 2, 4)
	give(t, l, 2)
	no(t, "Give", 2, l.Give(2), api.ErrNone)
	states(t, l, 2, isFree, isFree, inUse)
	later(t, l, 4, 8)
	no(t, "Give", 4, l.Give(4), api.ErrNone)
	states(t, l, 2, isFree, isFree, waiting)
	if l.Settle(7) != 0 || l.Settle(8) != 1 {
		t.Error("Settle")
	}
	states(t, l, 2, isFree, isFree, isFree)
}

func TestLater(t *testing.T) {
	l := list(t, 2, 6)
	use(t, l, 3, 4, 5)
	for _, gen := range []int{minInt, -2, -1} {
		for page := 2; page < 6; page++ {
			no(t, "Later", page, l.Later(page, gen), api.ErrArg)
		}
	}
	states(t, l, 2, isFree, inUse, inUse, inUse)
	later(t, l, 3, 0)
	later(t, l, 4, maxInt)
	no(t, "Later", 2, l.Later(2, 5), api.ErrNone)
	states(t, l, 2, isFree, waiting, waiting, inUse)
	for _, gen := range []int{-1, minInt} {
		no(t, "Later", 3, l.Later(3, gen), api.ErrArg)
	}
	// A page that waits goes on waiting for the generation that it was given first.
	for _, gen := range []int{0, 1, maxInt} {
		no(t, "Later", 3, l.Later(3, gen), api.ErrNone)
		no(t, "Later", 4, l.Later(4, gen), api.ErrNone)
	}
	if n := l.Settle(0); n != 1 {
		t.Error(n)
	}
	states(t, l, 2, isFree, isFree, waiting, inUse)
	if l.Settle(maxInt-1) != 0 || l.Settle(maxInt) != 1 {
		t.Error("Settle")
	}
	states(t, l, 2, isFree, isFree, isFree, inUse)
}

// P9.3
func wait(t *testing.T) *free.List {
	t.Helper()
	l := list(t, 2, 9)
	use(t, l, 2, 3, 4, 5, 6, 7)
	for i, gen := range []int{7, 5, 7, 0, 6} {
		later(t, l, 2+i, gen)
	}
	states(t, l, 2, waiting, waiting, waiting, waiting, waiting, inUse, isFree)
	return l
}

func TestSettle(t *testing.T) {
	const w, f = waiting, isFree
	for _, c := range []struct {
		gen, told int
		left      [5]int
	}{
		{minInt, 0, [5]int{w, w, w, w, w}},
		{-1, 0, [5]int{w, w, w, w, w}},
		{0, 1, [5]int{w, w, w, f, w}},
		{4, 1, [5]int{w, w, w, f, w}},
		{5, 2, [5]int{w, f, w, f, w}},
		{6, 3, [5]int{w, f, w, f, f}},
		{7, 5, [5]int{f, f, f, f, f}},
		{8, 5, [5]int{f, f, f, f, f}},
		{maxInt, 5, [5]int{f, f, f, f, f}},
	} {
		l := wait(t)
		if n := l.Settle(c.gen); n != c.told {
			t.Error(c.gen, n)
		}
		states(t, l, 2, append(c.left[:], inUse, isFree)...)
		if n := l.Settle(c.gen); n != 0 {
			t.Error("again", c.gen, n)
		}
		for i, s := range c.left {
			if s == isFree {
				alloc(t, l, 2+i)
			}
		}
		alloc(t, l, 8)
		isFull(t, l)
	}
}

func TestForget(t *testing.T) {
	const w, u = waiting, inUse
	for _, c := range []struct {
		gen, told int
		left      [5]int
	}{
		{minInt, 0, [5]int{w, w, w, w, w}},
		{-1, 0, [5]int{w, w, w, w, w}},
		{0, 1, [5]int{w, w, w, u, w}},
		{4, 0, [5]int{w, w, w, w, w}},
		{5, 1, [5]int{w, u, w, w, w}},
		{6, 1, [5]int{w, w, w, w, u}},
		{7, 2, [5]int{u, w, u, w, w}},
		{8, 0, [5]int{w, w, w, w, w}},
		{maxInt, 0, [5]int{w, w, w, w, w}},
	} {
		l := wait(t)
		if n := l.Forget(c.gen); n != c.told {
			t.Error(c.gen, n)
		}
		states(t, l, 2, append(c.left[:], inUse, isFree)...)
		if n := l.Forget(c.gen); n != 0 {
			t.Error("again", c.gen, n)
		}
		if n := l.Settle(maxInt); n != 5-c.told {
			t.Error(c.gen, n)
		}
		for i, s := range c.left {
			if s == inUse {
				no(t, "Use", 2+i, l.Use(2+i), api.ErrThere)
				give(t, l, 2+i)
			}
		}
	}
}

// What was forgotten may wait anew, for another generation.
func TestForgottenThenLater(t *testing.T) {
	l := list(t, 0, 2)
	alloc(t, l, 0, 1)
	later(t, l, 0, 3)
	later(t, l, 1, 3)
	if n := l.Forget(3); n != 2 {
		t.Error(n)
	}
	later(t, l, 0, 9)
	if l.Forget(3) != 0 || l.Settle(8) != 0 {
		t.Error("it waits for 3")
	}
	states(t, l, 0, waiting, inUse)
	if n := l.Forget(9); n != 1 {
		t.Error(n)
	}
	states(t, l, 0, inUse, inUse)
}

func TestNothingWaits(t *testing.T) {
	l := list(t, 0, 3)
	use(t, l, 1)
	for _, gen := range []int{minInt, -1, 0, 1, maxInt} {
		if l.Settle(gen) != 0 || l.Forget(gen) != 0 {
			t.Error(gen)
		}
		states(t, l, 0, isFree, inUse, isFree)
	}
}

// P9.4
func TestNoList(t *testing.T) {
	var missing *free.List
	for _, l := range []*free.List{missing, {}, new(free.List)} {
		for _, page := range []int{minInt, -1, 0, 1, api.MaxSectors, maxInt} {
			no(t, "Use", page, l.Use(page), api.ErrNil)
			no(t, "Give", page, l.Give(page), api.ErrNil)
			no(t, "Later", page, l.Later(page, 0), api.ErrNil)
			no(t, "Later", page, l.Later(page, -1), api.ErrNil)
			if page, e := l.Alloc(); page != 0 || e != api.ErrNil {
				t.Error("Alloc", page, int(e))
			}
			if l.Settle(page) != 0 || l.Forget(page) != 0 || l.State(page) != 0 {
				t.Error(page)
			}
		}
		if l.Free() != 0 || l.Waiting() != 0 || l.Used() != 0 {
			t.Error(l.Free(), l.Waiting(), l.Used())
		}
	}
}

func TestExample(t *testing.T) {
	l := list(t, 2, 5)
	states(t, l, 1, none, isFree, isFree, isFree, none)
	alloc(t, l, 2)
	states(t, l, 1, none, inUse, isFree, isFree, none)
	later(t, l, 2, 7)
	states(t, l, 1, none, waiting, isFree, isFree, none)
	alloc(t, l, 3)
	states(t, l, 1, none, waiting, inUse, isFree, none)
	if n := l.Settle(6); n != 0 {
		t.Error(n)
	}
	if n := l.Settle(7); n != 1 {
		t.Error(n)
	}
	states(t, l, 1, none, isFree, inUse, isFree, none)
	alloc(t, l, 2)
	states(t, l, 1, none, inUse, inUse, isFree, none)
}

// P9.5: a slow list has for each page its state and what it waits for.
type slow struct {
	from, to int
	pages    []slowPage
}

type slowPage struct{ state, gen int }

func newSlow(from, to int) *slow {
	return &slow{from, to, slices.Repeat([]slowPage{{isFree, 0}}, to-from)}
}

func (s *slow) turn(page, gen, from, to int, e api.Errno) api.Errno {
	if page < s.from || page >= s.to || gen < 0 {
		return api.ErrArg
	}
	if s.pages[page-s.from].state != from {
		return e
	}
	s.pages[page-s.from] = slowPage{to, gen}
	return api.OK
}

func (s *slow) alloc() (int, api.Errno) {
	i := slices.IndexFunc(s.pages, func(p slowPage) bool { return p.state == isFree })
	if i < 0 {
		return 0, api.ErrFull
	}
	s.pages[i] = slowPage{inUse, 0}
	return s.from + i, api.OK
}

func (s *slow) leave(from, gen, to int) int {
	n := 0
	for i, p := range s.pages {
		if p.state == waiting && p.gen >= from && p.gen <= gen {
			s.pages[i] = slowPage{to, 0}
			n++
		}
	}
	return n
}

func (s *slow) states() []int {
	var l []int
	for _, p := range s.pages {
		l = append(l, p.state)
	}
	return l
}

// step does one call on both, and holds the answers against each other.
func step(t *testing.T, r *rand.Rand, l *free.List, s *slow) {
	t.Helper()
	page, gen := s.from-1+r.Intn(s.to-s.from+2), r.Intn(8)-1
	switch r.Intn(9) {
	case 0:
		no(t, "Use", page, l.Use(page), s.turn(page, 0, isFree, inUse, api.ErrThere))
	case 1, 2, 3:
		p, e := l.Alloc()
		if q, f := s.alloc(); p != q || e != f {
			t.Errorf("Alloc: %d, error %d; not %d, %d", p, int(e), q, int(f))
		}
	case 4:
		no(t, "Give", page, l.Give(page), s.turn(page, 0, inUse, isFree, api.ErrNone))
	case 5, 6:
		no(t, "Later", page, l.Later(page, gen), s.turn(page, gen, inUse, waiting, api.ErrNone))
	case 7:
		if n, m := l.Settle(gen), s.leave(minInt, gen, isFree); n != m {
			t.Errorf("Settle %d: %d, not %d", gen, n, m)
		}
	case 8:
		if n, m := l.Forget(gen), s.leave(gen, gen, inUse); n != m {
			t.Errorf("Forget %d: %d, not %d", gen, n, m)
		}
	}
	states(t, l, s.from, s.states()...)
	if l.State(s.from-1) != none || l.State(s.to) != none {
		t.Error("State of no page")
	}
}

func TestAgainstSlow(t *testing.T) {
	r := rand.New(rand.NewSource(9))
	for range 400 {
		from := r.Intn(4)
		to := from + 1 + r.Intn(12)
		l, s := list(t, from, to), newSlow(from, to)
		for range 200 {
			step(t, r, l, s)
			if t.Failed() {
				t.Fatal(from, to)
			}
		}
	}
}

// A page that waits is never told, how long ever one goes on, nor lost.
func TestWaitingIsNotTold(t *testing.T) {
	l := list(t, 2, api.MaxSectors)
	many := api.MaxSectors - 2
	for i := range many {
		alloc(t, l, 2+i)
	}
	for i := range many {
		if i%3 != 0 {
			later(t, l, 2+i, i%3)
		}
	}
	isFull(t, l)
	freed := l.Settle(1)
	if freed != (many+1)/3 || l.Free() != freed || l.Waiting()+l.Used()+freed != many {
		t.Error(freed, l.Free(), l.Waiting(), l.Used())
	}
	for i := 1; i < many; i += 3 {
		alloc(t, l, 2+i)
	}
	isFull(t, l)
	if n := l.Forget(2); n != many/3 || l.Used() != many || l.Free()+l.Waiting() != 0 {
		t.Error(n, l.Free(), l.Waiting(), l.Used())
	}
}

// Two lists of which the same was asked tell the same: no map's order is seen.
func TestSameAgain(t *testing.T) {
	told := func() []int {
		l := list(t, 0, 300)
		var told []int
		for i := range 900 {
			page, _ := l.Alloc()
			told = append(told, page, int(l.Later(i*7%300, i%5)), l.Settle(i%4-1), int(l.Give(i*11%300)))
		}
		return told
	}
	first := told()
	for range 5 {
		if !slices.Equal(told(), first) {
			t.Fatal("another answer")
		}
	}
}
