package txn_test

import (
	"fmt"
	"math/rand"
	"slices"
	"testing"

	"cobweb/api"
	"cobweb/sector"
	"cobweb/txn"
)

// found is what an opening may find: a generation, what its trees have, and its numbers.
type found struct {
	gen     int
	what    state
	numbers [2]int
}

// story is a store whose disk is cut somewhere, and what may be found of it behind a crash.
type story struct {
	t       *testing.T
	s       *txn.Store
	may     []found // the last one is committed, or a Commit of it failed
	what    state
	was     []state
	numbers [2]int
	whole   bool // nothing was cut so far
}

func (y *story) begin() {
	if y.whole {
		begin(y.t, y.s)
		last := y.may[len(y.may)-1]
		y.what, y.numbers, y.was = last.what, last.numbers, nil
	}
}

// went takes what a call told, and tells whether it was done.
func (y *story) went(e api.Errno) bool {
	y.t.Helper()
	if e != api.OK && e != api.ErrCut {
		y.t.Fatal(int(e))
	}
	y.whole = y.whole && e == api.OK
	return y.whole
}

func (y *story) put(name, key, val string) {
	if y.whole && y.went(y.s.Put(name, []byte(key), []byte(val))) {
		y.was = append(y.was, y.what)
		y.what = y.what.with(name, key, val)
	}
}

func (y *story) del(name, key string) {
	if !y.whole {
		return
	}
	if _, e := y.s.Del(name, []byte(key)); y.went(e) {
		y.was = append(y.was, y.what)
		y.what = y.what.without(name, key)
	}
}

func (y *story) back(place int) {
	if y.whole && y.went(y.s.Back(place)) {
		y.what, y.was = y.was[place], y.was[:place]
	}
}

func (y *story) take(which int) {
	if y.whole {
		next(y.t, y.s, which, y.numbers[which])
		y.numbers[which]++
	}
}

func (y *story) commit() {
	if !y.whole {
		return
	}
	y.may = append(y.may, found{y.s.Gen() + 1, y.what, y.numbers})
	if y.went(y.s.Commit()) {
		y.may = y.may[len(y.may)-1:]
	}
}

// tell tells a story of six Commits.
func (y *story) tell() {
	y.begin()
	for i := range 12 {
		y.put("n", fmt.Sprint(i), as(10*i))
	}
	y.put("m", "long", as(1500))
	y.take(0)
	y.take(0)
	y.commit()
	y.begin()
	y.put("n", "3", "three")
	y.del("n", "4")
	y.put("m", "long", as(700))
	y.put("n1", "x", "")
	y.back(2)
	y.take(1)
	y.commit()
	if y.whole {
		pin(y.t, y.s, y.s.Gen())
	}
	y.begin()
	y.del("m", "long")
	y.put("n", "4", "gone")
	if y.whole {
		abort(y.t, y.s)
	}
	y.begin()
	for i := range 12 {
		y.del("n", fmt.Sprint(i))
	}
	y.put("n", "", as(65))
	y.commit()
	if y.whole {
		release(y.t, y.s, y.s.Gen()-1, api.OK)
	}
	y.begin()
	y.take(0)
	y.commit()
	y.begin()
	y.put("n", "", "")
	y.back(0)
	y.put("m", "long", as(10))
	y.commit()
	y.begin()
	y.del("m", "long")
	y.del("n", "")
	y.commit()
}

// keepLists tells what may be kept of so many writes: none, all, each alone, all but one, and parts by chance.
func keepLists(r *rand.Rand, waits int) [][]int {
	l := [][]int{nil, slices.Repeat([]int{api.Size}, waits)}
	for i := range waits {
		alone, others := make([]int, waits), slices.Repeat([]int{api.Size}, waits)
		alone[i], others[i] = api.Size, 0
		l = append(l, alone, others)
	}
	for range 12 {
		l = append(l, keeps(r, waits))
	}
	return l
}

// finds opens a disk, and asks that just one of the states is found there, whole, and all pages but its own are free.
func finds(t *testing.T, d *sector.Disk, may []found) {
	t.Helper()
	s := open(t, d)
	i := slices.IndexFunc(may, func(f found) bool { return f.gen == s.Gen() })
	if i < 0 {
		t.Fatal("Gen", s.Gen())
	}
	is(t, s, 0, may[i].what)
	_, pages := look(t, d)
	counts(t, s, len(pages), 0, d.Len()-2-len(pages))
	release(t, s, s.Gen(), api.ErrNone)
	begin(t, s)
	next(t, s, 0, may[i].numbers[0])
	next(t, s, 1, may[i].numbers[1])
	put(t, s, "n", "more", as(600)) // what is found is built upon
	commit(t, s)
	has(t, open(t, crash(t, d)), 0, "n", "more", as(600))
}

// P15.7: the disk is cut behind each operation of a story, and what a crash leaves is opened, also where the opening crashes.
func TestCrashAnywhere(t *testing.T) {
	r := rand.New(rand.NewSource(15))
	first := found{2, state{}, [2]int{1, 1}}
	commits := map[int]int{}
	for n := range 500 {
		d, s := create(t, 60)
		d.Cut(n)
		y := &story{t: t, s: s, may: []found{first}, whole: true}
		y.tell()
		commits[len(y.may)]++
		for _, keep := range keepLists(r, d.Waiting()) {
			finds(t, crash(t, d, keep...), y.may)
			c := crash(t, d, keep...)
			for range 2 {
				c.Cut(r.Intn(2))
				txn.Open(c)
				c = crash(t, c, keeps(r, c.Waiting())...)
			}
			finds(t, c, y.may)
			if t.Failed() {
				t.Fatalf("cut behind %d, kept %v", n, keep)
			}
		}
		if y.whole {
			if n < 50 || commits[2] != 3*6 {
				t.Error(n, commits)
			}
			return
		}
	}
	t.Error("it was cut each time")
}

// Where the disk is cut in Create, there is none of a store, or one of no keys.
func TestCrashInCreate(t *testing.T) {
	r := rand.New(rand.NewSource(16))
	for n := range 4 {
		for range 60 {
			d := disk(t, 60)
			d.Cut(n)
			if e := txn.Create(d); e != api.OK && e != api.ErrCut || e == api.OK != (n == 3) {
				t.Fatal(n, int(e))
			}
			c := crash(t, d, keeps(r, d.Waiting())...)
			if s, e := txn.Open(c); e == api.ErrCorrupt && n < 3 {
				continue
			} else if e != api.OK {
				t.Fatal(n, int(e))
			} else {
				finds(t, c, []found{{s.Gen(), state{}, [2]int{1, 1}}})
			}
		}
	}
}
