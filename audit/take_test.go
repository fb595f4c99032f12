package audit_test

import (
	"bytes"
	"fmt"
	"math"
	"slices"
	"strings"
	"testing"

	"cobweb/api"
	"cobweb/audit"
	"cobweb/graph"
	"cobweb/sector"
	"cobweb/tree"
	"cobweb/txn"
	"cobweb/value"
)

// no holds an error against the one that must be told.
func no(t *testing.T, what string, e, want api.Errno) {
	t.Helper()
	if e != want {
		t.Fatalf("%s: error %d, not %d", what, int(e), int(want))
	}
}

func open(t *testing.T, d *sector.Disk) *txn.Store {
	t.Helper()
	s, e := txn.Open(d)
	no(t, "Open", e, api.OK)
	return s
}

// create makes a store of so many pages.
func create(t *testing.T, pages int) (*sector.Disk, *txn.Store) {
	t.Helper()
	d, e := sector.New(pages + 2)
	no(t, "New", e, api.OK)
	no(t, "Create", txn.Create(d), api.OK)
	return d, open(t, d)
}

func crash(t *testing.T, d *sector.Disk) *sector.Disk {
	t.Helper()
	c, e := d.Crash(nil)
	no(t, "Crash", e, api.OK)
	return c
}

// takes asks Take for what must be told.
func takes(t *testing.T, s *txn.Store, view int, want audit.Dump) {
	t.Helper()
	d, e := audit.Take(s, view)
	if e != api.OK || !sameDump(d, want) {
		t.Errorf("Take of the view %d = %s, error %d, not %s", view, short(d), int(e), short(want))
	}
}

// refuses asks Take for an error, and for nothing else.
func refuses(t *testing.T, s *txn.Store, view int, want api.Errno) {
	t.Helper()
	d, e := audit.Take(s, view)
	nothing := true
	for _, to := range lists(&d) {
		nothing = nothing && len(*to) == 0
	}
	if e != want || !nothing {
		t.Errorf("Take of the view %d = %s, error %d, not error %d", view, short(d), int(e), int(want))
	}
}

// scanned tells what a view's trees have, as txn tells it.
func scanned(t *testing.T, s *txn.Store, view int) (audit.Dump, api.Errno) {
	t.Helper()
	var d audit.Dump
	first := api.OK
	for i, to := range lists(&d) {
		l, e := s.Scan(view, names[i], nil, nil, math.MaxInt)
		if *to = l; first == api.OK {
			first = e
		}
	}
	return d, first
}

// put puts a Dump into the trees.
func put(t *testing.T, s *txn.Store, d audit.Dump) {
	t.Helper()
	for i, to := range lists(&d) {
		for _, p := range *to {
			no(t, "Put", s.Put(names[i], p.Key, p.Val), api.OK)
		}
	}
}

// P17.1

func TestTakeNil(t *testing.T) {
	for _, view := range []int{0, 1, 2, -1, maxInt, minInt} {
		refuses(t, nil, view, api.ErrNil)
		refuses(t, &txn.Store{}, view, api.ErrNil)
	}
}

func TestTakeViews(t *testing.T) {
	_, s := create(t, 300)
	takes(t, s, 0, audit.Dump{})
	first, second := whole(), whole()
	second.nodes, second.edges = second.nodes[:3], nil
	no(t, "Begin", s.Begin(), api.OK)
	put(t, s, first.dump())
	takes(t, s, 0, first.dump())
	empty, e := s.Pin()
	no(t, "Pin", e, api.OK)
	takes(t, s, empty, audit.Dump{})
	no(t, "Commit", s.Commit(), api.OK)
	takes(t, s, 0, first.dump())
	takes(t, s, empty, audit.Dump{})
	v, e := s.Pin()
	no(t, "Pin", e, api.OK)
	no(t, "Begin", s.Begin(), api.OK)
	for i, p := range first.dump().E {
		_, e := s.Del("e", p.Key)
		no(t, fmt.Sprint("Del ", i), e, api.OK)
	}
	want := first.dump()
	want.E = nil
	takes(t, s, 0, want)
	takes(t, s, v, first.dump())
	for _, view := range []int{-1, 1, v + 1, maxInt, minInt} {
		refuses(t, s, view, api.ErrNone)
	}
	no(t, "Abort", s.Abort(), api.OK)
	takes(t, s, 0, first.dump())
	no(t, "Release", s.Release(v), api.OK)
	refuses(t, s, v, api.ErrNone)
	takes(t, s, empty, audit.Dump{})
	no(t, "Release", s.Release(empty), api.OK)
	refuses(t, s, empty, api.ErrNone)
}

// Take tells what is there, be it a graph's or not, and each tree's alone.
func TestTakeAnything(t *testing.T) {
	_, s := create(t, 500)
	no(t, "Begin", s.Begin(), api.OK)
	var want audit.Dump
	for i, to := range lists(&want) {
		for _, key := range []string{"", "\x00", names[i], as(70), "\xff", strings.Repeat("\xff", 70)} {
			*to = append(*to, pair(key, strings.Repeat(names[i], 1000*i%4097)))
		}
		slices.SortFunc(*to, func(a, b tree.Pair) int { return bytes.Compare(a.Key, b.Key) })
	}
	put(t, s, want)
	for _, name := range []string{"N", "a", "nn", "n1", "en", "m", "j", "q", "oo", "z", "_", "ip", "ll", "pu", "up", as(16)} {
		no(t, "Put", s.Put(name, []byte("k"), []byte("x")), api.OK)
		no(t, "Put", s.Put(name, nil, nil), api.OK)
	}
	takes(t, s, 0, want)
	no(t, "Commit", s.Commit(), api.OK)
	takes(t, s, 0, want)
}

func TestTakeMany(t *testing.T) {
	const many = 5000 // more than MaxRows and MaxSectors
	for i := range names {
		_, s := create(t, 2000)
		no(t, "Begin", s.Begin(), api.OK)
		var want audit.Dump
		for k := range many {
			*lists(&want)[i] = append(*lists(&want)[i], pair(slowInt(k), ""))
		}
		put(t, s, want)
		takes(t, s, 0, want)
	}
}

// Take changes nothing that a later call could tell.
func TestTakeLooksAlone(t *testing.T) {
	d, s := create(t, 300)
	no(t, "Begin", s.Begin(), api.OK)
	put(t, s, whole().dump())
	place, _ := s.Save()
	tell := func() string {
		k, e := s.Save()
		a, _ := s.Peek(0)
		b, _ := s.Peek(1)
		return fmt.Sprint(k, e, a, b, s.Active(), s.Gen(), s.Used(), s.Waiting(), s.Free(), d.Waiting())
	}
	before := tell()
	takes(t, s, 0, whole().dump())
	refuses(t, s, 9, api.ErrNone)
	if tell() != before {
		t.Error(before, tell())
	}
	no(t, "Back", s.Back(place), api.OK)
	no(t, "Commit", s.Commit(), api.OK)
	takes(t, s, 0, whole().dump())
}

func TestTakeIsNew(t *testing.T) {
	_, s := create(t, 300)
	no(t, "Begin", s.Begin(), api.OK)
	put(t, s, whole().dump())
	d, e := audit.Take(s, 0)
	no(t, "Take", e, api.OK)
	other, e := audit.Take(s, 0)
	no(t, "Take", e, api.OK)
	for _, to := range lists(&d) {
		for _, p := range *to {
			_ = append(p.Key, "spoilt"...)
			_ = append(p.Val, "spoilt"...)
		}
		_ = append(*to, pair("spoilt", "spoilt"))
	}
	if !sameDump(d, whole().dump()) {
		t.Error("lists share their room")
	}
	for _, to := range lists(&d) {
		for _, p := range *to {
			for _, b := range [][]byte{p.Key, p.Val} {
				copy(b[:cap(b)], bytes.Repeat([]byte("s"), cap(b)))
			}
		}
		clear((*to)[:cap(*to)])
	}
	if !sameDump(other, whole().dump()) {
		t.Error("two answers share their room")
	}
	takes(t, s, 0, whole().dump())
}

// great tells a graph whose trees have pages of their own.
func great() web {
	w := whole()
	for i := range 40 {
		w.nodes = append(w.nodes, node(10+i, "A B", prop("k", value.OfInt(100+i)), prop("l", text(as(3*i)))))
		w.edges = append(w.edges, edge(10+i, "T", 10+i, 1, prop("w", blob(i*6))))
		w.rules[[2]string{"C" + as(15), fmt.Sprint("property", i)}] = i%2 == 0
	}
	return w
}

// A page that can't be read is told where one of the trees has it, whichever tree that is.
func TestTakeCorrupt(t *testing.T) {
	d, s := create(t, 300)
	no(t, "Begin", s.Begin(), api.OK)
	put(t, s, great().dump())
	for i := range 200 {
		no(t, "Put", s.Put("m", []byte(slowInt(i)), nil), api.OK) // between two of the trees
	}
	no(t, "Commit", s.Commit(), api.OK)
	takes(t, s, 0, great().dump())
	alone := map[string]int{} // how many pages one tree alone can't be told without
	for k := 2; k < d.Len(); k++ {
		b, e := d.Read(k)
		no(t, "Read", e, api.OK)
		no(t, "Write", d.Write(k, nil), api.OK)
		broken := ""
		for _, name := range names {
			if _, e := s.Scan(0, name, nil, nil, math.MaxInt); e != api.OK {
				no(t, "Scan", e, api.ErrCorrupt)
				broken += name
			}
		}
		alone[broken]++
		if broken != "" {
			refuses(t, s, 0, api.ErrCorrupt)
			refuses(t, s, 5, api.ErrNone) // the view comes first
		} else {
			takes(t, s, 0, great().dump())
		}
		no(t, "Write", d.Write(k, b), api.OK)
	}
	for _, name := range append(names, "") {
		if alone[name] == 0 {
			t.Error("no page of this tree alone", name, alone)
		}
	}
	takes(t, s, 0, great().dump())
}

// Of a transaction that is broken the last that was done is told.
func TestTakeBroken(t *testing.T) {
	d, s := create(t, 300)
	no(t, "Begin", s.Begin(), api.OK)
	want := whole().dump()
	put(t, s, want)
	d.Cut(0)
	no(t, "Put", s.Put("n", []byte("x"), nil), api.ErrCut)
	takes(t, s, 0, want) // a disk that is cut off is still read
	d.Cut(-1)
	_, e := s.Save()
	no(t, "Save", e, api.ErrState)
	got, e := scanned(t, s, 0)
	no(t, "Scan", e, api.OK)
	takes(t, s, 0, got)
	takes(t, s, 0, want)
	no(t, "Abort", s.Abort(), api.OK)
	takes(t, s, 0, audit.Dump{})
}

// P17.2 of what Take tells

func TestExampleOfGraph(t *testing.T) {
	_, s := create(t, 200)
	no(t, "Begin", s.Begin(), api.OK)
	g := graph.New(s)
	for _, o := range []api.Op{{Kind: api.AddNode, Labels: []string{"A"}}, {Kind: api.AddEdge, Name: "T", Id: 1, To: 1}} {
		_, e := g.Do(o)
		no(t, "Do", e, api.OK)
	}
	d, e := audit.Take(s, 0)
	no(t, "Take", e, api.OK)
	tells(t, d, 0)
	if len(d.N) != 1 || len(d.E) != 1 || len(d.O) != 1 || len(d.I) != 1 || len(d.L) != 1 || len(d.P) != 0 || len(d.U) != 0 {
		t.Error(short(d))
	}
	without := func(which int) audit.Dump {
		x := d
		*lists(&x)[which-1] = nil
		return x
	}
	tells(t, without(audit.Nodes), audit.Edges)
	tells(t, without(audit.Edges), audit.Outs)
	for which := audit.Outs; which <= audit.Labels; which++ {
		tells(t, without(which), which)
	}
	no(t, "Put", s.Put("p", nil, nil), api.OK)
	d, e = audit.Take(s, 0)
	no(t, "Take", e, api.OK)
	tells(t, d, audit.Props)
}

// What stands in a store and is none of a graph's is found in it.
func TestPutByHand(t *testing.T) {
	for which, c := range []struct{ key, val string }{
		{slowInt(9) + "x", "\x00\x00"}, {slowInt(9), putEdge(edge(9, "T", 1, 99))}, {slowText("A") + slowText("k"), "\x02"}, {slowInt(1) + slowText("T") + slowInt(2) + slowInt(9), ""}, {slowInt(1) + slowText("T") + slowInt(2) + slowInt(1), "x"}, {slowText("A") + slowInt(7), ""}, {slowText("A") + slowText("k") + slowInt(1), ""},
	} {
		_, s := create(t, 300)
		no(t, "Begin", s.Begin(), api.OK)
		put(t, s, whole().dump())
		d, e := audit.Take(s, 0)
		no(t, "Take", e, api.OK)
		tells(t, d, 0)
		no(t, "Put", s.Put(names[which], []byte(c.key), []byte(c.val)), api.OK)
		d, e = audit.Take(s, 0)
		no(t, "Take", e, api.OK)
		tells(t, d, which+1)
	}
}

func keysOf(l []tree.Pair) []string {
	var out []string
	for _, p := range l {
		out = append(out, string(p.Key))
	}
	return out
}

func TestKeysRise(t *testing.T) {
	_, s := create(t, 300)
	no(t, "Begin", s.Begin(), api.OK)
	d := great().dump()
	for _, to := range lists(&d) {
		slices.Reverse(*to)
	}
	put(t, s, d)
	got, e := audit.Take(s, 0)
	no(t, "Take", e, api.OK)
	for i, to := range lists(&got) {
		if !slices.IsSorted(keysOf(*to)) || len(*to) == 0 {
			t.Error(names[i])
		}
	}
	tells(t, got, 0)
}
