package audit_test

import (
	"fmt"
	"math/rand"
	"slices"
	"strings"
	"testing"

	"cobweb/api"
	"cobweb/audit"
	"cobweb/graph"
	"cobweb/record"
	"cobweb/sector"
	"cobweb/tree"
	"cobweb/txn"
)

func pick[T any](r *rand.Rand, l ...T) T { return l[r.Intn(len(l))] }

// someOp tells a change, mostly one that isn't refused.
func someOp(r *rand.Rand, ids int) api.Op {
	id := func() int { return r.Intn(ids+3) - 1 }
	label := func() string { return pick(r, "A", "AB", "B", "C", as(16)) }
	name := func() string { return pick(r, "k", "kk", "l", "m") }
	o := api.Op{Kind: pick(r, 1, 1, 1, 1, 2, 2, 2, 2, 2, 3, 4, 5, 5, 5, 6, 7, 7, 7, 8, 8, r.Intn(12)-1), Id: id(), To: id(), Name: label(), V: pick(r, append(some(), null, null)...), Flag: r.Intn(2) == 0}
	switch o.Kind {
	case api.AddNode:
		for range r.Intn(5) {
			o.Labels = append(o.Labels, label())
		}
	case api.SetNode, api.SetEdge:
		o.Name = name()
	case api.Index:
		o.Labels, o.Name = []string{label()}, name()
	}
	for _, s := range []string{"k", "kk", "l", "m"} {
		if r.Intn(2) == 0 {
			o.Props = append(o.Props, prop(s, pick(r, some()...)))
		}
	}
	return o
}

// run is a graph that is changed by chance.
type run struct {
	t    *testing.T
	r    *rand.Rand
	d    *sector.Disk
	s    *txn.Store
	g    *graph.Graph
	pins []int
	done int
}

// agrees asks that Check finds nothing in a view, and that Take tells it as the graph and its rules are.
func (u *run) agrees(view int) audit.Dump {
	u.t.Helper()
	d, e := audit.Take(u.s, view)
	no(u.t, "Take", e, api.OK)
	if which, e := audit.Check(d); which != 0 || e != api.OK {
		u.t.Fatalf("Check of %s = %d, error %d", short(d), which, int(e))
	}
	all, e := u.g.All(view)
	no(u.t, "All", e, api.OK)
	rules, e := u.g.Rules(view)
	no(u.t, "Rules", e, api.OK)
	w := web{nodes: all.Nodes, edges: all.Edges, rules: map[[2]string]bool{}}
	for _, x := range rules {
		w.rules[[2]string{x.Label, x.Name}] = x.Unique
	}
	if !sameDump(d, w.dump()) {
		u.t.Fatalf("Take = %s, not %s", short(d), short(w.dump()))
	}
	return d
}

func (u *run) agreesAll() {
	u.t.Helper()
	u.agrees(0)
	for _, v := range u.pins {
		u.agrees(v)
	}
}

// changes does some changes in a transaction, goes back sometimes, and ends it.
func (u *run) changes() {
	u.t.Helper()
	no(u.t, "Begin", u.s.Begin(), api.OK)
	var places []int
	for range u.r.Intn(30) {
		_, e := u.g.Do(someOp(u.r, 40))
		if e == api.OK {
			u.done++
		}
		place, e := u.s.Save()
		if e != api.OK { // the disk is full
			no(u.t, "Abort", u.s.Abort(), api.OK)
			u.agreesAll()
			return
		}
		u.agrees(0)
		places = append(places, place)
		if u.r.Intn(10) == 0 {
			k := u.r.Intn(len(places))
			e := u.s.Back(places[k])
			places = places[:k+1]
			if e != api.OK {
				no(u.t, "Back", e, api.ErrFull)
				no(u.t, "Abort", u.s.Abort(), api.OK)
				u.agreesAll()
				return
			}
			u.agrees(0)
		}
	}
	u.ends()
	u.agreesAll()
}

func (u *run) ends() {
	u.t.Helper()
	switch u.r.Intn(5) {
	case 0:
		no(u.t, "Abort", u.s.Abort(), api.OK)
	case 1:
		u.d = crash(u.t, u.d)
		u.s, u.pins = open(u.t, u.d), nil
		u.g = graph.New(u.s)
	default:
		no(u.t, "Commit", u.s.Commit(), api.OK)
	}
	if len(u.pins) > 0 && u.r.Intn(2) == 0 {
		no(u.t, "Release", u.s.Release(u.pins[0]), api.OK)
		u.pins = u.pins[1:]
	} else if len(u.pins) < 2 {
		v, e := u.s.Pin()
		no(u.t, "Pin", e, api.OK)
		u.pins = append(u.pins, v)
	}
}

// P17.3
func TestBehindAnyChanges(t *testing.T) {
	done := 0
	for i, pages := range []int{40, 60, 90, 300, 1000, 1000} {
		d, s := create(t, pages)
		u := &run{t: t, r: rand.New(rand.NewSource(int64(i))), d: d, s: s, g: graph.New(s)}
		for range 25 {
			u.changes()
		}
		u.spoils()
		done += u.done
	}
	if done < 300 {
		t.Error("only so many changes were done", done)
	}
}

// spoils takes each pair away, and lets one more come at each place: one that is there nearly, one that is there, one by chance.
func (u *run) spoils() {
	u.t.Helper()
	d := u.agrees(0)
	for which := audit.Outs; which <= audit.Props; which++ {
		l := *lists(&d)[which-1]
		with := func(l []tree.Pair) {
			u.t.Helper()
			x := d
			*lists(&x)[which-1] = l
			if got, e := audit.Check(x); got != which || e != api.ErrCorrupt {
				u.t.Errorf("Check of %s = %d, error %d, not %d", short(x), got, int(e), which)
			}
		}
		for i, p := range l {
			with(slices.Delete(slices.Clone(l), i, i+1))
			with(slices.Insert(slices.Clone(l), i, p))
		}
		for range 40 {
			key := string(someBytes(u.r, 70))
			if len(l) > 0 && u.r.Intn(2) == 0 {
				key = string(spoil(u.r, l[u.r.Intn(len(l))].Key))
			}
			at, there := slices.BinarySearch(keysOf(l), key)
			if !there {
				with(slices.Insert(slices.Clone(l), at, pair(key, "")))
			}
		}
	}
}

func someBytes(r *rand.Rand, most int) []byte {
	b := make([]byte, r.Intn(most+1))
	for i := range b {
		b[i] = byte(r.Intn(256))
	}
	return b
}

// spoil tells bytes that are some others nearly.
func spoil(r *rand.Rand, b []byte) []byte {
	b = slices.Clone(b)
	at := r.Intn(len(b) + 1)
	switch k := r.Intn(6); {
	case k == 0 || at == len(b):
		return slices.Insert(b, at, byte(r.Intn(4)))
	case k == 1:
		return slices.Delete(b, at, at+1)
	case k == 2:
		b[at] = byte(r.Intn(256))
	case k == 3:
		return b[:at]
	default:
		b[at] ^= 1 << r.Intn(8)
	}
	return b
}

// someWeb tells a graph in which twins, and edges that hang, may be.
func someWeb(r *rand.Rand) web {
	w := web{rules: map[[2]string]bool{}}
	values := some()
	r.Shuffle(len(values), func(i, k int) { values[i], values[k] = values[k], values[i] })
	id := 0
	for i := range r.Intn(8) {
		id += 1 + r.Intn(2)
		n := node(id, strings.Join([]string{"A", "B", "C"}[r.Intn(4):], " "))
		for k, s := range []string{"k", "l"} {
			if r.Intn(3) > 0 {
				v := values[i+20*k]
				if r.Intn(12) == 0 {
					v = values[20*k]
				}
				n.Props = append(n.Props, prop(s, v))
			}
		}
		w.nodes = append(w.nodes, n)
	}
	for i := range r.Intn(6) * min(1, len(w.nodes)) {
		end := func() int {
			if r.Intn(60) == 0 {
				return 1 + r.Intn(20)
			}
			return pick(r, w.nodes...).Id
		}
		w.edges = append(w.edges, edge(2*i+1, pick(r, "S", "T", "TT"), end(), end()))
	}
	for range r.Intn(5) {
		w.rules[[2]string{pick(r, "A", "B", "C", "D"), pick(r, "k", "l", "m")}] = r.Intn(2) == 0
	}
	return w
}

// hurt does something to one of the pairs.
func hurt(r *rand.Rand, d audit.Dump) audit.Dump {
	to := lists(&d)[r.Intn(7)]
	l := slices.Clone(*to)
	i := r.Intn(len(l) + 1)
	switch k := r.Intn(8); {
	case k == 0 || len(l) == 0:
		l = slices.Insert(l, i, pair(string(someBytes(r, 20)), string(someBytes(r, 2))))
	case k == 1:
		i = r.Intn(len(l))
		l = slices.Delete(l, i, i+1)
	case k == 2:
		l = slices.Insert(l, i, pick(r, l...))
	case k == 3:
		l[r.Intn(len(l))] = pick(r, l...)
	case k == 4:
		k := r.Intn(len(l))
		l[k], l[0] = l[0], l[k]
	case k == 5:
		other := *lists(&d)[r.Intn(7)]
		l = slices.Clone(other)
	case k == 6:
		i = r.Intn(len(l))
		l[i].Key = spoil(r, l[i].Key)
	default:
		i = r.Intn(len(l))
		l[i].Val = spoil(r, l[i].Val)
	}
	*to = l
	return d
}

// P17.2, by chance.
func TestAgainstSlow(t *testing.T) {
	r := rand.New(rand.NewSource(17))
	var counts [8]int
	for range 40000 {
		d := someWeb(r).dump()
		for range r.Intn(3) {
			d = hurt(r, d)
		}
		want := slowCheck(d)
		counts[want]++
		which, e := audit.Check(d)
		if which != want || (e == api.OK) != (want == 0) || e != api.OK && e != api.ErrCorrupt {
			t.Fatalf("Check of %s = %d, error %d, not %d", short(d), which, int(e), want)
		}
	}
	for which, n := range counts {
		if n < 500 {
			t.Error("so many times it was", which, n)
		}
	}
}

// Twins of records that are right otherwise, by chance.
func TestTwinsAgainstSlow(t *testing.T) {
	r := rand.New(rand.NewSource(18))
	var counts [2]int
	for range 3000 {
		w := web{rules: map[[2]string]bool{{"A", "k"}: r.Intn(4) > 0, {"B", "k"}: true, {"A", "l"}: true}}
		for i := range 2 + r.Intn(6) {
			n := node(i+1, pick(r, "A", "B", "A B", "C", ""), prop(pick(r, "k", "l"), pick(r, some()[:8]...)))
			if !record.NodeRight(n) {
				t.Fatal(fmt.Sprint(n))
			}
			w.nodes = append(w.nodes, n)
		}
		want := 0
		if w.twins() {
			want = audit.Rules
			counts[1]++
		} else {
			counts[0]++
		}
		tells(t, w.dump(), want)
	}
	if counts[0] < 500 || counts[1] < 100 {
		t.Error(counts)
	}
}
