package graph_test

import (
	"fmt"
	"slices"
	"strings"
	"testing"

	"cobweb/api"
	"cobweb/graph"
	"cobweb/keys"
	"cobweb/meta"
	"cobweb/pager"
	"cobweb/record"
	"cobweb/sector"
	"cobweb/tree"
	"cobweb/txn"
	"cobweb/value"
)

// What a change does where its store tells errors, or has what no change put there.

// place tells how many Puts and Dels the transaction has.
func (w *web) place() int {
	w.t.Helper()
	k, e := w.s.Save()
	no(w.t, "Save", e, api.OK)
	return k
}

func TestTreesThatDisagree(t *testing.T) {
	one, two := slowInt(1), slowInt(2)
	rule := slowText("A") + slowText("k")
	for _, c := range []struct {
		tree, key, val string
		gone           bool
		ops            []api.Op
	}{
		{"n", one, "x", false, []api.Op{delNode(1, true), delNode(1, false), setNode(1, "a", value.OfInt(1)), setNode(1, "", wrong), label(1, "L", true), label(1, "", false), addEdge("T", 1, 2), addEdge("T", 2, 1), addEdge("", 1, 1), indexOf("A", "z", true), addNode("A", prop("k", value.OfInt(1))), setNode(2, "k", value.OfInt(1))}},
		{"n", two, "x", false, []api.Op{delNode(2, true), indexOf("A", "z", false)}},
		{"n", one, "", true, []api.Op{indexOf("A", "z", false), addNode("A", prop("k", value.OfInt(1)))}},
		{"e", one, "x", false, []api.Op{delEdge(1), setEdge(1, "k", null), setEdge(1, "", wrong), delNode(1, true), delNode(2, true)}},
		{"e", two, "", true, []api.Op{delNode(1, true), delNode(2, true)}},
		{"o", one + "x", "", false, []api.Op{delNode(1, true), delNode(1, false)}},
		{"i", one + "x", "", false, []api.Op{delNode(1, true), delNode(1, false)}},
		{"l", slowText("A") + slowInt(9), "", false, []api.Op{indexOf("A", "z", true)}},
		{"l", slowText("A") + "x", "", false, []api.Op{indexOf("A", "z", true)}},
		{"p", rule + string(keys.Put(nil, value.OfInt(5))) + slowInt(9), "", false, []api.Op{addNode("A", prop("k", value.OfInt(5))), setNode(1, "k", value.OfInt(5))}},
		{"u", rule, "", false, []api.Op{addNode("A"), delNode(1, true), setNode(1, "a", value.OfInt(1)), label(1, "L", true), indexOf("A", "k", true)}},
		{"u", "x", "\x00", false, []api.Op{addNode("A"), delNode(1, true), setNode(1, "a", value.OfInt(1)), label(1, "L", false)}},
	} {
		w := small(t)
		if c.gone {
			if there, e := w.s.Del(c.tree, []byte(c.key)); !there || e != api.OK {
				t.Fatal(there, int(e))
			}
		} else {
			lay(t, w, c.tree, c.key, c.val)
		}
		for _, o := range c.ops {
			place := w.place()
			if id, e := w.g.Do(o); id != 0 || e != api.ErrCorrupt {
				t.Errorf("behind %q %q: Do %v = %d, error %d", c.tree, c.key, o, id, int(e))
			}
			if w.place() != place {
				t.Errorf("behind %q %q: Do %v changed something", c.tree, c.key, o)
			}
		}
		for which, n := range w.numbers {
			if next, e := w.s.Peek(which); next != n || e != api.OK {
				t.Error("a number was taken", which, next)
			}
		}
	}
}

func TestNamedErrorsComeFirst(t *testing.T) {
	w := small(t)
	lay(t, w, "u", "x", "") // no index is to be read
	for _, c := range []struct {
		o    api.Op
		want api.Errno
	}{
		{addNode("1"), api.ErrArg}, {addNode("", great(4097)...), api.ErrBig}, {addNode(""), api.ErrCorrupt},
		{delNode(9, true), api.ErrNone}, {delNode(1, false), api.ErrHeld}, {setNode(9, "", wrong), api.ErrNone}, {setNode(1, "", wrong), api.ErrArg},
		{label(9, "", true), api.ErrNone}, {label(1, "", true), api.ErrArg}, {indexOf("A", "", true), api.ErrArg}, {indexOf("A", "k", true), api.ErrThere},
	} {
		if id, e := w.g.Do(c.o); id != 0 || e != c.want {
			t.Errorf("Do %s = %d, error %d, not %d", short(c.o), id, int(e), int(c.want))
		}
	}
}

// brokenOff asks that the transaction is broken, and that all is as it was behind its Abort.
func brokenOff(t *testing.T, s *txn.Store, g *graph.Graph, last slow) {
	t.Helper()
	_, e := s.Save()
	no(t, "Save", e, api.ErrState)
	for _, o := range append(changes(), api.Op{Kind: api.DelNode, Id: 9}) {
		if id, e := g.Do(o); id != 0 || e != api.ErrState {
			t.Error("Do of what is broken", short(o), id, int(e))
		}
	}
	no(t, "Abort", s.Abort(), api.OK)
	is(t, s, g, 0, last)
}

// committed is a store of some nodes, edges and indexes.
func committed(t *testing.T, pages, nodes int) (*sector.Disk, *txn.Store, *graph.Graph, slow) {
	t.Helper()
	d, s := create(t, pages)
	no(t, "Begin", s.Begin(), api.OK)
	w := &web{t, s, graph.New(s), none(), [2]int{1, 1}}
	w.index("A", "k", true)
	w.index("B", "k", false)
	for i := range nodes {
		w.node("A B", prop("k", value.OfInt(i)), prop("l", text(as(i))))
		w.edge("T", 1, i+1)
		w.edge("S", i+1, 1)
	}
	no(t, "Commit", s.Commit(), api.OK)
	return d, s, w.g, w.m
}

// deeds tells changes that a committed graph of some nodes takes, each of which writes to as many trees as it can.
func deeds() []api.Op {
	return []api.Op{
		addNode("A B C", prop("k", value.OfInt(-1)), prop("l", blob(200))), addEdge("T", 1, 2), delNode(1, true), delNode(2, true), delEdge(1),
		setNode(1, "k", value.OfInt(-1)), setNode(1, "k", null), setNode(1, "k", value.OfInt(0)), setEdge(1, "k", value.OfInt(1)), label(1, "A", false), label(1, "C", true), label(1, "A", true), indexOf("A", "l", true), indexOf("B", "l", false),
	}
}

// A disk that is cut somewhere in a change breaks the transaction.
func TestCutBreaks(t *testing.T) {
	d, s, g, last := committed(t, 500, 5)
	for _, o := range deeds() {
		cuts := 0
		for n := 0; ; n++ {
			no(t, "Begin", s.Begin(), api.OK)
			d.Cut(n)
			id, e := g.Do(o)
			d.Cut(-1)
			if e == api.OK {
				want, told, _, _ := last.do(o, [2]int{6, 11})
				if id != told {
					t.Error(id, told)
				}
				is(t, s, g, 0, want)
				no(t, "Abort", s.Abort(), api.OK)
				is(t, s, g, 0, last)
				break
			}
			if id != 0 || e != api.ErrCut {
				t.Fatal(o, n, id, int(e))
			}
			cuts++
			brokenOff(t, s, g, last)
		}
		if cuts == 0 {
			t.Error("never cut", o)
		}
	}
}

// A page that can't be read where a change looks for something breaks the transaction, too, ahead of any write.
func TestCorruptPageBreaks(t *testing.T) {
	d, s, g, last := committed(t, 500, 12)
	breaks := map[int]int{}
	goesOn := 0
	for _, k := range used(t, d) {
		whole, _ := d.Read(k)
		for i, o := range deeds() {
			no(t, "Begin", s.Begin(), api.OK)
			d.Write(k, nil)
			id, e := g.Do(o)
			_, broken := s.Save()
			d.Write(k, whole)
			if e != api.OK && (e != api.ErrCorrupt || id != 0) {
				t.Fatal(short(o), k, id, int(e))
			}
			if e == api.OK {
				no(t, "Abort", s.Abort(), api.OK)
			} else if broken == api.ErrState {
				breaks[i]++
				brokenOff(t, s, g, last)
			} else { // it lies amid those that a look goes over, where no key of a change is known to need it
				goesOn++
				place, e := s.Save()
				is(t, s, g, 0, last)
				if place != 0 || e != api.OK {
					t.Error(place, int(e))
				}
				no(t, "Abort", s.Abort(), api.OK)
			}
		}
	}
	if len(breaks) < len(deeds()) || goesOn > 8 {
		t.Error(breaks, goesOn)
	}
	is(t, s, g, 0, last)
}

// used tells the pages of the committed tree.
func used(t *testing.T, d *sector.Disk) []int {
	t.Helper()
	p, e := pager.Open(crash(t, d))
	no(t, "Open", e, api.OK)
	l, e := tree.Pages(p, p.Meta().Root)
	no(t, "Pages", e, api.OK)
	return l
}

// W5
func TestFullBreaks(t *testing.T) {
	d, s := create(t, 90)
	g := graph.New(s)
	m, numbers := none(), [2]int{1, 1}
	var great []api.Prop // a disk that has no room for it has some for what takes it away
	for i := range 10 {
		great = append(great, prop(fmt.Sprint("l", i), blob(250)))
	}
	full := 0
	for i := 0; full < 3; i++ {
		no(t, "Begin", s.Begin(), api.OK)
		o := addNode(fmt.Sprintf("A B%d", i%7), append([]api.Prop{prop("k", text(as(i%250)))}, great...)...)
		if i == 0 {
			o = indexOf("A", "k", false)
		}
		next, told, nexts, _ := m.do(o, numbers)
		id, e := g.Do(o)
		if e == api.ErrFull {
			full++
			if id != 0 {
				t.Error(id)
			}
			brokenOff(t, s, g, m)
			continue
		}
		if id != told || e != api.OK {
			t.Fatal(i, id, int(e))
		}
		no(t, "Commit", s.Commit(), api.OK)
		m, numbers = next, nexts
	}
	is(t, open(t, crash(t, d)), g, 0, m)
	for id := 1; len(m.nodes) > 0; id++ {
		no(t, "Begin", s.Begin(), api.OK)
		no(t, "Do", done(g.Do(delNode(id, false))), api.OK)
		no(t, "Commit", s.Commit(), api.OK)
		m, _, _, _ = m.do(delNode(id, false), numbers)
	}
	is(t, s, g, 0, m)
	if s.Used() > 2 {
		t.Error("what is deleted gave no room", s.Used())
	}
}

// The last number is told; the one behind is ErrFull, and nothing is broken.
func TestNumbersEnd(t *testing.T) {
	const top = 1 << 60
	for which := range 2 {
		d, _ := create(t, 100)
		m := meta.Meta{Gen: 3, Node: top - 2, Edge: 7}
		if which == 1 {
			m = meta.Meta{Gen: 3, Node: 7, Edge: top}
		}
		b, k, e := meta.Seal(m)
		no(t, "Seal", e, api.OK)
		no(t, "Write", d.Write(k, b), api.OK)
		no(t, "Flush", d.Flush(), api.OK)
		s := open(t, d)
		no(t, "Begin", s.Begin(), api.OK)
		w := &web{t, s, graph.New(s), none(), [2]int{m.Node, m.Edge}}
		w.index("A", "k", true)
		o := addNode("A", prop("k", value.OfInt(1)))
		n := w.do(o)
		if which == 0 {
			w.node("A")
			w.node("A")
		} else {
			o = addEdge("T", n, n)
			w.do(o)
		}
		place := w.place()
		for range 2 {
			want := api.ErrFull
			if which == 0 {
				w.refuses(api.ErrUnique, o)
				o.Props = nil
			}
			w.refuses(want, o)
			o.Props = []api.Prop{prop("k", value.OfInt(1))}
		}
		if w.place() != place {
			t.Error("something has changed")
		}
		w.do(setNode(n, "k", value.OfInt(2)))
		w.same()
	}
}

// P16.3

func TestBackAndAbort(t *testing.T) {
	d, s, g, last := committed(t, 500, 6)
	is(t, s, g, 0, last)
	for _, first := range deeds() {
		no(t, "Begin", s.Begin(), api.OK)
		begun, e := s.Save()
		no(t, "Save", e, api.OK)
		next, _, numbers, _ := last.do(first, [2]int{7, 13})
		no(t, "Do", done(g.Do(first)), api.OK)
		is(t, s, g, 0, next)
		between, e := s.Save()
		no(t, "Save", e, api.OK)
		for _, second := range deeds() {
			behind, told, nexts, want := next.do(second, numbers)
			id, e := g.Do(second)
			if id != told || e != want {
				t.Fatal(first, second, id, int(e))
			}
			is(t, s, g, 0, behind)
			no(t, "Back", s.Back(between), api.OK)
			is(t, s, g, 0, next)
			numbers = nexts // they are not done back
		}
		no(t, "Back", s.Back(begun), api.OK)
		is(t, s, g, 0, last)
		no(t, "Do", done(g.Do(first)), api.OK)
		no(t, "Abort", s.Abort(), api.OK)
		is(t, s, g, 0, last)
	}
	c := open(t, crash(t, d))
	is(t, c, graph.New(c), 0, last)
	is(t, c, g, 0, last) // a view of the elder store
}

// Two graphs over one store are the same one.
func TestTwoOverOne(t *testing.T) {
	w := small(t)
	other := graph.New(w.s)
	is(t, w.s, other, 0, w.m)
	m, told, _, _ := w.m.do(addNode("A"), w.numbers)
	if id, e := other.Do(addNode("A")); id != told || e != api.OK {
		t.Error(id, int(e))
	}
	is(t, w.s, w.g, 0, m)
}

// What other trees of the store have is no matter.
func TestOtherTrees(t *testing.T) {
	w := small(t)
	for _, name := range []string{"nn", "m", "n1", "ee", "_", "ll", "pp", as(16)} {
		lay(t, w, name, slowInt(1), "x")
		lay(t, w, name, "", as(300))
	}
	for _, o := range deeds()[:3] {
		w.do(o)
		w.same()
	}
}

// Rule 4

// spare tells a list with room behind it, and what that room must be.
func spare[T any](l []T, behind T) []T {
	all := append(slices.Clone(l), behind, behind, behind)
	return all[:len(l)]
}

func TestDoKeepsNothing(t *testing.T) {
	for _, kind := range []int{api.AddNode, api.AddEdge, api.SetNode, api.SetEdge, api.Index} {
		w := small(t)
		atoms := spare([]api.Atom{text("a").Atom, text("b").Atom}, text("spare").Atom)
		list := api.Value{Atom: api.Atom{Kind: api.List}, L: atoms}
		o := api.Op{Kind: kind, Id: 1, To: 2, Name: "T", V: list}
		o.Props = spare([]api.Prop{prop("b", list), prop("c", value.OfInt(1))}, prop("spare", value.OfInt(1)))
		o.Labels = spare([]string{"Y", "X", "Y"}, "Spare")
		if kind == api.Index {
			o.Labels = spare([]string{"Y"}, "Spare")
		}
		was := tell(o) + tell(o.Labels[:cap(o.Labels)]) + tell(o.Props[:cap(o.Props)]) + tell(atoms[:cap(atoms)])
		want, _, _, _ := w.m.do(o, w.numbers)
		trees := want.trees()
		no(t, "Do", done(w.g.Do(o)), api.OK)
		if tell(o)+tell(o.Labels[:cap(o.Labels)])+tell(o.Props[:cap(o.Props)])+tell(atoms[:cap(atoms)]) != was {
			t.Error("Do changes what is handed in", kind)
		}
		for i := range o.Labels {
			o.Labels[i] = "Other"
		}
		for i := range atoms {
			atoms[i].S = "other"
		}
		for i := range o.Props {
			o.Props[i] = api.Prop{}
		}
		treesAre(t, w.s, 0, trees)
	}
}

func TestLooksAreNew(t *testing.T) {
	w := begun(t)
	l := api.Value{Atom: api.Atom{Kind: api.List}, L: []api.Atom{value.OfInt(1).Atom}}
	w.index("A", "k", true)
	w.index("A", "l", true)
	w.node("A B", prop("k", l), prop("l", text("x")))
	w.node("A", prop("k", text("x")))
	w.edge("T", 1, 1, prop("k", l), prop("l", l))
	w.edge("T", 1, 2)
	for range 2 {
		w.same()
		byPropIs(t, w.g, 0, "A", "k", l, w.m)
		spoilNodes(w)
		all, _ := w.g.All(0)
		spoil(all.Nodes, api.Node{})
		spoil(all.Edges, api.Edge{})
		r, _ := w.g.Rules(0)
		spoil(r, api.Rule{})
		n, _ := w.g.Out(0, 1)
		spoil(n, 9)
		n, _ = w.g.In(0, 1)
		spoil(n, 9)
		n, _ = w.g.ByLabel(0, "A")
		spoil(n, 9)
		n, _, _ = w.g.ByProp(0, "A", "k", l)
		spoil(n, 9)
	}
	w.same()
}

// spoil writes over a list, its spare room too.
func spoil[T any](l []T, with T) {
	l = l[:cap(l)]
	for i := range l {
		l[i] = with
	}
}

func spoilNodes(w *web) {
	all, _ := w.g.All(0)
	n, _, _ := w.g.Node(0, 1)
	x, _, _ := w.g.Edge(0, 1)
	lists := 0
	for _, n := range append(all.Nodes, n) {
		before := tellNode(n)
		_ = append(n.Labels, "Spoilt")
		for _, p := range n.Props {
			_ = append(p.V.L, value.OfInt(7).Atom)
		}
		_ = append(n.Props, prop("z", value.OfInt(7)))
		if tellNode(n) != before {
			w.t.Error("lists share their room", before)
		}
		for _, p := range n.Props {
			lists += len(p.V.L)
			spoil(p.V.L, value.OfInt(7).Atom)
		}
		spoil(n.Labels, "Spoilt")
		spoil(n.Props, prop("z", value.OfInt(7)))
	}
	for _, x := range append(all.Edges, x) {
		for _, p := range x.Props {
			lists += len(p.V.L)
			spoil(p.V.L, value.OfInt(7).Atom)
		}
		spoil(x.Props, prop("z", value.OfInt(7)))
	}
	if lists != 6 {
		w.t.Error(lists)
	}
}

// W2

// tale is a graph whose disk is cut somewhere, and what may be found of it behind a crash.
type tale struct {
	t       *testing.T
	s       *txn.Store
	g       *graph.Graph
	may     map[int]slow // by generations
	now     slow
	numbers [2]int
	lasts   [2]int
	whole   bool // nothing was cut so far
}

func (y *tale) went(e api.Errno) bool {
	y.t.Helper()
	if e != api.OK && e != api.ErrCut {
		y.t.Fatal(int(e))
	}
	y.whole = y.whole && e == api.OK
	return y.whole
}

func (y *tale) does(ops ...api.Op) {
	for _, o := range ops {
		if !y.whole {
			return
		}
		next, told, numbers, _ := y.now.do(o, y.numbers)
		id, e := y.g.Do(o)
		if y.went(e) {
			y.now, y.numbers = next, numbers
			if id != told {
				y.t.Error(o, id, told)
			}
		}
	}
}

func (y *tale) commits() {
	if !y.whole {
		return
	}
	gen := y.s.Gen()
	y.may[gen+1] = y.now
	if y.went(y.s.Commit()) {
		delete(y.may, gen)
		no(y.t, "Begin", y.s.Begin(), api.OK)
	}
}

func (y *tale) tell() {
	no(y.t, "Begin", y.s.Begin(), api.OK)
	y.does(indexOf("A", "k", true), addNode("A B", prop("k", value.OfInt(1))), addNode("A", prop("k", value.OfInt(2)), prop("l", blob(200))), addEdge("T", 1, 2), addEdge("S", 2, 2))
	y.commits()
	y.does(setNode(1, "k", value.OfInt(3)), label(2, "B", true), indexOf("B", "k", false), addNode("B"), addEdge("T", 3, 1))
	y.commits()
	y.does(delNode(2, true), setEdge(3, "w", value.OfReal(0.5)), label(1, "A", false))
	y.commits()
	y.does(delEdge(3), addEdge("T", 1, 3), addNode("", prop("z", text("z"))))
	y.commits()
}

func TestCrashAnywhere(t *testing.T) {
	for n := range 1000 {
		d, s := create(t, 200)
		d.Cut(n)
		y := &tale{t: t, s: s, g: graph.New(s), may: map[int]slow{s.Gen(): none()}, now: none(), numbers: [2]int{1, 1}, whole: true}
		y.tell()
		for _, keep := range []int{0, api.Size, 8, 300} {
			c := open(t, crash(t, d, slices.Repeat([]int{keep}, d.Waiting())...))
			m, there := y.may[c.Gen()]
			if !there {
				t.Fatal("Gen", c.Gen())
			}
			is(t, c, graph.New(c), 0, m)
		}
		if t.Failed() {
			t.Fatal("cut behind", n)
		}
		if y.whole {
			if n < 60 {
				t.Error(n)
			}
			return
		}
	}
	t.Error("it was cut each time")
}

// A record that has just room enough, in all trees.
func TestGreatest(t *testing.T) {
	w := begun(t)
	labels, names := []string{}, []string{}
	for i := range 8 {
		labels = append(labels, fmt.Sprint("L", strings.Repeat("x", 14), i))
	}
	for i := range 16 {
		names = append(names, fmt.Sprint("p", strings.Repeat("x", 13), 10+i))
	}
	var l []api.Prop
	for i, name := range names {
		l = append(l, prop(name, blob(200+i)))
	}
	for _, label := range labels {
		for i, name := range names {
			w.index(label, name, i%2 == 0)
		}
	}
	w.node(strings.Join(labels, " "), l...)
	w.same()
	w.refuses(api.ErrUnique, addNode(labels[7], l...))
	w.do(setNode(1, names[15], value.OfInt(1)))
	w.same()
	b, e := record.PutNode(w.m.nodes[1])
	if len(b) < 3500 || e != api.OK {
		t.Error(len(b), int(e))
	}
	w.do(delNode(1, false))
	w.same()
}
