package graph_test

import (
	"fmt"
	"math"
	"slices"
	"strings"
	"testing"

	"cobweb/api"
	"cobweb/graph"
	"cobweb/keys"
	"cobweb/record"
	"cobweb/sector"
	"cobweb/txn"
	"cobweb/value"
)

const (
	maxInt = math.MaxInt
	minInt = math.MinInt
)

func as(n int) string { return strings.Repeat("a", n) }

// no holds an error against the one that must be told.
func no(t *testing.T, what string, e, want api.Errno) {
	t.Helper()
	if e != want {
		t.Errorf("%s: error %d, not %d", what, int(e), int(want))
	}
}

func open(t *testing.T, d *sector.Disk) *txn.Store {
	t.Helper()
	s, e := txn.Open(d)
	if e != api.OK {
		t.Fatal("Open", int(e))
	}
	return s
}

// create makes a store of so many pages.
func create(t *testing.T, pages int) (*sector.Disk, *txn.Store) {
	t.Helper()
	d, e := sector.New(pages + 2)
	no(t, "New", e, api.OK)
	no(t, "Create", txn.Create(d), api.OK)
	return d, open(t, d)
}

func crash(t *testing.T, d *sector.Disk, keep ...int) *sector.Disk {
	t.Helper()
	c, e := d.Crash(keep)
	no(t, "Crash", e, api.OK)
	return c
}

// web is a graph in a begun transaction, and what it must be.
type web struct {
	t       *testing.T
	s       *txn.Store
	g       *graph.Graph
	m       slow
	numbers [2]int
}

func begun(t *testing.T) *web {
	t.Helper()
	_, s := create(t, 1000)
	no(t, "Begin", s.Begin(), api.OK)
	return &web{t, s, graph.New(s), none(), [2]int{1, 1}}
}

// do does a change that must be done, and tells its number.
func (w *web) do(o api.Op) int {
	w.t.Helper()
	m, told, numbers, want := w.m.do(o, w.numbers)
	id, e := w.g.Do(o)
	if e != api.OK || want != api.OK || id != told {
		w.t.Fatalf("Do %s = %d, error %d, not %d, error %d", short(o), id, int(e), told, int(want))
	}
	w.m, w.numbers = m, numbers
	return id
}

// refuses does a change that must be refused, and nothing may have changed.
func (w *web) refuses(want api.Errno, o api.Op) {
	w.t.Helper()
	id, e := w.g.Do(o)
	if e != want || id != 0 {
		w.t.Errorf("Do %s = %d, error %d, not %d", short(o), id, int(e), int(want))
	}
	treesAre(w.t, w.s, 0, w.m.trees())
	for which, n := range w.numbers {
		next, e := w.s.Peek(which)
		if next != n || e != api.OK {
			w.t.Errorf("Do %s took a number: %d, error %d", short(o), next, int(e))
		}
	}
}

// same asks that all is as it must be.
func (w *web) same() {
	w.t.Helper()
	is(w.t, w.s, w.g, 0, w.m)
}

func (w *web) node(labels string, l ...api.Prop) int {
	w.t.Helper()
	return w.do(api.Op{Kind: api.AddNode, Labels: strings.Fields(labels), Props: l})
}

func (w *web) edge(kind string, from, to int, l ...api.Prop) int {
	w.t.Helper()
	return w.do(api.Op{Kind: api.AddEdge, Name: kind, Id: from, To: to, Props: l})
}

func (w *web) index(label, name string, unique bool) {
	w.t.Helper()
	w.do(indexOf(label, name, unique))
}

func addNode(labels string, l ...api.Prop) api.Op {
	return api.Op{Kind: api.AddNode, Labels: strings.Fields(labels), Props: l}
}

func addEdge(kind string, from, to int, l ...api.Prop) api.Op {
	return api.Op{Kind: api.AddEdge, Name: kind, Id: from, To: to, Props: l}
}

func delNode(id int, whole bool) api.Op { return api.Op{Kind: api.DelNode, Id: id, Flag: whole} }
func delEdge(id int) api.Op             { return api.Op{Kind: api.DelEdge, Id: id} }

func setNode(id int, name string, v api.Value) api.Op {
	return api.Op{Kind: api.SetNode, Id: id, Name: name, V: v}
}

func setEdge(id int, name string, v api.Value) api.Op {
	return api.Op{Kind: api.SetEdge, Id: id, Name: name, V: v}
}

func label(id int, name string, put bool) api.Op {
	return api.Op{Kind: api.Label, Id: id, Name: name, Flag: put}
}

func indexOf(label, name string, unique bool) api.Op {
	return api.Op{Kind: api.Index, Labels: []string{label}, Name: name, Flag: unique}
}

func prop(name string, v api.Value) api.Prop { return api.Prop{Name: name, V: v} }

var (
	one, two = value.OfInt(1), value.OfInt(2)
	null     = api.Value{}
	wrong    = api.Value{Atom: api.Atom{Kind: 7}}
	text     = value.OfText
)

func blob(n int) api.Value { return api.Value{Atom: api.Atom{Kind: api.Bytes, S: as(n)}} }

// great tells properties with which a node without labels has so many bytes, above 4000.
func great(n int) []api.Prop {
	var l []api.Prop
	left := n - 2
	for i := range 15 {
		l = append(l, prop(fmt.Sprint("g", 10+i), blob(256))) // 3 and 2, 1 and 256 and 2
		left -= 264
	}
	l = append(l, prop("g9", blob(left-4-3)))
	return l
}

// P16.1

func TestExample(t *testing.T) {
	w := begun(t)
	if id := w.node("A"); id != 1 {
		t.Error(id)
	}
	if id := w.edge("T", 1, 1); id != 1 {
		t.Error(id)
	}
	w.refuses(api.ErrHeld, delNode(1, false))
	w.same()
}

// refusesAll asks all looks for an error.
func refusesAll(t *testing.T, g *graph.Graph, view int, want api.Errno) {
	t.Helper()
	n, there, e := g.Node(view, 1)
	if tellNode(n) != tellNode(api.Node{}) || there || e != want {
		t.Error("Node", n, there, int(e))
	}
	x, there, e := g.Edge(view, 1)
	if tellEdge(x) != tellEdge(api.Edge{}) || there || e != want {
		t.Error("Edge", x, there, int(e))
	}
	if l, e := g.Out(view, 1); len(l) > 0 || e != want {
		t.Error("Out", l, int(e))
	}
	if l, e := g.In(view, 1); len(l) > 0 || e != want {
		t.Error("In", l, int(e))
	}
	for _, label := range someLabels {
		if l, e := g.ByLabel(view, label); len(l) > 0 || e != want {
			t.Error("ByLabel", label, l, int(e))
		}
		for _, name := range []string{"k", "", as(300)} {
			if l, there, e := g.ByProp(view, label, name, two); len(l) > 0 || there || e != want {
				t.Error("ByProp", label, name, l, there, int(e))
			}
		}
	}
	if all, e := g.All(view); len(all.Nodes) > 0 || len(all.Edges) > 0 || e != want {
		t.Error("All", all, int(e))
	}
	if l, e := g.Rules(view); len(l) > 0 || e != want {
		t.Error("Rules", l, int(e))
	}
}

// changes tells a change of each Kind, each of which a graph of a node 1 and an edge 1 could take.
func changes() []api.Op {
	return []api.Op{addNode("A"), addEdge("T", 1, 1), delNode(1, true), delEdge(1), setNode(1, "k", one), setEdge(1, "k", one), label(1, "L", true), indexOf("A", "k", false)}
}

func TestOfNil(t *testing.T) {
	for i, g := range []*graph.Graph{nil, {}, graph.New(nil), graph.New(&txn.Store{})} {
		for _, view := range []int{0, 1, -1, maxInt} {
			refusesAll(t, g, view, api.ErrNil)
		}
		for _, o := range append(changes(), api.Op{}, api.Op{Kind: 9}, setNode(0, "", wrong)) {
			if id, e := g.Do(o); id != 0 || e != api.ErrNil {
				t.Error(i, o, id, int(e))
			}
		}
	}
}

func TestDoNeedsATransaction(t *testing.T) {
	_, s := create(t, 1000)
	g := graph.New(s)
	refused := func() {
		t.Helper()
		for _, o := range append(changes(), api.Op{}, api.Op{Kind: 9}, api.Op{Kind: -1}, setNode(0, "", wrong)) {
			if id, e := g.Do(o); id != 0 || e != api.ErrState {
				t.Error(o, id, int(e))
			}
		}
	}
	refused()
	no(t, "Begin", s.Begin(), api.OK)
	no(t, "Do", done(g.Do(addNode("A"))), api.OK)
	no(t, "Do", done(g.Do(addEdge("T", 1, 1))), api.OK)
	no(t, "Commit", s.Commit(), api.OK)
	refused()
	no(t, "Begin", s.Begin(), api.OK)
	no(t, "Abort", s.Abort(), api.OK)
	refused()
	m, _, _, _ := none().do(addNode("A"), [2]int{1, 1})
	m, _, _, _ = m.do(addEdge("T", 1, 1), [2]int{2, 1})
	is(t, s, g, 0, m)
	no(t, "Begin", s.Begin(), api.OK)
	for _, o := range changes()[:2] {
		no(t, "Do", done(g.Do(o)), api.OK)
	}
}

func TestKindsThatAreNone(t *testing.T) {
	w := begun(t)
	w.node("A")
	w.edge("T", 1, 1)
	for _, kind := range []int{0, -1, 9, 10, 257, minInt, maxInt} {
		w.refuses(api.ErrArg, api.Op{Kind: kind, Id: 1, To: 1, Name: "T", Labels: []string{"A"}, V: one, Flag: true})
		w.refuses(api.ErrArg, api.Op{Kind: kind})
	}
}

func TestAddNode(t *testing.T) {
	w := begun(t)
	for i, labels := range []string{"", "A", "B A", "A A", "B A B", "H G F E D C B A", strings.Repeat("H G F E D C B A ", 40), as(16), "_ a A Z9 a"} {
		if id := w.node(labels); id != i+1 {
			t.Error(id, labels)
		}
	}
	w.node("A", prop("k", one))
	w.node("", prop("_", text("")), prop("k", blob(256)), prop("l", api.Value{Atom: api.Atom{Kind: api.List}}))
	w.node("", great(4096)...)
	w.node("A", great(4093)...)
	w.same()
	if n, _, _ := w.g.Node(0, 5); !slices.Equal(n.Labels, []string{"A", "B"}) {
		t.Error(n.Labels)
	}
}

// sixteen tells as many properties as a node may have, and others ahead of them.
func sixteen(ahead ...string) []api.Prop {
	var l []api.Prop
	for _, name := range ahead {
		l = append(l, prop(name, one))
	}
	for i := range 16 {
		l = append(l, prop(fmt.Sprint("p", 10+i), one))
	}
	return l
}

func wrongProps() [][]api.Prop {
	return [][]api.Prop{
		{prop("", one)}, {prop("1", one)}, {prop(as(17), one)}, {prop("k", null)}, {prop("k", wrong)}, {prop("k", blob(257))},
		{prop("b", one), prop("a", one)}, {prop("a", one), prop("a", one)}, sixteen("a"), append(great(4097), prop("a", one)),
	}
}

func TestAddNodeRefuses(t *testing.T) {
	w := begun(t)
	w.node("U", prop("k", one))
	w.index("U", "k", true)
	for _, labels := range [][]string{{""}, {"1"}, {as(17)}, {"A", "B", ""}, {"A b"}, strings.Fields("A B C D E F G H I"), {"U", "-"}} {
		w.refuses(api.ErrArg, api.Op{Kind: api.AddNode, Labels: labels, Props: []api.Prop{prop("k", one)}})
		w.refuses(api.ErrArg, api.Op{Kind: api.AddNode, Labels: labels, Props: great(4097)})
	}
	for _, l := range wrongProps() {
		w.refuses(api.ErrArg, addNode("U", l...))
	}
	w.refuses(api.ErrBig, addNode("", great(4097)...))
	w.refuses(api.ErrBig, addNode("A", great(4094)...))
	big := append(great(4096)[:15], prop("k", one))
	big[0].V = api.Value{Atom: api.Atom{Kind: api.List}, L: slices.Repeat([]api.Atom{text(as(250)).Atom}, 2)}
	w.refuses(api.ErrBig, addNode("U", big...))
	w.refuses(api.ErrUnique, addNode("U", prop("k", one)))
	w.refuses(api.ErrUnique, addNode("Z U A", prop("a", two), prop("k", one), prop("z", two)))
	w.node("A", prop("k", one))
	w.node("U", prop("l", one))
	w.node("U", prop("k", value.OfReal(1)))
	w.node("UU", prop("k", one))
	w.same()
}

func TestAddEdge(t *testing.T) {
	w := begun(t)
	for range 3 {
		w.node("")
	}
	for i, c := range []struct {
		kind     string
		from, to int
	}{{"T", 1, 2}, {"T", 1, 2}, {"T", 2, 1}, {"T", 2, 2}, {"S", 1, 2}, {"TT", 1, 3}, {as(16), 3, 3}, {"_", 3, 1}} {
		if id := w.edge(c.kind, c.from, c.to); id != i+1 {
			t.Error(id, c)
		}
	}
	w.edge("T", 1, 1, prop("a", one), prop("b", text("x")))
	w.edge("T", 1, 1, great(4096-18)...)
	w.same()
}

func TestAddEdgeRefuses(t *testing.T) {
	w := begun(t)
	w.node("")
	w.node("")
	w.do(delNode(2, false))
	w.edge("T", 1, 1)
	for _, id := range []int{0, 2, 3, -1, maxInt, minInt} {
		for _, o := range []api.Op{addEdge("T", id, 1), addEdge("T", 1, id), addEdge("T", id, id), addEdge("", id, 1), addEdge("T", 1, id, great(4097)...), addEdge("T", 1, id, prop("", one))} {
			w.refuses(api.ErrNone, o)
		}
	}
	for _, kind := range []string{"", "1", as(17), "a b"} {
		w.refuses(api.ErrArg, addEdge(kind, 1, 1))
		w.refuses(api.ErrArg, addEdge(kind, 1, 1, great(4097)...))
	}
	for _, l := range wrongProps() {
		w.refuses(api.ErrArg, addEdge("T", 1, 1, l...))
	}
	w.refuses(api.ErrBig, addEdge("T", 1, 1, great(4097-18)...))
	if id := w.edge("T", 1, 1); id != 2 {
		t.Error(id)
	}
	w.same()
}

func TestDelNode(t *testing.T) {
	w := begun(t)
	w.index("A", "k", false)
	for range 4 {
		w.node("A B", prop("k", one))
	}
	w.edge("T", 1, 2)
	w.edge("T", 3, 3)
	w.edge("T", 1, 2)
	w.edge("S", 2, 1)
	for _, id := range []int{0, 5, -1, maxInt, minInt} {
		w.refuses(api.ErrNone, delNode(id, false))
		w.refuses(api.ErrNone, delNode(id, true))
	}
	for _, id := range []int{1, 2, 3} {
		w.refuses(api.ErrHeld, delNode(id, false))
	}
	w.do(delNode(4, false))
	w.same()
	w.do(delNode(3, true))
	w.same()
	w.do(delEdge(4))
	w.refuses(api.ErrHeld, delNode(1, false)) // has them from itself alone
	w.refuses(api.ErrHeld, delNode(2, false)) // has them to itself alone
	w.do(delNode(2, true))
	w.same()
	w.do(delNode(1, true))
	w.same()
	w.refuses(api.ErrNone, delNode(1, true))
	if id := w.node("A"); id != 5 {
		t.Error("a number is told again", id)
	}
}

func TestDelEdge(t *testing.T) {
	w := begun(t)
	w.node("")
	w.node("")
	for range 2 {
		w.edge("T", 1, 2)
		w.edge("T", 2, 2)
	}
	for _, id := range []int{0, 5, -1, maxInt, minInt} {
		w.refuses(api.ErrNone, delEdge(id))
	}
	for _, id := range []int{2, 1, 4, 3} {
		w.do(delEdge(id))
		w.same()
		w.refuses(api.ErrNone, delEdge(id))
	}
	w.do(delNode(2, false))
	if id := w.edge("T", 1, 1); id != 5 {
		t.Error("a number is told again", id)
	}
}

func TestSetNode(t *testing.T) {
	w := begun(t)
	w.index("A", "k", true)
	w.index("B", "k", false)
	w.node("A B", prop("k", one))
	w.node("A B", prop("k", two))
	w.node("B", prop("k", one))
	w.node("", sixteen()...)
	w.node("", great(4096)...)
	for _, id := range []int{0, 6, -1, maxInt, minInt} {
		w.refuses(api.ErrNone, setNode(id, "k", one))
		w.refuses(api.ErrNone, setNode(id, "", wrong))
	}
	for _, id := range []int{1, 4, 5} {
		w.refuses(api.ErrArg, setNode(id, "", one))
		w.refuses(api.ErrArg, setNode(id, as(17), null))
		w.refuses(api.ErrArg, setNode(id, "k", wrong))
		w.refuses(api.ErrArg, setNode(id, "k", blob(257)))
	}
	w.refuses(api.ErrFull, setNode(4, "k", one))
	w.refuses(api.ErrFull, setNode(5, "k", one))
	w.refuses(api.ErrBig, setNode(5, "g9", blob(256)))
	w.refuses(api.ErrUnique, setNode(1, "k", two))
	w.refuses(api.ErrUnique, setNode(2, "k", one))
	for _, o := range []api.Op{
		setNode(1, "k", one), setNode(3, "k", two), setNode(1, "l", two), setNode(1, "k", null), setNode(2, "k", one), setNode(2, "z", null), setNode(1, "k", two), setNode(1, "k", value.OfReal(1)),
		setNode(4, "p10", blob(9)), setNode(4, "p10", null), setNode(4, "k", one), setNode(4, "zz", null), setNode(5, "g9", null), setNode(5, "a", one),
	} {
		w.do(o)
		w.same()
	}
}

func TestSetNodeBigAheadOfUnique(t *testing.T) {
	w := begun(t)
	w.node("A", prop("g9", blob(256)))
	w.index("A", "g9", true)
	w.node("A", great(4093)...)
	w.refuses(api.ErrBig, setNode(2, "g9", blob(256)))
	w.do(setNode(2, "g10", null))
	w.refuses(api.ErrUnique, setNode(2, "g9", blob(256)))
}

func TestSetEdge(t *testing.T) {
	w := begun(t)
	w.node("T", prop("k", one))
	w.index("T", "k", true)
	w.edge("T", 1, 1, prop("a", one))
	w.edge("T", 1, 1, sixteen()...)
	w.edge("T", 1, 1, great(4096-18)...)
	for _, id := range []int{0, 4, -1, maxInt, minInt} {
		w.refuses(api.ErrNone, setEdge(id, "k", one))
		w.refuses(api.ErrNone, setEdge(id, "", wrong))
	}
	for _, id := range []int{1, 2, 3} {
		w.refuses(api.ErrArg, setEdge(id, "", one))
		w.refuses(api.ErrArg, setEdge(id, "1", null))
		w.refuses(api.ErrArg, setEdge(id, "k", wrong))
	}
	w.refuses(api.ErrFull, setEdge(2, "k", one))
	w.refuses(api.ErrFull, setEdge(3, "k", one))
	w.refuses(api.ErrBig, setEdge(3, "g9", blob(256)))
	for _, o := range []api.Op{setEdge(1, "k", one), setEdge(1, "a", two), setEdge(1, "a", null), setEdge(1, "a", null), setEdge(2, "p10", null), setEdge(2, "k", one), setEdge(3, "g9", blob(1))} {
		w.do(o)
		w.same()
	}
}

func TestLabel(t *testing.T) {
	w := begun(t)
	w.index("A", "k", true)
	w.index("B", "k", true)
	w.node("B", prop("k", one))
	w.node("A", prop("k", one))
	w.node("C D E F G H I J", prop("k", one))
	w.node("", great(4096)...)
	for _, put := range []bool{true, false} {
		for _, id := range []int{0, 5, -1, maxInt, minInt} {
			w.refuses(api.ErrNone, label(id, "A", put))
			w.refuses(api.ErrNone, label(id, "", put))
		}
		for _, name := range []string{"", "1", as(17), "a-"} {
			for id := range 4 {
				w.refuses(api.ErrArg, label(id+1, name, put))
			}
		}
	}
	w.refuses(api.ErrFull, label(3, "K", true))
	w.refuses(api.ErrFull, label(3, "A", true)) // would be ErrUnique, too
	w.refuses(api.ErrBig, label(4, "K", true))
	w.refuses(api.ErrUnique, label(1, "A", true))
	w.refuses(api.ErrUnique, label(2, "B", true))
	for _, o := range []api.Op{
		label(1, "B", true), label(1, "A", false), label(3, "C", true), label(3, "Z", false), label(3, "E", false), label(3, "Z", true), label(3, "Z", false),
		label(2, "A", false), label(1, "A", true), label(1, "B", false), label(2, "B", true), label(4, "K", false),
	} {
		w.do(o)
		w.same()
	}
	w.refuses(api.ErrUnique, label(3, "A", true))
}

func TestLabelBigAheadOfUnique(t *testing.T) {
	w := begun(t)
	w.index("A", "g9", true)
	w.node("A", great(4093)[15])
	w.node("", great(4093)...)
	w.node("", append(great(4093)[:15], prop("g9", blob(60)))...)
	w.do(label(3, "A", true))
	w.do(setNode(1, "g9", great(4096)[15].V))
	w.node("", great(4096)...)
	w.refuses(api.ErrBig, label(4, "A", true))
	w.do(label(2, "A", true))
	w.same()
}

func TestIndex(t *testing.T) {
	w := begun(t)
	w.node("A", prop("k", one), prop("l", one))
	w.node("A", prop("k", two), prop("l", one))
	w.node("B", prop("k", one))
	w.node("A")
	for _, labels := range [][]string{nil, {}, {"A", "B"}, {"A", "A"}, {""}, {"1"}, {as(17)}} {
		w.refuses(api.ErrArg, api.Op{Kind: api.Index, Labels: labels, Name: "k", Flag: true})
		w.refuses(api.ErrArg, api.Op{Kind: api.Index, Labels: labels, Name: "l"})
	}
	for _, name := range []string{"", "1", as(17), as(300)} {
		w.refuses(api.ErrArg, indexOf("A", name, false))
		w.refuses(api.ErrArg, indexOf("A", name, true))
	}
	w.refuses(api.ErrUnique, indexOf("A", "l", true))
	w.index("A", "l", false)
	w.index("A", "k", true)
	w.index("B", "k", false)
	w.index("AA", "k", true)
	w.index(as(16), as(16), true)
	w.node(as(16), prop(as(16), text(as(256))))
	w.same()
	for _, unique := range []bool{true, false} {
		w.refuses(api.ErrThere, indexOf("A", "k", unique))
		w.refuses(api.ErrThere, indexOf("A", "l", unique)) // would be ErrUnique, too
		w.refuses(api.ErrThere, indexOf("B", "k", unique))
	}
}

// What is like another value is what value.Compare says, whatever part of it a key has.
func TestUnique(t *testing.T) {
	long := strings.Repeat("x", 60)
	list := func(l ...api.Atom) api.Value { return api.Value{Atom: api.Atom{Kind: api.List}, L: l} }
	all := append(some(), text(long+"a"), text(long+"b"), text(long), list(text(long).Atom), list(text(long).Atom, one.Atom), value.OfInt(maxInt), value.OfReal(1<<63))
	for _, first := range []bool{true, false} {
		w := begun(t)
		if first {
			w.index("A", "k", true)
		}
		for _, v := range all {
			w.node("B A", prop("k", v))
		}
		if !first {
			w.index("A", "k", true)
		}
		w.same()
		for i, v := range all {
			w.refuses(api.ErrUnique, addNode("A", prop("k", v)))
			w.refuses(api.ErrUnique, setNode(1+(i+1)%len(all), "k", v))
			w.do(setNode(i+1, "k", v))
			byPropIs(t, w.g, 0, "A", "k", v, w.m)
		}
		w.do(delNode(1, false))
		w.do(label(2, "A", false))
		w.do(setNode(3, "k", null))
		for i := range 3 {
			if id := w.node("A", prop("k", all[i])); id != len(all)+1+i {
				t.Error(id)
			}
		}
		w.refuses(api.ErrUnique, label(2, "A", true))
		w.same()
	}
	for _, v := range all {
		w := begun(t)
		w.node("A", prop("k", v))
		w.node("A", prop("k", v))
		w.node("B", prop("k", v))
		w.refuses(api.ErrUnique, indexOf("A", "k", true))
		w.index("B", "k", true)
		w.index("A", "k", false)
		w.same()
	}
}

// P16.2

func TestLooks(t *testing.T) {
	w := begun(t)
	for range 3 {
		w.node("A")
	}
	for _, kind := range []string{"Z", "A", "M", "A"} { // what is first in a tree is not the least number
		w.edge(kind, 1, 3)
		w.edge(kind, 1, 1)
		w.edge(kind, 3, 1)
		w.edge(kind, 2, 1)
	}
	w.same()
	w.do(delNode(2, true))
	w.same()
	for _, id := range []int{minInt, maxInt, -1, 0, 2, 4, 1 << 60} {
		asked(t, w.g, 0, id, w.m)
	}
}

func TestByProp(t *testing.T) {
	w := begun(t)
	for _, v := range some() {
		w.node("A AB", prop("k", v), prop("kk", v))
		w.node("A", prop("k", v))
		w.node("B", prop("k", v))
		w.node("A", prop("kk", v))
	}
	w.index("A", "k", false)
	w.index("AB", "kk", true)
	ask := func() {
		t.Helper()
		for _, v := range append(some(), null, wrong, text("abc"), value.OfInt(7), blob(0), blob(24)) {
			for _, label := range someLabels {
				for _, name := range someNames {
					byPropIs(t, w.g, 0, label, name, v, w.m)
				}
			}
		}
	}
	ask()
	for i := range some() {
		w.do(delNode(4*i+2, false))
		w.do(label(4*i+1, "AB", i%2 == 0))
	}
	ask()
}

func TestRules(t *testing.T) {
	w := begun(t)
	for i, r := range []string{"B k", "A l", "AA k", "A k", "A kk", "a k", "_ k", "B A"} {
		f := strings.Fields(r)
		w.index(f[0], f[1], i%2 == 0)
	}
	l, e := w.g.Rules(0)
	want := "A.k false, A.kk true, A.l false, AA.k true, B.A false, B.k true, _.k true, a.k false"
	var got []string
	for _, r := range l {
		got = append(got, fmt.Sprint(r.Label, ".", r.Name, " ", r.Unique))
	}
	if e != api.OK || strings.Join(got, ", ") != want {
		t.Error(got, int(e))
	}
}

func TestViews(t *testing.T) {
	w := begun(t)
	w.index("A", "k", true)
	w.node("A", prop("k", one))
	w.edge("T", 1, 1)
	no(t, "Commit", w.s.Commit(), api.OK)
	first := w.m
	v, e := w.s.Pin()
	no(t, "Pin", e, api.OK)
	no(t, "Begin", w.s.Begin(), api.OK)
	w.do(setNode(1, "k", two))
	w.node("A", prop("k", one))
	w.do(delEdge(1))
	w.index("A", "l", false)
	is(t, w.s, w.g, v, first)
	w.same()
	byPropIs(t, w.g, v, "A", "k", one, first)
	byPropIs(t, w.g, v, "A", "l", one, first)
	byPropIs(t, w.g, 0, "A", "k", one, w.m)
	byPropIs(t, w.g, 0, "A", "l", one, w.m)
	for _, view := range []int{-1, 1, v + 1, minInt, maxInt} {
		refusesAll(t, w.g, view, api.ErrNone)
	}
	no(t, "Commit", w.s.Commit(), api.OK)
	is(t, w.s, w.g, v, first)
	w.same()
	no(t, "Release", w.s.Release(v), api.OK)
	refusesAll(t, w.g, v, api.ErrNone)
}

// corrupt tells which looks tell ErrCorrupt, and asks that no other one does, and that they tell nothing else.
func corrupt(t *testing.T, g *graph.Graph) string {
	t.Helper()
	all := ""
	see := func(what string, e api.Errno, told bool) {
		t.Helper()
		if e == api.ErrCorrupt {
			all += what
		}
		if e != api.OK && (e != api.ErrCorrupt || told) {
			t.Error(what, int(e), told)
		}
	}
	n, there, e := g.Node(0, 1)
	see("n", e, there || tellNode(n) != tellNode(api.Node{}))
	x, there, e := g.Edge(0, 1)
	see("e", e, there || tellEdge(x) != tellEdge(api.Edge{}))
	l, e := g.Out(0, 1)
	see("o", e, len(l) > 0)
	l, e = g.In(0, 1)
	see("i", e, len(l) > 0)
	l, e = g.ByLabel(0, "A")
	see("l", e, len(l) > 0)
	l, there, e = g.ByProp(0, "A", "k", one)
	see("p", e, there || len(l) > 0)
	a, e := g.All(0)
	see("a", e, len(a.Nodes)+len(a.Edges) > 0)
	r, e := g.Rules(0)
	see("u", e, len(r) > 0)
	return all
}

// lay puts something into a named tree that no change would.
func lay(t *testing.T, w *web, name, key, val string) {
	t.Helper()
	no(t, "Put", w.s.Put(name, []byte(key), []byte(val)), api.OK)
}

func small(t *testing.T) *web {
	w := begun(t)
	w.index("A", "k", true)
	w.node("A", prop("k", one))
	w.node("A", prop("k", two))
	w.edge("T", 1, 2)
	w.edge("T", 2, 1)
	return w
}

func TestRecordsThatAreNone(t *testing.T) {
	node, _ := record.PutNode(api.Node{Id: 1})
	edge, _ := record.PutEdge(api.Edge{Id: 1, Type: "T", From: 1, To: 1})
	ruleKey := slowText("A") + slowText("k")
	edgeKey := slowInt(1) + slowText("T") + slowInt(1)
	for _, c := range []struct{ tree, key, val, want string }{
		{"n", slowInt(1), "", "npa"}, {"n", slowInt(1), string(node) + "\x00", "npa"}, {"n", slowInt(1), string(edge), "npa"}, {"n", slowInt(1), as(4096), "npa"}, {"n", slowInt(2), "", "a"}, {"n", slowInt(9), "\x01", "a"},
		{"n", slowInt(0), string(node), "a"}, {"n", slowInt(-1), string(node), "a"}, {"n", slowInt(9)[:7], string(node), "a"}, {"n", slowInt(9) + "\x00", string(node), "a"}, {"n", "", string(node), "a"},
		{"e", slowInt(1), "", "ea"}, {"e", slowInt(1), string(node), "ea"}, {"e", slowInt(2), "", "a"}, {"e", slowInt(0), string(edge), "a"}, {"e", slowInt(9)[:3], string(edge), "a"}, {"e", slowInt(9) + "\x00", string(edge), "a"},
		{"o", edgeKey + slowInt(9), "x", "o"}, {"o", edgeKey + slowInt(9) + "x", "", "o"}, {"o", edgeKey + slowInt(9)[:7], "", "o"}, {"o", edgeKey, "", "o"}, {"o", edgeKey + slowInt(0), "", "o"}, {"o", slowInt(1), "", "o"}, {"o", slowInt(1) + slowText("T"), "", "o"}, {"o", slowInt(1) + "T", "", "o"}, {"o", slowInt(1) + slowText("") + slowInt(1) + slowInt(9), "", "o"}, {"o", slowInt(1) + slowText("T") + slowInt(0) + slowInt(9), "", "o"}, {"o", slowInt(1) + slowText("T") + slowInt(-1) + slowInt(9), "", "o"}, {"o", slowInt(2), "", ""},
		{"i", edgeKey + slowInt(9), "x", "i"}, {"i", slowInt(1) + "\x00", "", "i"}, {"i", edgeKey + slowInt(minInt), "", "i"}, {"i", slowInt(1) + slowText("1") + slowInt(1) + slowInt(9), "", "i"}, {"i", slowInt(0), "", ""},
		{"l", slowText("A"), "", "l"}, {"l", slowText("A") + "x", "", "l"}, {"l", slowText("A") + slowInt(0), "", "l"}, {"l", slowText("A") + slowInt(1), "x", "l"}, {"l", slowText("A") + slowInt(1) + "x", "", "l"}, {"l", slowText("B"), "x", ""},
		{"u", ruleKey, "", "pu"}, {"u", ruleKey, "\x02", "pu"}, {"u", ruleKey, "\x00\x00", "pu"}, {"u", ruleKey + "x", "\x00", "u"}, {"u", slowText("A"), "\x00", "u"}, {"u", slowText("A") + slowText("1"), "\x00", "u"}, {"u", slowText("") + slowText("k"), "\x00", "u"}, {"u", "A", "\x00", "u"}, {"u", "", "\x00", "u"}, {"u", slowText("A") + "k", "\x00", "u"},
		{"p", ruleKey + string(keys.Put(nil, one)) + slowInt(3), "", "p"}, {"p", ruleKey + string(keys.Put(nil, one)) + slowInt(0), "", "p"}, {"p", ruleKey + string(keys.Put(nil, one)), "", "p"}, {"p", ruleKey + string(keys.Put(nil, one)) + "x", "", "p"}, {"p", ruleKey + string(keys.Put(nil, one)) + slowInt(1), "x", "p"}, {"p", ruleKey + string(keys.Put(nil, two)) + slowInt(3), "", ""},
		{"x", "a", "b", ""},
	} {
		w := small(t)
		if got := corrupt(t, w.g); got != "" {
			t.Fatal(got)
		}
		lay(t, w, c.tree, c.key, c.val)
		if got := corrupt(t, w.g); got != c.want {
			t.Errorf("behind %q %q to %q: ErrCorrupt of %q, not %q", c.tree, c.key, c.val, got, c.want)
		}
	}
}
