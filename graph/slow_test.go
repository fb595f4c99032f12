package graph_test

import (
	"encoding/binary"
	"fmt"
	"maps"
	"math"
	"math/rand"
	"slices"
	"strings"
	"testing"

	"cobweb/api"
	"cobweb/graph"
	"cobweb/keys"
	"cobweb/record"
	"cobweb/sector"
	"cobweb/tree"
	"cobweb/txn"
	"cobweb/value"
)

// What the chapter says, once more, as slowly as it is said there.

// slow is what a graph must be.
type slow struct {
	nodes map[int]api.Node
	edges map[int]api.Edge
	rules map[[2]string]bool // of a label and a property: is it unique?
}

func none() slow {
	return slow{map[int]api.Node{}, map[int]api.Edge{}, map[[2]string]bool{}}
}

func (m slow) copied() slow {
	return slow{maps.Clone(m.nodes), maps.Clone(m.edges), maps.Clone(m.rules)}
}

func labelled(n api.Node, label string) bool { return slices.Contains(n.Labels, label) }

// like tells a label's nodes whose value of a property is like one.
func (m slow) like(label, name string, v api.Value) []int {
	var l []int
	for _, id := range slices.Sorted(maps.Keys(m.nodes)) {
		its, there := record.Get(m.nodes[id].Props, name)
		if labelled(m.nodes[id], label) && there && value.Compare(its, v) == 0 {
			l = append(l, id)
		}
	}
	return l
}

// clashes tells whether an index is unique, and another node than this one has its value.
func (m slow) clashes(n api.Node) bool {
	for r, unique := range m.rules {
		v, there := record.Get(n.Props, r[1])
		if !unique || !there || !labelled(n, r[0]) {
			continue
		}
		for _, id := range m.like(r[0], r[1], v) {
			if id != n.Id {
				return true
			}
		}
	}
	return false
}

// with tells the graph with a node, where nothing refuses that.
func (m slow) with(n api.Node) (slow, api.Errno) {
	if _, e := record.PutNode(n); e != api.OK {
		return m, e
	}
	if m.clashes(n) {
		return m, api.ErrUnique
	}
	c := m.copied()
	c.nodes[n.Id] = n
	return c, api.OK
}

func (m slow) withEdge(x api.Edge) (slow, api.Errno) {
	if _, e := record.PutEdge(x); e != api.OK {
		return m, e
	}
	c := m.copied()
	c.edges[x.Id] = x
	return c, api.OK
}

func (m slow) addNode(o api.Op, id int) (slow, api.Errno) {
	l := slices.Clone(o.Labels)
	slices.Sort(l)
	return m.with(api.Node{Id: id, Labels: slices.Compact(l), Props: o.Props})
}

func (m slow) addEdge(o api.Op, id int) (slow, api.Errno) {
	_, from := m.nodes[o.Id]
	_, to := m.nodes[o.To]
	if !from || !to {
		return m, api.ErrNone
	}
	return m.withEdge(api.Edge{Id: id, Type: o.Name, From: o.Id, To: o.To, Props: o.Props})
}

// delNode, delEdge, setNode, setEdge and label are told of what is there.
func (m slow) delNode(o api.Op) (slow, api.Errno) {
	c := m.copied()
	delete(c.nodes, o.Id)
	for id, x := range m.edges {
		if x.From == o.Id || x.To == o.Id {
			delete(c.edges, id)
		}
	}
	if len(c.edges) < len(m.edges) && !o.Flag {
		return m, api.ErrHeld
	}
	return c, api.OK
}

func (m slow) delEdge(o api.Op) (slow, api.Errno) {
	c := m.copied()
	delete(c.edges, o.Id)
	return c, api.OK
}

func (m slow) setNode(o api.Op) (slow, api.Errno) {
	n := m.nodes[o.Id]
	l, e := record.Set(n.Props, o.Name, o.V)
	if e != api.OK {
		return m, e
	}
	n.Props = l
	return m.with(n)
}

func (m slow) setEdge(o api.Op) (slow, api.Errno) {
	x := m.edges[o.Id]
	l, e := record.Set(x.Props, o.Name, o.V)
	if e != api.OK {
		return m, e
	}
	x.Props = l
	return m.withEdge(x)
}

func (m slow) label(o api.Op) (slow, api.Errno) {
	if !record.Name(o.Name) {
		return m, api.ErrArg
	}
	n := m.nodes[o.Id]
	l := slices.DeleteFunc(slices.Clone(n.Labels), func(s string) bool { return s == o.Name })
	if o.Flag {
		l = append(l, o.Name)
		slices.Sort(l)
	}
	if len(l) > 8 {
		return m, api.ErrFull
	}
	n.Labels = l
	return m.with(n)
}

func (m slow) index(o api.Op) (slow, api.Errno) {
	if len(o.Labels) != 1 || !record.Name(o.Labels[0]) || !record.Name(o.Name) {
		return m, api.ErrArg
	}
	r := [2]string{o.Labels[0], o.Name}
	if _, there := m.rules[r]; there {
		return m, api.ErrThere
	}
	c := m.copied()
	c.rules[r] = o.Flag
	for _, n := range m.nodes {
		if c.clashes(n) && o.Flag {
			return m, api.ErrUnique
		}
	}
	return c, api.OK
}

// do tells the graph behind a change, what is told, and the next numbers.
func (m slow) do(o api.Op, numbers [2]int) (slow, int, [2]int, api.Errno) {
	which := -1
	next, e := m, api.ErrNone
	_, isNode := m.nodes[o.Id]
	_, isEdge := m.edges[o.Id]
	switch {
	case o.Kind < 1 || o.Kind > 8:
		e = api.ErrArg
	case o.Kind == api.AddNode:
		which = 0
		next, e = m.addNode(o, numbers[0])
	case o.Kind == api.AddEdge:
		which = 1
		next, e = m.addEdge(o, numbers[1])
	case o.Kind == api.Index:
		next, e = m.index(o)
	case o.Kind == api.DelNode && isNode:
		next, e = m.delNode(o)
	case o.Kind == api.DelEdge && isEdge:
		next, e = m.delEdge(o)
	case o.Kind == api.SetNode && isNode:
		next, e = m.setNode(o)
	case o.Kind == api.SetEdge && isEdge:
		next, e = m.setEdge(o)
	case o.Kind == api.Label && isNode:
		next, e = m.label(o)
	}
	if e != api.OK || which < 0 {
		return next, 0, numbers, e
	}
	told := numbers[which]
	numbers[which]++
	return next, told, numbers, e
}

func slowInt(n int) string { return string(binary.BigEndian.AppendUint64(nil, uint64(n)+1<<63)) }

func slowText(s string) string { return strings.ReplaceAll(s, "\x00", "\x00\xff") + "\x00\x01" }

// trees tells all that the named trees must have.
func (m slow) trees() map[string]map[string]string {
	all := map[string]map[string]string{}
	for _, name := range []string{"n", "e", "o", "i", "l", "u", "p"} {
		all[name] = map[string]string{}
	}
	for id, n := range m.nodes {
		b, _ := record.PutNode(n)
		all["n"][slowInt(id)] = string(b)
		for _, s := range n.Labels {
			all["l"][slowText(s)+slowInt(id)] = ""
		}
		for r := range m.rules {
			v, there := record.Get(n.Props, r[1])
			if there && labelled(n, r[0]) {
				b := keys.Put(nil, v)
				all["p"][slowText(r[0])+slowText(r[1])+string(b[:min(len(b), 24)])+slowInt(id)] = ""
			}
		}
	}
	for id, x := range m.edges {
		b, _ := record.PutEdge(x)
		all["e"][slowInt(id)] = string(b)
		all["o"][slowInt(x.From)+slowText(x.Type)+slowInt(x.To)+slowInt(id)] = ""
		all["i"][slowInt(x.To)+slowText(x.Type)+slowInt(x.From)+slowInt(id)] = ""
	}
	for r, unique := range m.rules {
		all["u"][slowText(r[0])+slowText(r[1])] = map[bool]string{false: "\x00", true: "\x01"}[unique]
	}
	return all
}

// short tells the beginning of what a thing is.
func short(x any) string {
	s := fmt.Sprintf("%+q", fmt.Sprint(x))
	return s[:min(len(s), 400)]
}

// tell tells a thing so that others are told otherwise.
func tell(x any) string { return fmt.Sprintf("%#v", x) }

func tellNode(n api.Node) string {
	var l []string
	for _, p := range n.Props {
		l = append(l, p.Name+"="+value.Print(p.V))
	}
	return fmt.Sprintf("%d %q %q", n.Id, n.Labels, l)
}

func tellEdge(x api.Edge) string {
	return fmt.Sprint(x.Type, x.From, x.To, tellNode(api.Node{Id: x.Id, Props: x.Props}))
}

func (m slow) out(id int) (l []int) {
	for k, x := range m.edges {
		if x.From == id {
			l = append(l, k)
		}
	}
	slices.Sort(l)
	return l
}

func (m slow) in(id int) (l []int) {
	for k, x := range m.edges {
		if x.To == id {
			l = append(l, k)
		}
	}
	slices.Sort(l)
	return l
}

func (m slow) byLabel(label string) (l []int) {
	for k, n := range m.nodes {
		if labelled(n, label) {
			l = append(l, k)
		}
	}
	slices.Sort(l)
	return l
}

// treesAre holds what a view's trees have against what they must have.
func treesAre(t *testing.T, s *txn.Store, view int, want map[string]map[string]string) {
	t.Helper()
	for name, m := range want {
		l, e := s.Scan(view, name, nil, nil, math.MaxInt)
		no(t, "Scan", e, api.OK)
		is := slices.EqualFunc(l, slices.Sorted(maps.Keys(m)), func(p tree.Pair, k string) bool {
			return string(p.Key) == k && string(p.Val) == m[k]
		})
		if !is {
			t.Errorf("tree %s: %s, not %s", name, short(l), short(m))
		}
	}
}

// numbersAre holds numbers that are told against what must be told.
func numbersAre(t *testing.T, what string, got []int, e api.Errno, want []int) {
	t.Helper()
	if e != api.OK || !slices.Equal(got, want) {
		t.Errorf("%s = %s, %d, not %s", what, short(got), int(e), short(want))
	}
}

// is holds all that a view tells against what it must be.
func is(t *testing.T, s *txn.Store, g *graph.Graph, view int, m slow) {
	t.Helper()
	treesAre(t, s, view, m.trees())
	all, e := g.All(view)
	no(t, "All", e, api.OK)
	byId := slices.Sorted(maps.Keys(m.nodes))
	if !slices.EqualFunc(all.Nodes, byId, func(n api.Node, id int) bool { return tellNode(n) == tellNode(m.nodes[id]) }) {
		t.Errorf("All tells nodes %s, not %s", short(all.Nodes), short(m.nodes))
	}
	byId = slices.Sorted(maps.Keys(m.edges))
	if !slices.EqualFunc(all.Edges, byId, func(x api.Edge, id int) bool { return tellEdge(x) == tellEdge(m.edges[id]) }) {
		t.Errorf("All tells edges %s, not %s", short(all.Edges), short(m.edges))
	}
	var rules []api.Rule
	for r, unique := range m.rules {
		rules = append(rules, api.Rule{Label: r[0], Name: r[1], Unique: unique})
	}
	slices.SortFunc(rules, func(a, b api.Rule) int {
		return strings.Compare(a.Label+" "+a.Name, b.Label+" "+b.Name)
	})
	if l, e := g.Rules(view); e != api.OK || !slices.Equal(l, rules) {
		t.Errorf("Rules = %v, %d, not %v", l, int(e), rules)
	}
	near := map[int]bool{-1: true, 0: true, 1: true}
	for _, id := range append(slices.Collect(maps.Keys(m.nodes)), byId...) {
		near[id], near[id+1], near[id+2] = true, true, true
	}
	for id := range near {
		asked(t, g, view, id, m)
	}
	for _, label := range someLabels {
		l, e := g.ByLabel(view, label)
		numbersAre(t, "ByLabel "+label, l, e, m.byLabel(label))
	}
}

// asked holds what is told of a number against what must be told.
func asked(t *testing.T, g *graph.Graph, view, id int, m slow) {
	t.Helper()
	n, there, e := g.Node(view, id)
	want, is := m.nodes[id]
	if tellNode(n) != tellNode(want) || there != is || e != api.OK {
		t.Errorf("Node %d = %s, %v, %d, not %s", id, short(n), there, int(e), short(want))
	}
	x, there, e := g.Edge(view, id)
	wantEdge, is := m.edges[id]
	if tellEdge(x) != tellEdge(wantEdge) || there != is || e != api.OK {
		t.Errorf("Edge %d = %s, %v, %d, not %s", id, short(x), there, int(e), short(wantEdge))
	}
	l, e := g.Out(view, id)
	numbersAre(t, fmt.Sprint("Out ", id), l, e, m.out(id))
	l, e = g.In(view, id)
	numbersAre(t, fmt.Sprint("In ", id), l, e, m.in(id))
}

// byPropIs asks an index for a value, or for one that is not there.
func byPropIs(t *testing.T, g *graph.Graph, view int, label, name string, v api.Value, m slow) {
	t.Helper()
	var want []int
	_, is := m.rules[[2]string{label, name}]
	if is {
		want = m.like(label, name, v)
	}
	l, ok, e := g.ByProp(view, label, name, v)
	numbersAre(t, fmt.Sprintf("ByProp %s.%s %s", label, name, short(v)), l, e, want)
	if ok != is {
		t.Errorf("ByProp %s.%s = %v, not %v", label, name, ok, is)
	}
}

// By chance.

var (
	someLabels = []string{"A", "AB", "B", "C", "_", "Z9", as(16), "", "1", as(17), as(300)}
	someNames  = []string{"k", "kk", "l", "m", "", "k ", as(17)}
)

func some() []api.Value {
	real, text, long := value.OfReal, value.OfText, strings.Repeat("x", 40)
	bytes := func(s string) api.Value { return api.Value{Atom: api.Atom{Kind: api.Bytes, S: s}} }
	list := func(l ...api.Atom) api.Value { return api.Value{Atom: api.Atom{Kind: api.List}, L: l} }
	two, yes := value.OfInt(2).Atom, value.OfBool(true).Atom
	return []api.Value{
		value.OfInt(2), value.OfInt(-3), real(2), real(math.NaN()), real(math.Inf(1)), real(0), value.OfInt(0), value.OfBool(true), value.OfBool(false),
		text(""), text("\x00"), text("ab"), text(as(20)), text(as(21)), text(as(22)), text(as(23)), text(as(24)), text(as(25)), text(long + "a"), text(long + "b"), text(long + "\x00"), bytes(long + "a"), text(as(256)), bytes("ab"),
		list(), list(two), list(two, two), list(two, two, two), list(two, two, two, yes), list(api.Atom{}), list(text(long).Atom, two), list(text(long).Atom, yes),
		value.OfInt(1<<53 + 1), value.OfInt(1 << 53), real(1 << 53),
	}
}

// someProps tells properties, mostly right ones.
func someProps(r *rand.Rand) []api.Prop {
	var l []api.Prop
	for _, name := range []string{"k", "kk", "l", "m"} {
		if r.Intn(2) == 0 {
			l = append(l, api.Prop{Name: name, V: pick(r, some()...)})
		}
	}
	switch r.Intn(25) {
	case 0:
		l = append(l, api.Prop{Name: pick(r, "a", "k", "z", "1"), V: pick(r, some()...)})
	case 1:
		l = append(l, api.Prop{Name: "z", V: pick(r, api.Value{}, value.OfInt(1), api.Value{Atom: api.Atom{Kind: 9}})})
	case 2:
		l = nil
		for i := range pick(r, 8, 15, 15, 16) {
			l = append(l, api.Prop{Name: fmt.Sprint("z", 10+i), V: value.OfText(as(256))})
		}
	}
	return l
}

func pick[T any](r *rand.Rand, l ...T) T { return l[r.Intn(len(l))] }

// someLabel tells one that nodes have, mostly.
func someLabel(r *rand.Rand) string {
	if r.Intn(25) == 0 {
		return pick(r, someLabels...)
	}
	return pick(r, "A", "AB", "B", "C")
}

func someName(r *rand.Rand) string {
	if r.Intn(25) == 0 {
		return pick(r, someNames...)
	}
	return pick(r, "k", "kk", "l", "m")
}

func someOp(r *rand.Rand, m slow) api.Op {
	ids := append(slices.Sorted(maps.Keys(m.nodes)), slices.Sorted(maps.Keys(m.edges))...)
	id := func() int {
		if len(ids) == 0 || r.Intn(20) == 0 {
			return pick(r, 0, 1, -1, 99, math.MaxInt, math.MinInt)
		}
		return pick(r, ids...)
	}
	o := api.Op{Kind: pick(r, 1, 1, 1, 1, 2, 2, 2, 2, 2, 3, 4, 5, 5, 5, 5, 5, 6, 7, 7, 7, 7, 8, 8, r.Intn(12)-1), Id: id(), To: id(), Name: someName(r), Props: someProps(r), Flag: r.Intn(2) == 0}
	switch o.Kind {
	case api.AddNode:
		for range r.Intn(5) {
			o.Labels = append(o.Labels, someLabel(r))
		}
		if r.Intn(30) == 0 {
			o.Labels = append(o.Labels, "F", "H", "G", "F", "J", "I")
		}
	case api.AddEdge, api.Label:
		o.Name = someLabel(r)
	case api.SetNode, api.SetEdge:
		o.V = pick(r, append(some(), api.Value{}, api.Value{}, api.Value{}, api.Value{Atom: api.Atom{Kind: 7}})...)
	case api.Index:
		o.Labels = slices.Repeat([]string{someLabel(r)}, pick(r, 1, 1, 1, 1, 1, 1, 0, 2))
		o.Flag = r.Intn(3) > 0
	}
	return o
}

// run is a graph, its store and disk, and what it must be.
type run struct {
	t       *testing.T
	r       *rand.Rand
	d       *sector.Disk
	s       *txn.Store
	g       *graph.Graph
	last    slow // what is committed
	lasts   [2]int
	now     slow // what the transaction has
	numbers [2]int
	places  []place
	pins    map[int]slow
	counts  map[api.Errno]int
	tight   bool
}

// place is one to go back to, and what was there.
type place struct {
	place int
	what  slow
}

func begins(t *testing.T, r *rand.Rand, pages int) *run {
	d, s := create(t, pages)
	return &run{t: t, r: r, d: d, s: s, g: graph.New(s), last: none(), lasts: [2]int{1, 1}, pins: map[int]slow{}, counts: map[api.Errno]int{}, tight: pages < 1000}
}

func (u *run) begin() {
	u.t.Helper()
	no(u.t, "Begin", u.s.Begin(), api.OK)
	u.now, u.numbers, u.places = u.last, u.lasts, nil
}

func (u *run) commit() {
	u.t.Helper()
	no(u.t, "Commit", u.s.Commit(), api.OK)
	u.last, u.lasts = u.now, u.numbers
}

func (u *run) abort() {
	u.t.Helper()
	no(u.t, "Abort", u.s.Abort(), api.OK)
}

// do does a change, and tells whether the transaction goes on.
func (u *run) do() bool {
	u.t.Helper()
	o := someOp(u.r, u.now)
	next, told, numbers, want := u.now.do(o, u.numbers)
	id, e := u.g.Do(o)
	u.counts[e]++
	if want == api.OK && e == api.ErrFull && u.tight {
		if id != 0 {
			u.t.Error(id)
		}
		no(u.t, "Do behind what broke", done(u.g.Do(o)), api.ErrState)
		u.abort()
		return false
	}
	if id != told || e != want {
		u.t.Errorf("Do %s = %d, %d, not %d, %d", short(o), id, int(e), told, int(want))
	}
	u.now, u.numbers = next, numbers
	return true
}

func done(_ int, e api.Errno) api.Errno { return e }

func (u *run) saveOrBack() {
	u.t.Helper()
	if len(u.places) == 0 || u.r.Intn(2) == 0 {
		k, e := u.s.Save()
		no(u.t, "Save", e, api.OK)
		u.places = append(u.places, place{k, u.now})
		return
	}
	i := u.r.Intn(len(u.places))
	if e := u.s.Back(u.places[i].place); e == api.ErrFull && u.tight {
		u.abort()
		u.begin()
		return
	} else {
		no(u.t, "Back", e, api.OK)
	}
	u.now, u.places = u.places[i].what, u.places[:i]
}

// pinOrRelease lets not too many states be kept.
func (u *run) pinOrRelease() {
	u.t.Helper()
	if len(u.pins) < 2 {
		v, e := u.s.Pin()
		no(u.t, "Pin", e, api.OK)
		if _, there := u.pins[v]; there {
			no(u.t, "Release", u.s.Release(v), api.OK)
		}
		u.pins[v] = u.last
		return
	}
	v := slices.Sorted(maps.Keys(u.pins))[u.r.Intn(2)]
	no(u.t, "Release", u.s.Release(v), api.OK)
	delete(u.pins, v)
}

func (u *run) reopen() {
	u.t.Helper()
	u.d = crash(u.t, u.d)
	u.s = open(u.t, u.d)
	u.g = graph.New(u.s)
	u.pins = map[int]slow{}
}

// told holds all that is seen against what it must be.
func (u *run) told(now slow) {
	u.t.Helper()
	is(u.t, u.s, u.g, 0, now)
	for v, m := range u.pins {
		is(u.t, u.s, u.g, v, m)
	}
	for range 8 {
		byPropIs(u.t, u.g, 0, someLabel(u.r), someName(u.r), pick(u.r, some()...), now)
	}
	byPropIs(u.t, u.g, 0, someLabel(u.r), someName(u.r), pick(u.r, api.Value{}, api.Value{Atom: api.Atom{Kind: 7}}), now)
}

// transaction does some changes, and ends.
func (u *run) transaction() {
	u.t.Helper()
	u.begin()
	for n := range u.r.Intn(40) {
		if !u.do() {
			return
		}
		switch u.r.Intn(12) {
		case 0:
			u.saveOrBack()
		case 1:
			u.pinOrRelease()
		}
		if n%7 == 0 {
			u.told(u.now)
		}
	}
	u.told(u.now)
	switch u.r.Intn(4) {
	case 0:
		u.abort()
	case 1:
		u.reopen()
	default:
		u.commit()
	}
}

// P16.1 to P16.3, by chance.
func TestAgainstSlow(t *testing.T) {
	counts := map[api.Errno]int{}
	for i, pages := range []int{40, 60, 90, 300, 1000, 1000, 2000, 2000} {
		u := begins(t, rand.New(rand.NewSource(int64(i))), pages)
		for n := range 30 {
			u.transaction()
			u.told(u.last)
			if t.Failed() {
				t.Fatal("pages", pages, "transaction", n)
			}
		}
		for e, n := range u.counts {
			counts[e] += n
		}
	}
	for _, e := range []api.Errno{api.OK, api.ErrArg, api.ErrBig, api.ErrNone, api.ErrThere, api.ErrFull, api.ErrHeld, api.ErrUnique} {
		if counts[e] < 10 {
			t.Errorf("error %d came %d times", int(e), counts[e])
		}
	}
}
