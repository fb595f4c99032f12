package audit_test

import (
	"fmt"
	"slices"
	"strings"
	"testing"

	"cobweb/api"
	"cobweb/audit"
	"cobweb/keys"
	"cobweb/record"
	"cobweb/tree"
	"cobweb/value"
)

// tells asks Check, and holds against what must be told; 0: all is as it must be.
func tells(t *testing.T, d audit.Dump, want int) {
	t.Helper()
	which, e := audit.Check(d)
	must := api.OK
	if want != 0 {
		must = api.ErrCorrupt
	}
	if which != want || e != must {
		t.Errorf("Check of %s = %d, error %d, not %d, error %d", short(d), which, int(e), want, int(must))
	}
	if slow := slowCheck(d); slow != want {
		t.Errorf("the test is wrong: %s is %d, not %d", short(d), slow, want)
	}
}

// whole tells a graph with something in each tree.
func whole() web {
	return web{
		nodes: []api.Node{node(1, "A B", prop("k", one), prop("l", text("x"))), node(2, "A", prop("k", two)), node(4, "B", prop("k", one)), node(7, "")},
		edges: []api.Edge{edge(1, "T", 1, 2), edge(2, "S", 2, 1, prop("k", one)), edge(3, "T", 4, 4), edge(5, "U", 1, 4), edge(6, "S", 1, 2)},
		rules: map[[2]string]bool{{"A", "k"}: true, {"A", "l"}: false, {"B", "k"}: false},
	}
}

// The numbers are those that the document tells.
func TestNumbers(t *testing.T) {
	got := [7]int{audit.Nodes, audit.Edges, audit.Rules, audit.Outs, audit.Ins, audit.Labels, audit.Props}
	if want := [7]int{1, 2, 3, 4, 5, 6, 7}; got != want {
		t.Error(got)
	}
}

// P17.2

func TestExample(t *testing.T) {
	w := web{nodes: []api.Node{node(1, "A")}}
	d := w.dump()
	tells(t, d, 0)
	d.L = nil
	tells(t, d, audit.Labels)
}

func TestNothing(t *testing.T) {
	tells(t, audit.Dump{}, 0)
	none := []tree.Pair{}
	tells(t, audit.Dump{N: none, E: none, O: none, I: none, L: none, P: none, U: none}, 0)
	for i := range names {
		var d audit.Dump
		*lists(&d)[i] = []tree.Pair{{}}
		tells(t, d, i+1)
		*lists(&d)[i] = []tree.Pair{pair("", "")}
		tells(t, d, i+1)
	}
}

func TestRight(t *testing.T) {
	var nodes []api.Node
	for i, v := range some() {
		nodes = append(nodes, node(i*i+1, "A B C", prop("k", v), prop("l", v)), node(i*i+5000, "B", prop("k", v)))
	}
	slices.SortFunc(nodes, func(a, b api.Node) int { return a.Id - b.Id })
	var great []api.Prop
	for i := range 16 {
		great = append(great, prop(fmt.Sprint("p", strings.Repeat("x", 13), 10+i), blob(200)))
	}
	labels := "L1 L2 L3 L4 L5 L6 L7 Z" + strings.Repeat("x", 15)
	greatRules := map[[2]string]bool{}
	for _, label := range strings.Fields(labels) {
		for _, p := range great {
			greatRules[[2]string{label, p.Name}] = true
		}
	}
	ab := map[[2]string]bool{{"A", "k"}: true, {"A", "l"}: true, {"B", "k"}: false, {"B", "l"}: true, {"C", "m"}: true, {"Z", "k"}: true}
	for i, w := range []web{
		whole(),
		{nodes: nodes}, {nodes: nodes, rules: ab},
		{rules: map[[2]string]bool{{as(16), as(16)}: true, {as(16), "a"}: false, {"a", as(16)}: true, {"_", "_9"}: true}},
		{nodes: []api.Node{node(maxInt, "A")}}, {nodes: []api.Node{node(1, "A"), node(1<<60, "A"), node(maxInt, "A")}},
		{nodes: []api.Node{node(3, ""), node(maxInt, "")}, edges: []api.Edge{edge(1, "T", 3, maxInt), edge(2, "T", maxInt, 3), edge(3, as(16), 3, 3), edge(maxInt, "_", maxInt, maxInt)}},
		{nodes: []api.Node{node(1, labels, great...)}, rules: greatRules},
		{nodes: []api.Node{node(1, "")}, edges: []api.Edge{edge(1, "T", 1, 1, great...)}},
	} {
		d := w.dump()
		if len(d.N) != len(w.nodes) || len(d.E) != len(w.edges) || len(d.U) != len(w.rules) {
			t.Fatal("the test's web is none", i)
		}
		tells(t, d, 0)
	}
}

// putNode and putEdge tell a record as it must be.
func putNode(n api.Node) string {
	b, _ := record.PutNode(n)
	return string(b)
}

func putEdge(x api.Edge) string {
	b, _ := record.PutEdge(x)
	return string(b)
}

// numbered tells pairs that no tree of records may have.
func numbered(val string) [][]tree.Pair {
	at := func(ids ...int) (l []tree.Pair) {
		for _, id := range ids {
			l = append(l, pair(slowInt(id), val))
		}
		return l
	}
	return [][]tree.Pair{
		at(0), at(-1), at(minInt), at(-maxInt), at(0, 1), at(-5, 1), at(minInt, 1), at(1, 1), at(2, 1), at(1, 3, 2), at(1, 2, 2), at(1, 0), at(1, maxInt, 2), at(maxInt, 1), at(1, maxInt, maxInt), at(1, -1), at(1, minInt),
		{pair("", val)}, {pair(slowInt(1)[:7], val)}, {pair(slowInt(1)[1:], val)}, {pair(slowInt(1)+"\x00", val)}, {pair("\x00"+slowInt(1), val)}, {pair(slowInt(1)+slowInt(1), val)}, {pair("1", val)}, {pair("\x00\x00\x00\x00\x00\x00\x00\x01", val)}, {pair("\x01\x00\x00\x00\x00\x00\x00\x80", val)},
		append(at(1), pair(slowInt(2)[:7], val)), append(at(1), pair(slowInt(2)+"\x00", val)), append([]tree.Pair{pair("", val)}, at(1)...),
		{pair(slowInt(1), "")}, {pair(slowInt(1), val+"\x00")}, {pair(slowInt(1), val[:len(val)-1])}, {pair(slowInt(1), "-"+val)}, {{Key: []byte(slowInt(1))}}, {pair(slowInt(1), val+val)}, {pair(slowInt(1), as(5000))},
		append(at(1), pair(slowInt(2), "")), append(at(1), pair(slowInt(2), val+"x")), {pair(slowInt(1), ""), pair(slowInt(2), val)},
	}
}

// labelled tells the bytes of a node of the labels, right or not.
func labelled(labels ...string) string {
	s := string([]byte{byte(len(labels))})
	for _, l := range labels {
		s += slowText(l)
	}
	return s + "\x00"
}

func TestNodes(t *testing.T) {
	for _, l := range numbered(putNode(node(1, ""))) {
		tells(t, audit.Dump{N: l}, audit.Nodes)
	}
	for _, val := range []string{
		labelled("B", "A"), labelled("A", "A"), labelled(""), labelled("1"), labelled(as(17)), labelled("A", "a\x00"), labelled("A", "B", "C", "D", "E", "F", "G", "H", "I"),
		"\x00\x01" + slowText("k"), "\x00\x01" + slowText("k") + "\x05", "\x00\x01" + slowText("") + "\x10", "\x00\x01" + slowText("k") + "\x12", "\x00\x02" + slowText("k") + "\x10" + slowText("k") + "\x10", "\x00\x02" + slowText("l") + "\x10" + slowText("k") + "\x10",
		putEdge(edge(1, "T", 1, 1)),
	} {
		n := pair(slowInt(1), val)
		if _, e := record.ReadNode(n.Val, 1); e == api.OK {
			t.Errorf("the test is wrong: %q", val)
		}
		// Trees that are as if there were such a node, or none, help nothing.
		tells(t, audit.Dump{N: []tree.Pair{n}}, audit.Nodes)
		tells(t, audit.Dump{N: []tree.Pair{n}, L: []tree.Pair{pair(slowText("A")+slowInt(1), "")}}, audit.Nodes)
		tells(t, audit.Dump{N: []tree.Pair{n, pair(slowInt(2), putNode(node(2, "")))}}, audit.Nodes)
		tells(t, audit.Dump{N: []tree.Pair{pair(slowInt(0), putNode(node(2, ""))), n}}, audit.Nodes)
	}
}

func TestEdges(t *testing.T) {
	nodes := web{nodes: []api.Node{node(1, ""), node(3, "A")}}.dump()
	with := func(l ...tree.Pair) audit.Dump {
		return audit.Dump{N: nodes.N, L: nodes.L, E: l}
	}
	for _, l := range numbered(putEdge(edge(1, "T", 1, 3))) {
		tells(t, with(l...), audit.Edges)
	}
	ends := slowInt(1) + slowInt(1)
	for _, val := range []string{
		slowText("") + ends + "\x00", slowText("1") + ends + "\x00", slowText(as(17)) + ends + "\x00", slowText("T") + slowInt(1) + "\x00", slowText("T") + ends, slowText("T") + ends + "\x01" + slowText("k") + "\x05", slowText("T") + ends + "\x02" + slowText("k") + "\x10" + slowText("j") + "\x10",
		slowText("T") + slowInt(0) + slowInt(1) + "\x00", slowText("T") + slowInt(1) + slowInt(0) + "\x00", slowText("T") + slowInt(-1) + slowInt(1) + "\x00", "T" + ends + "\x00", "x", putNode(node(1, "T")),
	} {
		tells(t, with(pair(slowInt(1), val)), audit.Edges)
	}
	for _, l := range [][2]int{{1, 2}, {2, 1}, {2, 2}, {1, 4}, {4, 1}, {3, 4}, {4, 3}, {1, maxInt}, {maxInt, 3}, {1 << 32, 1}, {1, 1<<32 + 1}} {
		d := web{nodes: []api.Node{node(1, ""), node(3, "A")}, edges: []api.Edge{edge(1, "T", 1, 3), edge(2, "T", l[0], l[1]), edge(5, "T", 3, 1)}}.dump()
		tells(t, d, audit.Edges)
	}
	for _, l := range [][2]int{{1, 1}, {1, 3}, {3, 1}, {3, 3}} {
		d := web{nodes: []api.Node{node(1, ""), node(3, "A")}, edges: []api.Edge{edge(2, "T", l[0], l[1])}}.dump()
		tells(t, d, 0)
		for i := range d.N { // the one that it joins, or another one, goes
			e := d
			e.N = slices.Delete(slices.Clone(d.N), i, i+1)
			if gone := 1 + 2*i; gone == l[0] || gone == l[1] {
				tells(t, e, audit.Edges)
			} else if i == 1 {
				tells(t, e, audit.Labels)
			} else {
				tells(t, e, 0)
			}
		}
	}
}

func TestRules(t *testing.T) {
	a, b, c := slowText("A")+slowText("k"), slowText("A")+slowText("l"), slowText("B")+slowText("a")
	for _, l := range [][]tree.Pair{
		{pair(a, "")}, {{Key: []byte(a)}}, {pair(a, "\x02")}, {pair(a, "\xff")}, {pair(a, "0")}, {pair(a, "1")}, {pair(a, "\x00\x00")}, {pair(a, "\x01\x00")}, {pair(a, "\x00\x01")}, {pair(a, "\x01\x01")}, {pair(a, as(300))},
		{pair("", "\x00")}, {pair("A", "\x00")}, {pair(slowText("A"), "\x00")}, {pair(slowText("A")+"k", "\x00")}, {pair(slowText("A")+"k\x00", "\x00")}, {pair(a+"x", "\x00")}, {pair(a+"\x00", "\x00")}, {pair(a+slowText("m"), "\x00")}, {pair("x"+slowText("")+slowText("k"), "\x00"), pair(a, "\x00")},
		{pair(slowText("")+slowText("k"), "\x00")}, {pair(slowText("A")+slowText(""), "\x01")}, {pair(slowText("")+slowText(""), "\x00")}, {pair(slowText("1")+slowText("k"), "\x00")}, {pair(slowText("A")+slowText("1"), "\x00")}, {pair(slowText(as(17))+slowText("k"), "\x00")}, {pair(slowText("A")+slowText(as(17)), "\x00")}, {pair(slowText("A\x00")+slowText("k"), "\x00")}, {pair(slowText("A")+slowText("k\x00"), "\x00")}, {pair(slowText("A-")+slowText("k"), "\x00")}, {pair("A\x00\x02"+slowText("k"), "\x00")}, {pair(slowText("A")+"k\x00\x02", "\x00")},
		{pair(b, "\x00"), pair(a, "\x00")}, {pair(a, "\x00"), pair(a, "\x00")}, {pair(a, "\x00"), pair(a, "\x01")}, {pair(a, "\x01"), pair(a, "\x00")}, {pair(a, "\x00"), pair(c, "\x00"), pair(b, "\x00")}, {pair(c, "\x00"), pair(b, "\x00")}, {pair(a, "\x01"), pair(b, "\x00"), pair(b, "\x00")}, {pair(a, "\x00"), pair(b, "\x02")}, {pair(a, "\x02"), pair(b, "\x00")},
	} {
		tells(t, audit.Dump{U: l}, audit.Rules)
	}
	for _, l := range [][]tree.Pair{{pair(a, "\x00")}, {pair(a, "\x01")}, {pair(a, "\x00"), pair(b, "\x01")}, {pair(a, "\x01"), pair(b, "\x00"), pair(c, "\x01")}, {pair(a, "\x01"), pair(c, "\x01")}} {
		tells(t, audit.Dump{U: l}, 0)
	}
}

// Twins are told of a unique index alone, of its label and its property, and whatever part of a value a key has.
func TestUnique(t *testing.T) {
	unique := map[[2]string]bool{{"A", "k"}: true}
	for _, v := range some() {
		for _, c := range []struct {
			rules map[[2]string]bool
			twin  api.Node
			want  int
		}{
			{unique, node(9, "A", prop("k", v)), audit.Rules},
			{unique, node(9, "A B C", prop("a", one), prop("k", v), prop("z", one)), audit.Rules},
			{map[[2]string]bool{{"B", "k"}: true}, node(9, "A B", prop("k", v)), audit.Rules},
			{map[[2]string]bool{{"A", "k"}: false, {"A", "l"}: true, {"B", "k"}: true}, node(9, "A B", prop("k", v)), audit.Rules},
			{map[[2]string]bool{{"A", "k"}: false}, node(9, "A B", prop("k", v)), 0},
			{map[[2]string]bool{{"A", "k"}: false, {"B", "k"}: false, {"A", "kk"}: true}, node(9, "A B", prop("k", v), prop("kk", v)), 0},
			{nil, node(9, "A B", prop("k", v)), 0},
			{unique, node(9, "B", prop("k", v)), 0},
			{unique, node(9, "", prop("k", v)), 0},
			{unique, node(9, "A", prop("l", v)), 0},
			{unique, node(9, "A"), 0},
			{map[[2]string]bool{{"A", "k"}: true, {"A", "l"}: true, {"B", "k"}: true}, node(9, "A", prop("l", v)), 0},
			{map[[2]string]bool{{"A", "k"}: true, {"C", "k"}: true}, node(9, "C", prop("k", v)), 0},
		} {
			w := web{nodes: []api.Node{node(1, "A", prop("k", text("ahead"))), node(3, "A B", prop("k", v)), node(5, "A B", prop("k", text("between"))), c.twin}, rules: c.rules}
			tells(t, w.dump(), c.want)
			d := w.dump() // an index's tree as if the twin were not there, too
			w.nodes = w.nodes[:3]
			d.P = w.dump().P
			if c.want == audit.Rules {
				tells(t, d, audit.Rules)
			}
		}
	}
	var nodes []api.Node // of values that are like nearly
	for i, v := range some() {
		nodes = append(nodes, node(i+1, "A B", prop("k", v), prop("l", v)))
	}
	w := web{nodes: nodes, rules: map[[2]string]bool{{"A", "k"}: true, {"A", "l"}: true, {"B", "k"}: true}}
	tells(t, w.dump(), 0)
	for i := range nodes {
		w.nodes = append(slices.Clone(nodes), node(999, "B", nodes[i].Props...))
		tells(t, w.dump(), audit.Rules)
	}
}

// bad tells a tree with something that no graph has at its end.
func bad(d audit.Dump, which int) audit.Dump {
	to := lists(&d)[which-1]
	*to = append(slices.Clone(*to), pair(strings.Repeat("\xff", 40), ""))
	return d
}

// Whatever trees are not as they must be, the first one is told.
func TestFirst(t *testing.T) {
	for set := range 1 << 7 {
		d, first := whole().dump(), 0
		for which := 7; which >= 1; which-- {
			if set>>(which-1)&1 == 1 {
				d, first = bad(d, which), which
			}
		}
		tells(t, d, first)
	}
	w := whole() // twins are told ahead of the four trees, and behind nodes and edges
	w.nodes = append(w.nodes, node(9, "A", prop("k", one)))
	d := w.dump()
	tells(t, d, audit.Rules)
	tells(t, bad(bad(bad(bad(d, 4), 5), 6), 7), audit.Rules)
	tells(t, bad(d, 2), audit.Edges)
	tells(t, bad(d, 1), audit.Nodes)
	w.edges = append(w.edges, edge(9, "T", 1, 3))
	tells(t, w.dump(), audit.Edges)
}

// P17.3: of the trees without bytes not one pair may go, come, or be another one.
func TestJustThese(t *testing.T) {
	var nodes []api.Node
	for i, v := range some()[:30] {
		nodes = append(nodes, node(i+1, []string{"A", "A B", "B C", ""}[i%4], prop("k", v), prop("l", one)))
	}
	w := web{nodes: nodes, rules: map[[2]string]bool{{"A", "k"}: true, {"B", "l"}: false, {"C", "k"}: false}}
	for i := range 40 {
		w.edges = append(w.edges, edge(i+1, []string{"T", "S", "TT"}[i%3], 1+i*7%30, 1+i*i%30))
	}
	for _, x := range []web{whole(), w} {
		d := x.dump()
		tells(t, d, 0)
		for which := audit.Outs; which <= audit.Props; which++ {
			for i := range *lists(&d)[which-1] {
				spoilt(t, d, which, i)
			}
		}
	}
}

// spoilt spoils a pair of a tree in each way that there is.
func spoilt(t *testing.T, d audit.Dump, which, i int) {
	t.Helper()
	l := *lists(&d)[which-1]
	with := func(l []tree.Pair) {
		t.Helper()
		e := d
		*lists(&e)[which-1] = l
		tells(t, e, which)
	}
	insert := func(at int, p tree.Pair) { with(slices.Insert(slices.Clone(l), at, p)) }
	put := func(p tree.Pair) {
		c := slices.Clone(l)
		c[i] = p
		with(c)
	}
	key := string(l[i].Key)
	with(slices.Delete(slices.Clone(l), i, i+1))
	with(l[:i])
	insert(i, l[i])
	insert(i, pair("", ""))
	insert(i, pair(key[:len(key)-1], ""))
	insert(i+1, pair(key+"\x00", ""))
	insert(len(l), l[i])
	put(pair(key, "\x00"))
	put(pair(key, as(100)))
	put(pair("", ""))
	put(pair(key+"\x00", ""))
	put(pair(key[:len(key)-1], ""))
	for at := range key {
		b := []byte(key)
		b[at] ^= 1
		put(pair(string(b), ""))
		b[at] ^= 0x81
		put(pair(string(b), ""))
	}
	if i > 0 {
		c := slices.Clone(l)
		c[i], c[i-1] = c[i-1], c[i]
		with(c)
		put(l[i-1])
		put(l[0])
	}
}

// A key has the first 24 bytes of a value, or all of one that has fewer, and the number behind.
func TestCut(t *testing.T) {
	rules := map[[2]string]bool{{"A", "k"}: false}
	head := slowText("A") + slowText("k")
	for n := range 60 {
		v := text(as(n))
		b := string(keys.Put(nil, v))
		d := web{nodes: []api.Node{node(5, "A", prop("k", v))}, rules: rules}.dump()
		for cut := range len(b) + 1 {
			d.P = []tree.Pair{pair(head+b[:cut]+slowInt(5), "")}
			if cut == min(24, len(b)) {
				tells(t, d, 0)
			} else {
				tells(t, d, audit.Props)
			}
		}
	}
}

// In each tree the keys are in the order of their bytes, not in that of the records.
func TestOrder(t *testing.T) {
	w := web{
		nodes: []api.Node{node(1, "C", prop("k", text("c"))), node(2, "A B C", prop("k", text("b"))), node(3, "B", prop("k", text("a"))), node(4, "B C", prop("k", real(1)))},
		edges: []api.Edge{edge(1, "Z", 4, 1), edge(2, "A", 4, 3), edge(3, "A", 4, 1), edge(4, "A", 1, 2), edge(5, "A", 1, 2), edge(6, "AA", 1, 1)},
		rules: map[[2]string]bool{{"B", "k"}: true, {"C", "k"}: true},
	}
	d := w.dump()
	tells(t, d, 0)
	byRecord := d
	byRecord.L = []tree.Pair{d.L[3], d.L[0], d.L[1], d.L[4], d.L[2], d.L[5]}
	tells(t, byRecord, audit.Labels)
	for which := audit.Outs; which <= audit.Props; which++ {
		e := d
		to := lists(&e)[which-1]
		*to = slices.Clone(*to)
		slices.Reverse(*to)
		tells(t, e, which)
	}
	e := d // trees that are each other's
	e.O, e.I = d.I, d.O
	tells(t, e, audit.Outs)
	e = d
	e.I = d.O
	tells(t, e, audit.Ins)
	e = d
	e.L, e.P = d.P, d.L
	tells(t, e, audit.Labels)
}

// A list with room behind it, in which there is what no tree may have.
func TestSpareRoom(t *testing.T) {
	d := whole().dump()
	var all [][]tree.Pair
	for _, to := range lists(&d) {
		for i, p := range *to {
			key := append(slices.Clone(p.Key), "spare"...)
			val := append(slices.Clone(p.Val), "spare"...)
			(*to)[i] = tree.Pair{Key: key[:len(p.Key)], Val: val[:len(p.Val)]}
		}
		l := append(slices.Clone(*to), pair("spare", "room"))
		all = append(all, l)
		*to = l[:len(l)-1]
	}
	tell := func() string {
		s := ""
		for _, l := range all {
			for _, p := range l {
				s += fmt.Sprintf("%q %q ", p.Key[:cap(p.Key)], p.Val[:cap(p.Val)])
			}
		}
		return s
	}
	before := tell()
	tells(t, d, 0)
	tells(t, bad(d, audit.Props), audit.Props)
	d.E = d.E[:1]
	tells(t, d, audit.Outs)
	if tell() != before {
		t.Error("Check changes what is handed in")
	}
}

// Many pairs, and many indexes, are as few ones.
func TestMany(t *testing.T) {
	const many = 20000
	w := web{rules: map[[2]string]bool{{"A", "k"}: true, {"A", "l"}: false}}
	for i := range many {
		w.nodes = append(w.nodes, node(i+1, "A", prop("k", value.OfInt(i*7%many)), prop("l", value.OfInt(i%9))))
		w.edges = append(w.edges, edge(i+1, "T", i+1, 1+i*3%many))
	}
	d := w.dump()
	for i := range many {
		d.U = append(d.U, pair(slowText("A")+slowText(fmt.Sprint("n", many+i)), "\x01"))
	}
	is := func(d audit.Dump, want int) {
		t.Helper()
		if which, e := audit.Check(d); which != want || (e == api.OK) != (want == 0) {
			t.Error(which, int(e), want)
		}
	}
	is(d, 0)
	is(bad(d, audit.Props), audit.Props)
	is(bad(d, audit.Rules), audit.Rules)
	d.L[many-1].Key[10] ^= 1
	is(d, audit.Labels)
	w.nodes[many-1].Props = w.nodes[many/2].Props
	is(w.dump(), audit.Rules)
}
