package audit_test

import (
	"encoding/binary"
	"fmt"
	"maps"
	"math"
	"slices"
	"strings"

	"cobweb/api"
	"cobweb/audit"
	"cobweb/keys"
	"cobweb/record"
	"cobweb/tree"
	"cobweb/value"
)

// What the chapter says, once more, as slowly as it is said there.

func slowInt(n int) string { return string(binary.BigEndian.AppendUint64(nil, uint64(n)+1<<63)) }

func slowText(s string) string { return strings.ReplaceAll(s, "\x00", "\x00\xff") + "\x00\x01" }

// slowNumber reads what slowInt tells of a number above 0.
func slowNumber(key string) (int, bool) {
	if len(key) != 8 {
		return 0, false
	}
	n := int(binary.BigEndian.Uint64([]byte(key)) - 1<<63)
	return n, n > 0
}

// web is a graph and its indexes; of each index whether it is unique.
type web struct {
	nodes []api.Node
	edges []api.Edge
	rules map[[2]string]bool
}

// has tells a node's value of a label's property.
func has(n api.Node, r [2]string) (api.Value, bool) {
	v, there := record.Get(n.Props, r[1])
	return v, there && slices.Contains(n.Labels, r[0])
}

// dump tells what the trees of a graph must have.
func (w web) dump() audit.Dump {
	all := map[string]map[string]string{}
	for _, name := range names {
		all[name] = map[string]string{}
	}
	for _, n := range w.nodes {
		b, _ := record.PutNode(n)
		all["n"][slowInt(n.Id)] = string(b)
		for _, s := range n.Labels {
			all["l"][slowText(s)+slowInt(n.Id)] = ""
		}
		for r := range w.rules {
			if v, there := has(n, r); there {
				b := keys.Put(nil, v)
				all["p"][slowText(r[0])+slowText(r[1])+string(b[:min(len(b), 24)])+slowInt(n.Id)] = ""
			}
		}
	}
	for _, x := range w.edges {
		b, _ := record.PutEdge(x)
		all["e"][slowInt(x.Id)] = string(b)
		all["o"][slowInt(x.From)+slowText(x.Type)+slowInt(x.To)+slowInt(x.Id)] = ""
		all["i"][slowInt(x.To)+slowText(x.Type)+slowInt(x.From)+slowInt(x.Id)] = ""
	}
	for r, unique := range w.rules {
		all["u"][slowText(r[0])+slowText(r[1])] = map[bool]string{false: "\x00", true: "\x01"}[unique]
	}
	var d audit.Dump
	for i, to := range lists(&d) {
		for _, k := range slices.Sorted(maps.Keys(all[names[i]])) {
			*to = append(*to, pair(k, all[names[i]][k]))
		}
	}
	return d
}

// The trees by the numbers that Check tells of them, less 1.
var names = []string{"n", "e", "u", "o", "i", "l", "p"}

func lists(d *audit.Dump) []*[]tree.Pair {
	return []*[]tree.Pair{&d.N, &d.E, &d.U, &d.O, &d.I, &d.L, &d.P}
}

func pair(key, val string) tree.Pair { return tree.Pair{Key: []byte(key), Val: []byte(val)} }

// readWeb tells the graph that a Dump's records are of; else which of N, E and U is not as it must be.
func readWeb(d audit.Dump) (web, int) {
	w := web{rules: map[[2]string]bool{}}
	there := map[int]bool{}
	for i, p := range d.N {
		id, ok := slowNumber(string(p.Key))
		n, e := record.ReadNode(p.Val, id)
		if !ok || e != api.OK || i > 0 && string(d.N[i-1].Key) >= string(p.Key) {
			return w, audit.Nodes
		}
		there[id] = true
		w.nodes = append(w.nodes, n)
	}
	for i, p := range d.E {
		id, ok := slowNumber(string(p.Key))
		x, e := record.ReadEdge(p.Val, id)
		if !ok || e != api.OK || !there[x.From] || !there[x.To] || i > 0 && string(d.E[i-1].Key) >= string(p.Key) {
			return w, audit.Edges
		}
		w.edges = append(w.edges, x)
	}
	for i, p := range d.U {
		l := strings.Split(string(p.Key), "\x00\x01")
		if len(l) != 3 || l[2] != "" || !record.Name(l[0]) || !record.Name(l[1]) || i > 0 && string(d.U[i-1].Key) >= string(p.Key) {
			return w, audit.Rules
		}
		if s := string(p.Val); s != "\x00" && s != "\x01" {
			return w, audit.Rules
		}
		w.rules[[2]string{l[0], l[1]}] = p.Val[0] == 1
	}
	return w, 0
}

// twins tells whether two nodes have one value where they may not.
func (w web) twins() bool {
	for r, unique := range w.rules {
		for i, a := range w.nodes {
			for _, b := range w.nodes[:i] {
				x, its := has(a, r)
				y, others := has(b, r)
				if unique && its && others && value.Compare(x, y) == 0 {
					return true
				}
			}
		}
	}
	return false
}

// slowCheck tells what Check must tell.
func slowCheck(d audit.Dump) int {
	w, which := readWeb(d)
	if which != 0 {
		return which
	}
	if w.twins() {
		return audit.Rules
	}
	must := w.dump()
	for i, to := range lists(&must) {
		if i >= audit.Rules && !same(*lists(&d)[i], *to) {
			return i + 1
		}
	}
	return 0
}

func same(a, b []tree.Pair) bool {
	return slices.EqualFunc(a, b, func(a, b tree.Pair) bool {
		return string(a.Key) == string(b.Key) && string(a.Val) == string(b.Val)
	})
}

func sameDump(a, b audit.Dump) bool {
	for i, to := range lists(&a) {
		if !same(*to, *lists(&b)[i]) {
			return false
		}
	}
	return true
}

// short tells the beginning of what a thing is.
func short(x any) string {
	s := fmt.Sprintf("%+q", fmt.Sprint(x))
	return s[:min(len(s), 600)]
}

const (
	maxInt = math.MaxInt
	minInt = math.MinInt
)

func as(n int) string { return strings.Repeat("a", n) }

func prop(name string, v api.Value) api.Prop { return api.Prop{Name: name, V: v} }

func node(id int, labels string, l ...api.Prop) api.Node {
	return api.Node{Id: id, Labels: strings.Fields(labels), Props: l}
}

func edge(id int, kind string, from, to int, l ...api.Prop) api.Edge {
	return api.Edge{Id: id, Type: kind, From: from, To: to, Props: l}
}

func blob(n int) api.Value { return api.Value{Atom: api.Atom{Kind: api.Bytes, S: as(n)}} }

func list(l ...api.Value) api.Value {
	v := api.Value{Atom: api.Atom{Kind: api.List}}
	for _, x := range l {
		v.L = append(v.L, x.Atom)
	}
	return v
}

var (
	one, two = value.OfInt(1), value.OfInt(2)
	null     = api.Value{}
	text     = value.OfText
	real     = value.OfReal
)

// some tells values, no two of which are like, though some have keys that are.
func some() []api.Value {
	long := strings.Repeat("x", 40)
	return []api.Value{
		one, two, real(2), value.OfInt(-3), real(math.NaN()), real(math.Inf(1)), real(math.Inf(-1)), real(0), value.OfInt(0), value.OfBool(true), value.OfBool(false),
		text(""), text("\x00"), text("ab"), text(as(20)), text(as(21)), text(as(22)), text(as(23)), text(as(24)), text(as(25)), text(long + "a"), text(long + "b"), text(long + "\x00"), text(as(256)), blob(0), blob(2), blob(256),
		list(), list(two), list(real(2)), list(two, two), list(two, two, two), list(two, two, two, one), list(null), list(text(long), two), list(text(long), one),
		value.OfInt(1<<53 + 1), value.OfInt(1 << 53), real(1 << 53), value.OfInt(maxInt), value.OfInt(minInt), real(1 << 63),
	}
}
