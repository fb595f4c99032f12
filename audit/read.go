package audit

import (
	"slices"

	"cobweb/api"
	"cobweb/order"
	"cobweb/record"
	"cobweb/tree"
	"cobweb/value"
)

// records reads the records of a tree; false: a pair is none, or the numbers don't rise.
func records[T any](l []tree.Pair, read func([]byte, int) (T, api.Errno)) ([]T, bool) {
	var out []T
	ahead := 0 // below all numbers that records have
	for _, p := range l {
		id, used, e := order.ReadInt(p.Key)
		if e != api.OK || used < len(p.Key) || id <= ahead {
			return nil, false
		}
		x, e := read(p.Val, id)
		if e != api.OK {
			return nil, false
		}
		out = append(out, x)
		ahead = id
	}
	return out, true
}

// joined tells whether all edges join nodes that are there.
func joined(edges []api.Edge, nodes []api.Node) bool {
	there := map[int]struct{}{}
	for _, n := range nodes {
		there[n.Id] = struct{}{}
	}
	hangs := func(x api.Edge) bool {
		_, from := there[x.From]
		_, to := there[x.To]
		return !from || !to
	}
	return !slices.ContainsFunc(edges, hangs)
}

// index is a property of a label that there is an index of.
type index struct{ label, name string }

// unique is what the indexes' tree has of a unique one, the others have less.
const unique = 1

// indexes reads the indexes' tree: what it has of each; false: a pair is none, or the keys don't rise.
func indexes(l []tree.Pair) (map[index]byte, bool) {
	out := map[index]byte{}
	var ahead []byte // below all keys of names
	for _, p := range l {
		x, ok := readIndex(p.Key)
		if !ok || order.Compare(ahead, p.Key) >= 0 || len(p.Val) != 1 || p.Val[0] > unique {
			return nil, false
		}
		out[x] = p.Val[0]
		ahead = p.Key
	}
	return out, true
}

// readIndex reads the index that a key is of.
func readIndex(key []byte) (index, bool) {
	label, used, e := order.ReadText(key)
	if e != api.OK || !record.Name(label) {
		return index{}, false
	}
	name, more, e := order.ReadText(key[used:])
	if e != api.OK || !record.Name(name) || used+more < len(key) {
		return index{}, false
	}
	return index{label, name}, true
}

// entry is what an index has of a node.
type entry struct {
	index
	v api.Value
}

// entriesOf tells what the indexes have of a node. The node's own names are looked for among the indexes, which may be many.
func entriesOf(n api.Node, rules map[index]byte) []entry {
	var l []entry
	for _, s := range n.Labels {
		for _, p := range n.Props {
			x := index{s, p.Name}
			if _, there := rules[x]; there {
				l = append(l, entry{x, p.V})
			}
		}
	}
	return l
}

// keptBy tells whether no two nodes have one value where an index is unique.
func keptBy(nodes []api.Node, rules map[index]byte) bool {
	values := map[index][]api.Value{}
	for _, n := range nodes {
		for _, x := range entriesOf(n, rules) {
			if rules[x.index] == unique {
				values[x.index] = append(values[x.index], x.v)
			}
		}
	}
	like := func(a, b api.Value) bool { return value.Compare(a, b) == 0 }
	for _, l := range values {
		slices.SortFunc(l, value.Compare)
		if len(slices.CompactFunc(l, like)) < len(l) {
			return false
		}
	}
	return true
}
