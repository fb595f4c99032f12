package graph

import (
	"cobweb/api"
	"cobweb/keys"
	"cobweb/order"
	"cobweb/record"
)

// The named trees.
const (
	nodeTree  = "n"
	edgeTree  = "e"
	outTree   = "o"
	inTree    = "i"
	labelTree = "l"
	ruleTree  = "u"
	propTree  = "p"
)

const (
	maxCut      = 24 // bytes of a value in a key, which has no room for all of a great one
	numberBytes = 8
)

// spot is a key of a named tree that has no bytes.
type spot struct{ name, key string }

func numberKey(id int) []byte { return order.PutInt(nil, id) }

func labelKey(label string) []byte { return order.PutText(nil, label) }

// ruleKey tells an index's key; of what no index can have, the one of no bytes, which none has.
func ruleKey(label, name string) []byte {
	if !record.Name(label) || !record.Name(name) {
		return nil
	}
	return order.PutText(labelKey(label), name)
}

// valueKey tells what the keys of an index's nodes with a value begin with, and perhaps those with others, too.
func valueKey(label, name string, v api.Value) []byte {
	b := keys.Put(nil, v)
	return append(ruleKey(label, name), b[:min(len(b), maxCut)]...)
}

// sideKey tells the key of an edge as one of its nodes, the near one, has it.
func sideKey(near int, kind string, far, id int) string {
	return string(order.PutInt(order.PutInt(order.PutText(numberKey(near), kind), far), id))
}

// edgeSpots tells where an edge stands but in its record.
func edgeSpots(x api.Edge) []spot {
	return []spot{
		{outTree, sideKey(x.From, x.Type, x.To, x.Id)},
		{inTree, sideKey(x.To, x.Type, x.From, x.Id)},
	}
}

// nodeSpots tells where a node stands but in its record; rules are those that are asked of it.
func nodeSpots(n api.Node, rules []api.Rule) []spot {
	var l []spot
	for _, s := range n.Labels {
		l = append(l, spot{labelTree, string(order.PutInt(labelKey(s), n.Id))})
	}
	for _, x := range entriesOf(n, rules) {
		l = append(l, x.spot(n.Id))
	}
	return l
}

// entry is what an index has of a node: the rule, and the node's value.
type entry struct {
	api.Rule
	v api.Value
}

func (x entry) spot(id int) spot {
	return spot{propTree, string(order.PutInt(valueKey(x.Label, x.Name, x.v), id))}
}

// entriesOf tells what the indexes have of a node.
func entriesOf(n api.Node, rules []api.Rule) []entry {
	var l []entry
	its := setOf(n.Labels)
	for _, r := range rules {
		_, labelled := its[r.Label]
		v, there := record.Get(n.Props, r.Name)
		if labelled && there {
			l = append(l, entry{r, v})
		}
	}
	return l
}

// setOf tells labels as a set.
func setOf(l []string) map[string]struct{} {
	set := map[string]struct{}{}
	for _, s := range l {
		set[s] = struct{}{}
	}
	return set
}

// What is read of keys is taken only as it was put, so that no other one's is told as one.

// readNumber reads the number that all the bytes are.
func readNumber(b []byte) (int, bool) {
	n, used, e := order.ReadInt(b)
	if e != api.OK || used < len(b) || n < 1 {
		return 0, false
	}
	return n, true
}

// readLast reads the number that bytes end with.
func readLast(b []byte) (int, bool) {
	return readNumber(b[max(0, len(b)-numberBytes):])
}

// readSide reads an edge's number behind the node's in one of its keys.
func readSide(b []byte) (int, bool) {
	kind, used, e := order.ReadText(b)
	if e != api.OK || !record.Name(kind) || len(b) < used+numberBytes {
		return 0, false
	}
	if _, ok := readNumber(b[used : used+numberBytes]); !ok {
		return 0, false
	}
	return readNumber(b[used+numberBytes:])
}

// readRule reads an index.
func readRule(key, val []byte) (api.Rule, bool) {
	label, used, e := order.ReadText(key)
	if e != api.OK || !record.Name(label) {
		return api.Rule{}, false
	}
	name, more, e := order.ReadText(key[used:])
	if e != api.OK || !record.Name(name) || used+more < len(key) {
		return api.Rule{}, false
	}
	if len(val) != 1 || val[0] > 1 {
		return api.Rule{}, false
	}
	return api.Rule{Label: label, Name: name, Unique: val[0] == 1}, true
}
