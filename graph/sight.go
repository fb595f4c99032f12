package graph

import (
	"math"
	"slices"

	"cobweb/api"
	"cobweb/order"
	"cobweb/record"
	"cobweb/tree"
	"cobweb/txn"
	"cobweb/value"
)

// sight is what looks at a view are done by.
type sight struct {
	store *txn.Store
	view  int
	fails func(name string, key []byte) // is told where the store could not be looked at
}

func (s sight) get(name string, key []byte) ([]byte, bool, api.Errno) {
	b, there, e := s.store.Get(s.view, name, key)
	if e != api.OK {
		s.fails(name, key)
	}
	return b, there, e
}

// behind tells a tree's pairs whose keys begin so, with what stands behind that in their keys.
func (s sight) behind(name string, head []byte) ([]tree.Pair, api.Errno) {
	end, _ := order.After(head) // where there is none, all keys from the head on begin with it
	l, e := s.store.Scan(s.view, name, head, end, math.MaxInt)
	if e != api.OK {
		s.fails(name, head)
		return nil, e
	}
	for i, x := range l {
		l[i].Key = x.Key[len(head):]
	}
	return l, api.OK
}

// numbers tells the numbers in the keys that begin so, rising.
func (s sight) numbers(name string, head []byte, read func([]byte) (int, bool)) ([]int, api.Errno) {
	pairs, e := s.behind(name, head)
	if e != api.OK {
		return nil, e
	}
	var l []int
	for _, x := range pairs {
		id, ok := read(x.Key)
		if !ok || len(x.Val) > 0 {
			return nil, api.ErrCorrupt
		}
		l = append(l, id)
	}
	slices.Sort(l)
	return l, api.OK
}

// one tells the record of a number, and all those of a tree, by what reads them.
func one[T any](s sight, name string, id int, read func([]byte, int) (T, api.Errno)) (T, bool, api.Errno) {
	var none T
	b, there, e := s.get(name, numberKey(id))
	if e != api.OK || !there {
		return none, false, e
	}
	x, e := read(b, id)
	if e != api.OK {
		return none, false, api.ErrCorrupt
	}
	return x, true, api.OK
}

func all[T any](s sight, name string, read func([]byte, int) (T, api.Errno)) ([]T, api.Errno) {
	pairs, e := s.behind(name, nil)
	if e != api.OK {
		return nil, e
	}
	var l []T
	for _, p := range pairs {
		id, _ := readNumber(p.Key) // 0, which no record has, where it is none
		x, e := read(p.Val, id)
		if e != api.OK {
			return nil, api.ErrCorrupt
		}
		l = append(l, x)
	}
	return l, api.OK
}

func (s sight) node(id int) (api.Node, bool, api.Errno) { return one(s, nodeTree, id, record.ReadNode) }
func (s sight) edge(id int) (api.Edge, bool, api.Errno) { return one(s, edgeTree, id, record.ReadEdge) }

// kept tells what look tells of a number that another tree has.
func kept[T any](look func(int) (T, bool, api.Errno), id int) (T, api.Errno) {
	x, there, e := look(id)
	if e == api.OK && !there {
		e = api.ErrCorrupt
	}
	return x, e
}

// side tells the edges that a node has on one side.
func (s sight) side(name string, id int) ([]int, api.Errno) {
	return s.numbers(name, numberKey(id), readSide)
}

func (s sight) labelled(label string) ([]int, api.Errno) {
	return s.numbers(labelTree, labelKey(label), readNumber)
}

// like tells an index's nodes with a value. The records tell, as a key has only a part of a great value.
func (s sight) like(label, name string, v api.Value) ([]int, api.Errno) {
	near, e := s.numbers(propTree, valueKey(label, name, v), readLast)
	if e != api.OK {
		return nil, e
	}
	var l []int
	for _, id := range near {
		n, e := kept(s.node, id)
		if e != api.OK {
			return nil, e
		}
		its, there := record.Get(n.Props, name)
		if there && value.Compare(its, v) == 0 {
			l = append(l, id)
		}
	}
	return l, api.OK
}

// hasRule tells whether there is an index.
func (s sight) hasRule(label, name string) (bool, api.Errno) {
	key := ruleKey(label, name)
	b, there, e := s.get(ruleTree, key)
	if e != api.OK || !there {
		return false, e
	}
	if _, ok := readRule(key, b); !ok {
		return false, api.ErrCorrupt
	}
	return true, api.OK
}

func (s sight) rules() ([]api.Rule, api.Errno) {
	pairs, e := s.behind(ruleTree, nil)
	if e != api.OK {
		return nil, e
	}
	var l []api.Rule
	for _, x := range pairs {
		r, ok := readRule(x.Key, x.Val)
		if !ok {
			return nil, api.ErrCorrupt
		}
		l = append(l, r)
	}
	return l, api.OK
}
