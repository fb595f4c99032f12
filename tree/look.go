package tree

import (
	"bytes"
	"iter"
	"slices"

	"cobweb/api"
	"cobweb/node"
	"cobweb/page"
	"cobweb/pager"
)

const (
	deepest  = 16 // so many nodes stand above one another at most
	wide     = 2  // how wide a page's number is: of a kid, and of the next page of a value
	longRoom = page.Room - wide
)

// look reads pages of one tree.
type look struct {
	p    *pager.Pager
	seen map[int]struct{} // what was read: a page that is asked for again is none of a tree
}

func lookAt(p *pager.Pager) look { return look{p, map[int]struct{}{}} }

// place is a node's: its page, how many nodes stand from the root down to it, and in which span all keys below it must be.
type place struct {
	no, deep int
	span     span
}

func top(root int) place { return place{no: root, deep: 1} }

// kid tells the place of a branch's kid.
func (at place) kid(n node.Node, i int) place {
	s := at.span
	if i > 0 {
		s.from = n.Keys[i-1]
	}
	if i < len(n.Keys) {
		s.to, s.ends = n.Keys[i], true
	}
	return place{n.Kids[i], at.deep + 1, s}
}

// page tells what is in a page.
func (l look) page(no int) (kind byte, in []byte, e api.Errno) {
	if _, again := l.seen[no]; again {
		return 0, nil, api.ErrCorrupt
	}
	l.seen[no] = struct{}{}
	kind, in, e = l.p.Read(no)
	if e != api.OK {
		return 0, nil, api.ErrCorrupt
	}
	return kind, in, api.OK
}

// node tells the node of a place.
func (l look) node(at place) (node.Node, api.Errno) {
	if at.deep > deepest {
		return node.Node{}, api.ErrCorrupt
	}
	kind, in, e := l.page(at.no)
	if e != api.OK {
		return node.Node{}, e
	}
	n, e := node.Read(kind, in)
	if e != api.OK || !at.takes(n) {
		return node.Node{}, api.ErrCorrupt
	}
	return n, api.OK
}

// takes tells whether a node may stand in a place: a leaf that all keys must be in has one.
func (at place) takes(n node.Node) bool {
	if len(n.Keys) == 0 {
		return !n.Leaf || !at.span.all()
	}
	return at.span.has(n.Keys[0]) && at.span.has(n.Keys[len(n.Keys)-1])
}

// value tells the value of an entry.
func (l look) value(v node.Val) ([]byte, api.Errno) {
	if v.Page == 0 {
		return v.In, api.OK
	}
	val := make([]byte, 0, v.Long)
	next := v.Page
	for len(val) < v.Long {
		kind, in, e := l.page(next)
		size := min(longRoom, v.Long-len(val))
		if e != api.OK || kind != node.LongKind || len(in) != wide+size {
			return nil, api.ErrCorrupt
		}
		val = append(val, in[wide:]...)
		next = int(in[0]) | int(in[1])<<8
	}
	if next != 0 {
		return nil, api.ErrCorrupt
	}
	return val, api.OK
}

// step is a node on the way to a key: which of its kids comes next; or, in a leaf, where the key is, or would be.
type step struct {
	at    place
	n     node.Node
	i     int
	there bool
}

func (s step) val() node.Val { return s.n.Vals[s.i] }

// way is the steps from the root down to a leaf; none of the root 0.
type way []step

// end tells the leaf's step; where there is none, that of a leaf without keys.
func (w way) end() step {
	if len(w) == 0 {
		return step{n: node.Node{Leaf: true}}
	}
	return w[len(w)-1]
}

func (l look) way(root int, key []byte) (way, api.Errno) {
	if root == 0 {
		return nil, api.OK
	}
	var w way
	for at := top(root); ; {
		n, e := l.node(at)
		if e != api.OK {
			return nil, e
		}
		i, there := slices.BinarySearchFunc(n.Keys, key, bytes.Compare)
		if n.Leaf {
			return append(w, step{at, n, i, there}), api.OK
		}
		if there { // the keys from that one on are below the kid behind it
			i++
		}
		w = append(w, step{at, n, i, false})
		at = at.kid(n, i)
	}
}

// nodes goes over a tree's nodes, each ahead of its kids, of these the ones whose span is needed, till it tells an error.
func (l look) nodes(root int, needs func(s span) bool) iter.Seq2[node.Node, api.Errno] {
	return func(yield func(node.Node, api.Errno) bool) {
		deep := 0 // that of the first leaf, so that of all
		each := func(at place, n node.Node, e api.Errno) bool {
			if e == api.OK && n.Leaf {
				if deep != 0 && deep != at.deep {
					n, e = node.Node{}, api.ErrCorrupt
				}
				deep = at.deep
			}
			return yield(n, e) && e == api.OK
		}
		if root != 0 {
			l.below(top(root), needs, each)
		}
	}
}

// below goes over the nodes from a place on; false: it was told to end.
func (l look) below(at place, needs func(s span) bool, each func(at place, n node.Node, e api.Errno) bool) bool {
	n, e := l.node(at)
	if !each(at, n, e) {
		return false
	}
	for i := range n.Kids {
		kid := at.kid(n, i)
		if needs(kid.span) && !l.below(kid, needs, each) {
			return false
		}
	}
	return true
}
