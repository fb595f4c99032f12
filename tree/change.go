package tree

import (
	"maps"
	"slices"

	"cobweb/api"
	"cobweb/node"
	"cobweb/page"
	"cobweb/share"
)

// isNew stands for the page of a value that is not laid yet. A node that is not laid yet is a kid, too, by a number below 0.
const isNew = -1

// change makes a tree of another one. It reads all that it needs ahead of laying anything, and what it has read is just what the new tree has no more.
type change struct {
	look
	val   []byte
	fresh []node.Node // the kids that are not laid yet
	laid  []int
}

// row is a node, or two beside each other, and the key between these.
type row struct {
	nodes   []node.Node
	between [][]byte
}

// entry tells the entry of the value.
func (c *change) entry() node.Val {
	if len(c.val) > node.Inline {
		return node.Val{Long: len(c.val), Page: isNew}
	}
	return node.Val{In: c.val}
}

// turn tells the root of the tree that has others in the place of the key at the end of a way.
func (c *change) turn(w way, keys [][]byte, vals []node.Val) (int, api.Errno) {
	end := w.end()
	to := end.i
	if end.there {
		to++
		if _, e := c.value(end.val()); e != api.OK {
			return 0, e
		}
	}
	root, e := c.up(w, node.Node{
		Leaf: true,
		Keys: splice(end.n.Keys, end.i, to, keys),
		Vals: splice(end.n.Vals, end.i, to, vals),
	})
	if e != api.OK {
		return 0, e
	}
	return c.write(root)
}

// up tells the root's node, where a leaf stands in the place of that of a way.
func (c *change) up(w way, leaf node.Node) (node.Node, api.Errno) {
	r := cut(leaf)
	for i := len(w) - 2; i >= 0; i-- {
		s := w[i]
		from, to := s.i, s.i+1
		if r.poor() && len(s.n.Kids) > 1 {
			from = max(s.i-1, 0)
			to = from + 2
			var e api.Errno
			if r, e = c.mix(s, from, r.nodes[0]); e != api.OK {
				return node.Node{}, e
			}
		}
		r = cut(node.Node{
			Keys: splice(s.n.Keys, from, to-1, r.between),
			Kids: splice(s.n.Kids, from, to, c.kids(r)),
		})
	}
	return c.root(r, len(w))
}

// poor tells whether there is but one node, less than a quarter full.
func (r row) poor() bool {
	return len(r.nodes) == 1 && share.Poor(node.Size(r.nodes[0]), page.Room)
}

// kids tells the numbers of nodes that are not laid yet.
func (c *change) kids(r row) []int {
	var l []int
	for _, n := range r.nodes {
		l = append(l, ^len(c.fresh))
		c.fresh = append(c.fresh, n)
	}
	return l
}

// mix tells what is made of a poor node and the one beside it: the two kids from one on of a step's node.
func (c *change) mix(s step, from int, poor node.Node) (row, api.Errno) {
	at := from
	if at == s.i {
		at++
	}
	other, e := c.node(s.at.kid(s.n, at))
	if e != api.OK || other.Leaf != poor.Leaf {
		return row{}, api.ErrCorrupt
	}
	if at < s.i {
		return cut(join(other, s.n.Keys[from], poor)), api.OK
	}
	return cut(join(poor, s.n.Keys[from], other)), api.OK
}

// root tells the root's node of what stands in the place of one that was so deep.
func (c *change) root(r row, deep int) (node.Node, api.Errno) {
	if len(r.nodes) == 1 {
		n := r.nodes[0]
		for !n.Leaf && len(n.Keys) == 0 { // its only kid is not laid yet: it was on the way
			n = c.fresh[^n.Kids[0]]
		}
		return n, api.OK
	}
	if deep == deepest {
		return node.Node{}, api.ErrCorrupt
	}
	return node.Node{Keys: r.between, Kids: c.kids(r)}, api.OK
}

// join tells two nodes beside each other as one, whatever its size.
func join(a node.Node, between []byte, b node.Node) node.Node {
	if a.Leaf {
		return node.Node{Leaf: true, Keys: slices.Concat(a.Keys, b.Keys), Vals: slices.Concat(a.Vals, b.Vals)}
	}
	return node.Node{Keys: slices.Concat(a.Keys, [][]byte{between}, b.Keys), Kids: slices.Concat(a.Kids, b.Kids)}
}

// cut tells a node as it is, or, if no page takes it, as two. There is a cut, and neither of the two is poor: an entry has 138 bytes at most, a kid with its key 75, and the node some 200 more than a page at most.
func cut(n node.Node) row {
	if node.Size(n) <= page.Room {
		return row{nodes: []node.Node{n}}
	}
	k, _ := share.Cut(sizes(n), page.Room-1)
	if n.Leaf {
		a := node.Node{Leaf: true, Keys: n.Keys[:k], Vals: n.Vals[:k]}
		b := node.Node{Leaf: true, Keys: n.Keys[k:], Vals: n.Vals[k:]}
		return row{[]node.Node{a, b}, n.Keys[k : k+1]}
	}
	a := node.Node{Keys: n.Keys[:k-1], Kids: n.Kids[:k]}
	b := node.Node{Keys: n.Keys[k:], Kids: n.Kids[k:]}
	return row{[]node.Node{a, b}, n.Keys[k-1 : k]}
}

// sizes tells how many bytes each entry of a leaf has, or each kid of a branch with the key ahead of it: the first one has none.
func sizes(n node.Node) []int {
	var l []int
	if !n.Leaf {
		l = append(l, wide)
	}
	for i, key := range n.Keys {
		if n.Leaf {
			l = append(l, node.Entry(key, n.Vals[i]))
		} else {
			l = append(l, node.Child(key))
		}
	}
	return l
}

// splice tells a list with others in the place of those from one place on, up to another one.
func splice[T any](l []T, from, to int, others []T) []T {
	return slices.Concat(l[:from], others, l[to:])
}

// write lays all that is new, then drops all that is gone: till then the elder tree is whole. What was laid ahead of an error is free again.
func (c *change) write(root node.Node) (int, api.Errno) {
	no, e := 0, api.OK
	if len(root.Keys) > 0 {
		no, e = c.layNode(root)
	}
	if e == api.OK {
		e = c.drop(slices.Sorted(maps.Keys(c.seen)))
	}
	if e != api.OK {
		c.drop(c.laid)
		return 0, e
	}
	return no, api.OK
}

func (c *change) drop(pages []int) api.Errno {
	for _, no := range pages {
		if e := c.p.Drop(no); e != api.OK {
			return e
		}
	}
	return api.OK
}

// lay lays a page, and notes it; layNode a node, behind the kids and the value that are not laid yet; layValue the value.
func (c *change) lay(kind byte, in []byte) (int, api.Errno) {
	no, e := c.p.Lay(kind, in)
	if e == api.OK {
		c.laid = append(c.laid, no)
	}
	return no, e
}

func (c *change) layNode(n node.Node) (int, api.Errno) {
	var e api.Errno
	for i, kid := range n.Kids {
		if kid < 0 {
			if n.Kids[i], e = c.layNode(c.fresh[^kid]); e != api.OK {
				return 0, e
			}
		}
	}
	for i, v := range n.Vals {
		if v.Page == isNew {
			if n.Vals[i].Page, e = c.layValue(); e != api.OK {
				return 0, e
			}
		}
	}
	b, e := node.Put(n)
	if e != api.OK {
		return 0, e
	}
	if n.Leaf {
		return c.lay(node.LeafKind, b)
	}
	return c.lay(node.BranchKind, b)
}

// layValue lays the last page first, for each one tells the next one's number.
func (c *change) layValue() (int, api.Errno) {
	next := 0
	for to := len(c.val); to > 0; {
		from := (to - 1) / longRoom * longRoom
		in := append([]byte{byte(next), byte(next >> 8)}, c.val[from:to]...)
		var e api.Errno
		if next, e = c.lay(node.LongKind, in); e != api.OK {
			return 0, e
		}
		to = from
	}
	return next, api.OK
}
