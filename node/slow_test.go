package node_test

import (
	"bytes"
	"math/rand"
	"slices"
	"strings"

	"cobweb/api"
	"cobweb/node"
)

// What the chapter says, once more, as slowly as it is said there.

func low16(n int) string { return string([]byte{byte(n % 256), byte(n / 256 % 256)}) }

func counted(b []byte) string { return string([]byte{byte(len(b))}) + string(b) }

// slowVal tells whether a value is right.
func slowVal(v node.Val) bool {
	here := v.Page == 0 && v.Long == 0 && len(v.In) <= 64
	away := 2 <= v.Page && v.Page <= 4095 && 65 <= v.Long && v.Long <= 4096 && len(v.In) == 0
	return here || away
}

// slowBytes tells a node's bytes, also where it isn't right; a leaf's key without a value has an empty one, a branch's key without a kid the kid 0.
func slowBytes(n node.Node) string {
	var s strings.Builder
	s.WriteByte(byte(len(n.Keys)))
	kid := func(i int) string {
		if i < len(n.Kids) {
			return low16(n.Kids[i])
		}
		return low16(0)
	}
	if !n.Leaf {
		s.WriteString(kid(0))
	}
	for i, k := range n.Keys {
		s.WriteString(counted(k))
		switch {
		case !n.Leaf:
			s.WriteString(kid(i + 1))
		case i >= len(n.Vals):
			s.WriteByte(0)
		case n.Vals[i].Page != 0:
			s.WriteString("\xff" + low16(n.Vals[i].Long) + low16(n.Vals[i].Page))
		default:
			s.WriteString(counted(n.Vals[i].In))
		}
	}
	return s.String()
}

// slowRight tells whether a node is right.
func slowRight(n node.Node) bool {
	for i, k := range n.Keys {
		if len(k) > 72 || i > 0 && strings.Compare(string(n.Keys[i-1]), string(k)) != -1 {
			return false
		}
	}
	if len(n.Keys) > 250 || len(slowBytes(n)) > 493 {
		return false
	}
	if !n.Leaf {
		for _, k := range n.Kids {
			if k < 2 || k > 4095 {
				return false
			}
		}
		return len(n.Kids) == 1+len(n.Keys) && len(n.Vals) == 0
	}
	for _, v := range n.Vals {
		if !slowVal(v) {
			return false
		}
	}
	return len(n.Vals) == len(n.Keys) && len(n.Kids) == 0
}

// same tells whether two nodes are one; a list without an element may be nil.
func same(a, b node.Node) bool {
	sameVal := func(v, w node.Val) bool {
		return bytes.Equal(v.In, w.In) && v.Long == w.Long && v.Page == w.Page
	}
	return a.Leaf == b.Leaf && slices.EqualFunc(a.Keys, b.Keys, bytes.Equal) && slices.EqualFunc(a.Vals, b.Vals, sameVal) && slices.Equal(a.Kids, b.Kids)
}

// isZero tells whether nothing is told.
func isZero(n node.Node) bool { return same(n, node.Node{}) }

// apart tells a node in new memory.
func apart(n node.Node) node.Node {
	m := node.Node{Leaf: n.Leaf, Kids: slices.Clone(n.Kids)}
	for _, k := range n.Keys {
		m.Keys = append(m.Keys, bytes.Clone(k))
	}
	for _, v := range n.Vals {
		m.Vals = append(m.Vals, node.Val{In: bytes.Clone(v.In), Long: v.Long, Page: v.Page})
	}
	return m
}

func leaf(l ...any) node.Node {
	n := node.Node{Leaf: true}
	for i := 0; i < len(l); i += 2 {
		n.Keys = append(n.Keys, []byte(l[i].(string)))
		switch v := l[i+1].(type) {
		case string:
			n.Vals = append(n.Vals, in(v))
		case node.Val:
			n.Vals = append(n.Vals, v)
		}
	}
	return n
}

func branch(kid int, l ...any) node.Node {
	n := node.Node{Kids: []int{kid}}
	for i := 0; i < len(l); i += 2 {
		n.Keys = append(n.Keys, []byte(l[i].(string)))
		n.Kids = append(n.Kids, l[i+1].(int))
	}
	return n
}

func in(s string) node.Val               { return node.Val{In: []byte(s)} }
func away(long, page int) node.Val       { return node.Val{Long: long, Page: page} }
func as(n int) string                    { return strings.Repeat("a", n) }
func pick[T any](r *rand.Rand, l ...T) T { return l[r.Intn(len(l))] }

func kindOf(n node.Node) byte {
	if n.Leaf {
		return 2
	}
	return 3
}

// rising tells up to so many keys of few bytes, of which many begin others.
func rising(r *rand.Rand, most int) [][]byte {
	all := map[string]struct{}{}
	for range r.Intn(most + 1) {
		b := make([]byte, pick(r, 0, 1, 1, 2, 2, 3, 5, 71, 72))
		for i := range b {
			b[i] = pick[byte](r, 0, 1, 2, 'a', 0x7f, 0x80, 0xff, byte(r.Intn(256)))
		}
		all[string(b)] = struct{}{}
	}
	var l [][]byte
	for k := range all {
		l = append(l, []byte(k))
	}
	slices.SortFunc(l, bytes.Compare)
	return l
}

func someVal(r *rand.Rand) node.Val {
	if r.Intn(3) == 0 {
		return away(pick(r, 65, 66, 255, 256, 257, 4095, 4096, 65+r.Intn(4032)), someKid(r))
	}
	b := make([]byte, pick(r, 0, 0, 1, 2, 3, 63, 64))
	r.Read(b)
	return node.Val{In: b}
}

func someKid(r *rand.Rand) int {
	return pick(r, 2, 3, 255, 256, 257, 4094, 4095, 2+r.Intn(api.MaxSectors-2))
}

// some tells a node that is right.
func some(r *rand.Rand) node.Node {
	for {
		n := node.Node{Leaf: r.Intn(2) == 0, Keys: rising(r, pick(r, 1, 3, 12, 60))}
		for range n.Keys {
			if n.Leaf {
				n.Vals = append(n.Vals, someVal(r))
			} else {
				n.Kids = append(n.Kids, someKid(r))
			}
		}
		if !n.Leaf {
			n.Kids = append(n.Kids, someKid(r))
		}
		if slowRight(n) {
			return n
		}
	}
}
