package graph

import (
	"maps"
	"slices"

	"cobweb/api"
	"cobweb/keys"
	"cobweb/record"
)

// The store's numbers.
const (
	ofNodes = 0
	ofEdges = 1
)

// change is an Op that is being done. All it looks for is looked for ahead of its first write, so that what is refused has changed nothing.
type change struct {
	sight
	op     api.Op
	writes []func() api.Errno
}

// Do does a change in the store's transaction, whole or not at all, and tells the number of what is new.
func (g *Graph) Do(o api.Op) (int, api.Errno) {
	c := &change{sight: g.look(0), op: o}
	if _, e := c.store.Save(); e != api.OK { // a broken transaction has nothing to look at that is whole
		return 0, e
	}
	c.fails = c.breakOff
	deed := c.deed()
	if deed == nil {
		return 0, api.ErrArg
	}
	id, e := deed()
	if e == api.OK {
		e = c.write()
	}
	if e != api.OK {
		return 0, e
	}
	return id, api.OK
}

// deed tells what does a change of the Op's Kind: it looks, notes the writes, and tells the number of what is new; nil: there is none.
func (c *change) deed() func() (int, api.Errno) {
	switch c.op.Kind {
	case api.AddNode:
		return c.addNode
	case api.AddEdge:
		return c.addEdge
	case api.DelNode:
		return c.delNode
	case api.DelEdge:
		return c.delEdge
	case api.SetNode:
		return c.setNode
	case api.SetEdge:
		return c.setEdge
	case api.Label:
		return c.label
	case api.Index:
		return c.index
	}
	return nil
}

// breakOff breaks the transaction where the store could not be looked at: a look alone doesn't, a change there does.
func (c *change) breakOff(name string, key []byte) {
	place, _ := c.store.Save()
	c.store.Del(name, key)
	c.store.Back(place) // nothing stays of it, should it have been done
}

// put and del note a write; write does all that were noted.
func (c *change) put(name string, key, val []byte) {
	c.writes = append(c.writes, func() api.Errno { return c.store.Put(name, key, val) })
}

func (c *change) del(name string, key []byte) {
	c.writes = append(c.writes, func() api.Errno {
		_, e := c.store.Del(name, key)
		return e
	})
}

func (c *change) write() api.Errno {
	for _, w := range c.writes {
		if e := w(); e != api.OK {
			return e
		}
	}
	return api.OK
}

// move notes that keys without bytes go, and that others come.
func (c *change) move(gone, come []spot) {
	for _, s := range gone {
		if !slices.Contains(come, s) {
			c.del(s.name, []byte(s.key))
		}
	}
	for _, s := range come {
		if !slices.Contains(gone, s) {
			c.put(s.name, []byte(s.key), nil)
		}
	}
}

func (c *change) addNode() (int, api.Errno) {
	n := api.Node{Id: 1, Labels: sorted(setOf(c.op.Labels)), Props: c.op.Props} // a number of its own comes last, lest what is refused take one
	b, e := record.PutNode(n)
	if e != api.OK {
		return 0, e
	}
	n.Id = 0
	rules, e := c.asked(n)
	if e != api.OK {
		return 0, e
	}
	if n.Id, e = c.store.Next(ofNodes); e != api.OK {
		return 0, e
	}
	c.put(nodeTree, numberKey(n.Id), b)
	c.move(nil, nodeSpots(n, rules))
	return n.Id, api.OK
}

// sorted tells a set of labels as a node has them.
func sorted(set map[string]struct{}) []string { return slices.Sorted(maps.Keys(set)) }

// asked tells the indexes, where each that is unique lets the node be as it is.
func (c *change) asked(n api.Node) ([]api.Rule, api.Errno) {
	rules, e := c.rules()
	if e != api.OK {
		return nil, e
	}
	for _, x := range entriesOf(n, rules) {
		if !x.Unique {
			continue
		}
		l, e := c.like(x.Label, x.Name, x.v)
		if e != api.OK {
			return nil, e
		}
		if slices.ContainsFunc(l, func(id int) bool { return id != n.Id }) {
			return nil, api.ErrUnique
		}
	}
	return rules, api.OK
}

// named tells what look tells of a number that an Op has.
func named[T any](look func(int) (T, bool, api.Errno), id int) (T, api.Errno) {
	x, there, e := look(id)
	if e == api.OK && !there {
		e = api.ErrNone
	}
	return x, e
}

func (c *change) setNode() (int, api.Errno) {
	was, e := named(c.node, c.op.Id)
	if e != api.OK {
		return 0, e
	}
	will := was
	if will.Props, e = record.Set(was.Props, c.op.Name, c.op.V); e != api.OK {
		return 0, e
	}
	return 0, c.turn(was, will)
}

func (c *change) label() (int, api.Errno) {
	was, e := named(c.node, c.op.Id)
	if e != api.OK {
		return 0, e
	}
	if !record.Name(c.op.Name) {
		return 0, api.ErrArg
	}
	its := setOf(was.Labels)
	if c.op.Flag {
		its[c.op.Name] = struct{}{}
	} else {
		delete(its, c.op.Name)
	}
	if len(its) > api.MaxLabels {
		return 0, api.ErrFull
	}
	will := was
	will.Labels = sorted(its)
	return 0, c.turn(was, will)
}

// turn notes that a node will be another one.
func (c *change) turn(was, will api.Node) api.Errno {
	b, e := record.PutNode(will)
	if e != api.OK {
		return e
	}
	rules, e := c.asked(will)
	if e != api.OK {
		return e
	}
	c.put(nodeTree, numberKey(will.Id), b)
	c.move(nodeSpots(was, rules), nodeSpots(will, rules))
	return api.OK
}

func (c *change) delNode() (int, api.Errno) {
	n, e := named(c.node, c.op.Id)
	if e != api.OK {
		return 0, e
	}
	its, e := c.edgesOf(n.Id)
	if e != api.OK {
		return 0, e
	}
	if len(its) > 0 && !c.op.Flag {
		return 0, api.ErrHeld
	}
	for _, id := range its {
		x, e := kept(c.edge, id)
		if e != api.OK {
			return 0, e
		}
		c.dropEdge(x)
	}
	rules, e := c.rules()
	if e != api.OK {
		return 0, e
	}
	c.del(nodeTree, numberKey(n.Id))
	c.move(nodeSpots(n, rules), nil)
	return 0, api.OK
}

// edgesOf tells a node's edges, one that it has on both sides once.
func (c *change) edgesOf(id int) ([]int, api.Errno) {
	from, e := c.side(outTree, id)
	if e != api.OK {
		return nil, e
	}
	to, e := c.side(inTree, id)
	if e != api.OK {
		return nil, e
	}
	l := append(from, to...)
	slices.Sort(l)
	return slices.Compact(l), api.OK
}

func (c *change) addEdge() (int, api.Errno) {
	for _, id := range []int{c.op.Id, c.op.To} {
		if _, e := named(c.node, id); e != api.OK {
			return 0, e
		}
	}
	x := api.Edge{Id: 1, Type: c.op.Name, From: c.op.Id, To: c.op.To, Props: c.op.Props} // its own number comes last, as a node's
	b, e := record.PutEdge(x)
	if e != api.OK {
		return 0, e
	}
	if x.Id, e = c.store.Next(ofEdges); e != api.OK {
		return 0, e
	}
	c.put(edgeTree, numberKey(x.Id), b)
	c.move(nil, edgeSpots(x))
	return x.Id, api.OK
}

func (c *change) setEdge() (int, api.Errno) {
	x, e := named(c.edge, c.op.Id)
	if e != api.OK {
		return 0, e
	}
	if x.Props, e = record.Set(x.Props, c.op.Name, c.op.V); e != api.OK {
		return 0, e
	}
	b, e := record.PutEdge(x)
	if e != api.OK {
		return 0, e
	}
	c.put(edgeTree, numberKey(x.Id), b)
	return 0, api.OK
}

func (c *change) delEdge() (int, api.Errno) {
	x, e := named(c.edge, c.op.Id)
	if e != api.OK {
		return 0, e
	}
	c.dropEdge(x)
	return 0, api.OK
}

// dropEdge notes that an edge goes.
func (c *change) dropEdge(x api.Edge) {
	c.del(edgeTree, numberKey(x.Id))
	c.move(edgeSpots(x), nil)
}

func (c *change) index() (int, api.Errno) {
	if len(c.op.Labels) != 1 || !record.Name(c.op.Labels[0]) || !record.Name(c.op.Name) {
		return 0, api.ErrArg
	}
	r := api.Rule{Label: c.op.Labels[0], Name: c.op.Name, Unique: c.op.Flag}
	there, e := c.hasRule(r.Label, r.Name)
	if e != api.OK {
		return 0, e
	}
	if there {
		return 0, api.ErrThere
	}
	come, e := c.indexed(r)
	if e != api.OK {
		return 0, e
	}
	c.put(ruleTree, ruleKey(r.Label, r.Name), []byte{unique(r)})
	c.move(nil, come)
	return 0, api.OK
}

func unique(r api.Rule) byte {
	if r.Unique {
		return 1
	}
	return 0
}

// indexed tells where the nodes stand in an index that is new.
func (c *change) indexed(r api.Rule) ([]spot, api.Errno) {
	ids, e := c.labelled(r.Label)
	if e != api.OK {
		return nil, e
	}
	var l []spot
	values := map[string]struct{}{} // by their bytes, which are one value's alone
	for _, id := range ids {
		n, e := kept(c.node, id)
		if e != api.OK {
			return nil, e
		}
		for _, x := range entriesOf(n, []api.Rule{r}) {
			b := string(keys.Put(nil, x.v))
			if _, twice := values[b]; twice && r.Unique {
				return nil, api.ErrUnique
			}
			values[b] = struct{}{}
			l = append(l, x.spot(id))
		}
	}
	return l, api.OK
}
