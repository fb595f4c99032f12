package audit

import (
	"slices"

	"cobweb/api"
	"cobweb/keys"
	"cobweb/order"
	"cobweb/tree"
)

const maxCut = 24 // bytes of a value in a key of an index

// just tells whether a tree has just the keys that keysOf asks of each record, rising and without bytes.
func just[T any](l []tree.Pair, records []T, keysOf func(T) [][]byte) bool {
	var must [][]byte
	for _, x := range records {
		must = append(must, keysOf(x)...)
	}
	slices.SortFunc(must, order.Compare)
	return slices.EqualFunc(l, must, func(p tree.Pair, key []byte) bool {
		return len(p.Val) == 0 && order.Compare(p.Key, key) == 0
	})
}

// sideKey tells the key of an edge as one of its nodes, the near one, has it.
func sideKey(near int, kind string, far, id int) []byte {
	return order.PutInt(order.PutInt(order.PutText(order.PutInt(nil, near), kind), far), id)
}

func labelKeys(n api.Node) [][]byte {
	var l [][]byte
	for _, s := range n.Labels {
		l = append(l, order.PutInt(order.PutText(nil, s), n.Id))
	}
	return l
}

func propKeys(n api.Node, rules map[index]byte) [][]byte {
	var l [][]byte
	for _, x := range entriesOf(n, rules) {
		key := order.PutText(order.PutText(nil, x.label), x.name)
		b := keys.Put(nil, x.v)
		key = append(key, b[:min(len(b), maxCut)]...)
		l = append(l, order.PutInt(key, n.Id))
	}
	return l
}
