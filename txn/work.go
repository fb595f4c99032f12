package txn

import (
	"slices"

	"cobweb/api"
	"cobweb/pager"
	"cobweb/tree"
)

const (
	kinds     = 2 // of numbers: nodes' and edges'
	maxNumber = 1 << 60
)

// work is what a transaction has done.
type work struct {
	pager   *pager.Pager
	root    int
	numbers [kinds]int         // the next ones
	backs   []func() api.Errno // how each Put and Del is done back
	broken  bool               // a Put or a Del of a tree failed: no one may build on what it left
}

// entry is what a key has: a value, or nothing.
type entry struct {
	val   []byte
	there bool
}

// change gives a key what it shall have, notes how that is done back, and tells whether the key was there.
func (w *work) change(key []byte, next entry) (bool, api.Errno) {
	val, there, e := tree.Get(w.pager, w.root, key)
	if e != api.OK {
		w.broken = true
		return false, e
	}
	if e := w.set(key, next); e != api.OK {
		return false, e
	}
	was := entry{val, there}
	w.backs = append(w.backs, func() api.Errno { return w.set(key, was) })
	return there, api.OK
}

// set gives a key what it shall have.
func (w *work) set(key []byte, next entry) api.Errno {
	root, e := 0, api.OK
	if next.there {
		root, e = tree.Put(w.pager, w.root, key, next.val)
	} else {
		root, _, e = tree.Del(w.pager, w.root, key)
	}
	if e != api.OK {
		w.broken = true
		return e
	}
	w.root = root
	return api.OK
}

// back does all behind a place back, the last first.
func (w *work) back(place int) api.Errno {
	for i := len(w.backs) - 1; i >= place; i-- {
		if e := w.backs[i](); e != api.OK {
			return e
		}
		w.backs = slices.Delete(w.backs, i, i+1)
	}
	return api.OK
}
