package node

// rest is what was not read yet of a page's bytes, which nobody else has. What is missing at its end is told as zeros, or as fewer bytes.
type rest struct{ b []byte }

// part tells the next bytes, without spare room: what follows them is another part's.
func (r *rest) part(size int) []byte {
	size = min(size, len(r.b))
	part := r.b[:size:size]
	r.b = r.b[size:]
	return part
}

// number reads one of so many bytes, the lowest first.
func (r *rest) number(wide int) int {
	n := 0
	for i, c := range r.part(wide) {
		n |= int(c) << (8 * i)
	}
	return n
}

func (r *rest) text() []byte { return r.part(r.number(oneByte)) }

func (r *rest) val() Val {
	size := r.number(oneByte)
	if size != longMark {
		return Val{In: r.part(size)}
	}
	long := r.number(twoBytes)
	return Val{Long: long, Page: r.number(twoBytes)}
}

func (r *rest) leaf() Node {
	keys := r.number(oneByte)
	n := Node{Leaf: true, Keys: make([][]byte, 0, keys), Vals: make([]Val, 0, keys)}
	for len(n.Keys) < keys && len(r.b) > 0 {
		n.Keys = append(n.Keys, r.text())
		n.Vals = append(n.Vals, r.val())
	}
	return n
}

func (r *rest) branch() Node {
	keys := r.number(oneByte)
	n := Node{Keys: make([][]byte, 0, keys), Kids: make([]int, 0, 1+keys)}
	n.Kids = append(n.Kids, r.number(twoBytes))
	for len(n.Keys) < keys && len(r.b) > 0 {
		n.Keys = append(n.Keys, r.text())
		n.Kids = append(n.Kids, r.number(twoBytes))
	}
	return n
}
