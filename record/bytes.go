package record

import (
	"cobweb/api"
	"cobweb/keys"
	"cobweb/order"
)

// PutNode and PutEdge tell a node's, an edge's bytes, without its number; ReadNode and ReadEdge read them.
func PutNode(n api.Node) ([]byte, api.Errno) {
	if !NodeRight(n) {
		return nil, api.ErrArg
	}
	b := []byte{byte(len(n.Labels))}
	for _, s := range n.Labels {
		b = append(b, order.PutText(nil, s)...)
	}
	return fit(appendPut(b, n.Props))
}

func PutEdge(e api.Edge) ([]byte, api.Errno) {
	if !EdgeRight(e) {
		return nil, api.ErrArg
	}
	b := order.PutInt(order.PutInt(order.PutText(nil, e.Type), e.From), e.To)
	return fit(appendPut(b, e.Props))
}

// appendPut puts properties behind bytes, in their memory.
func appendPut(b []byte, l []api.Prop) []byte {
	b = append(b, byte(len(l)))
	for _, p := range l {
		b = append(b, order.PutText(nil, p.Name)...)
		b = append(b, keys.Put(nil, p.V)...)
	}
	return b
}

// fit tells bytes that a tree's value can be.
func fit(b []byte) ([]byte, api.Errno) {
	if len(b) > api.MaxValue {
		return nil, api.ErrBig
	}
	return b, api.OK
}

// What is read has one form, so what is right and leaves no bytes is what was put.

func ReadNode(b []byte, id int) (api.Node, api.Errno) {
	r := reader{rest: b, wrong: len(b) > api.MaxValue}
	n := api.Node{Id: id}
	for range r.count(api.MaxLabels) {
		n.Labels = append(n.Labels, r.text())
	}
	n.Props = r.props()
	if !r.done() || !NodeRight(n) {
		return api.Node{}, api.ErrForm
	}
	return n, api.OK
}

func ReadEdge(b []byte, id int) (api.Edge, api.Errno) {
	r := reader{rest: b, wrong: len(b) > api.MaxValue}
	e := api.Edge{Id: id, Type: r.text(), From: r.number(), To: r.number()}
	e.Props = r.props()
	if !r.done() || !EdgeRight(e) {
		return api.Edge{}, api.ErrForm
	}
	return e, api.OK
}

// reader reads what is left of a record's bytes; once they are wrong, it reads zero values.
type reader struct {
	rest  []byte
	wrong bool
}

// done tells whether all bytes are read, and none was wrong.
func (r *reader) done() bool { return !r.wrong && len(r.rest) == 0 }

// count reads how many things follow.
func (r *reader) count(most int) int {
	if r.wrong || len(r.rest) == 0 || int(r.rest[0]) > most {
		r.wrong = true
		return 0
	}
	n := int(r.rest[0])
	r.rest = r.rest[1:]
	return n
}

func (r *reader) text() string     { return next(r, order.ReadText) }
func (r *reader) number() int      { return next(r, order.ReadInt) }
func (r *reader) value() api.Value { return next(r, keys.Read) }

func (r *reader) props() []api.Prop {
	var l []api.Prop
	for range r.count(api.MaxProps) {
		l = append(l, api.Prop{Name: r.text(), V: r.value()})
	}
	return l
}

// next reads a thing that the bytes begin with.
func next[T any](r *reader, read func([]byte) (T, int, api.Errno)) T {
	var none T
	if r.wrong {
		return none
	}
	x, used, e := read(r.rest)
	if e != api.OK {
		r.wrong = true
		return none
	}
	r.rest = r.rest[used:]
	return x
}
