package record_test

import (
	"bytes"
	"encoding/binary"
	"encoding/hex"
	"slices"
	"strings"
	"testing"

	"cobweb/api"
	"cobweb/keys"
	"cobweb/record"
	"cobweb/value"
)

// unhex tells the bytes of digits that may have blanks between them.
func unhex(t *testing.T, s string) []byte {
	t.Helper()
	b, err := hex.DecodeString(strings.ReplaceAll(s, " ", ""))
	if err != nil {
		t.Fatal(err)
	}
	return b
}

// A slow reading of the chapter: names have no bytes 0, so a name's bytes are itself and its end.

func slowName(s string) string { return s + "\x00\x01" }

func slowInt(n int) string {
	return string(binary.BigEndian.AppendUint64(nil, uint64(n)+1<<63))
}

func slowProps(l []api.Prop) string {
	s := string([]byte{byte(len(l))})
	for _, p := range l {
		s += slowName(p.Name) + string(keys.Put(nil, p.V))
	}
	return s
}

func slowNode(n api.Node) string {
	s := string([]byte{byte(len(n.Labels))})
	for _, l := range n.Labels {
		s += slowName(l)
	}
	return s + slowProps(n.Props)
}

func slowEdge(e api.Edge) string {
	return slowName(e.Type) + slowInt(e.From) + slowInt(e.To) + slowProps(e.Props)
}

// readName and readProps read what bytes begin with, if it could be that.
func readName(s string) (name, rest string, ok bool) {
	return strings.Cut(s, "\x00\x01")
}

func readProps(s string) (l []api.Prop, rest string, ok bool) {
	if s == "" {
		return nil, "", false
	}
	n, s := int(s[0]), s[1:]
	for range n {
		var name string
		if name, s, ok = readName(s); !ok {
			return nil, "", false
		}
		v, used, e := keys.Read([]byte(s))
		if e != api.OK {
			return nil, "", false
		}
		l, s = append(l, prop(name, v)), s[used:]
	}
	return l, s, true
}

// slowReadNode tells the right node of such bytes: of all that could be one, that which has just these.
func slowReadNode(b string, id int) (n api.Node, ok bool) {
	if b == "" || len(b) > 4096 {
		return api.Node{}, false
	}
	n.Id = id
	rest := b[1:]
	for range int(b[0]) {
		var s string
		if s, rest, ok = readName(rest); !ok {
			return api.Node{}, false
		}
		n.Labels = append(n.Labels, s)
	}
	n.Props, _, ok = readProps(rest)
	if !ok || !record.NodeRight(n) || slowNode(n) != b {
		return api.Node{}, false
	}
	return n, true
}

func slowReadEdge(b string, id int) (e api.Edge, ok bool) {
	s, rest, ok := readName(b)
	if !ok || len(rest) < 16 || len(b) > 4096 {
		return api.Edge{}, false
	}
	number := func(at int) int { return int(binary.BigEndian.Uint64([]byte(rest[at:])) - 1<<63) }
	e = api.Edge{Id: id, Type: s, From: number(0), To: number(8)}
	e.Props, _, ok = readProps(rest[16:])
	if !ok || !record.EdgeRight(e) || slowEdge(e) != b {
		return api.Edge{}, false
	}
	return e, true
}

// checkNode and checkEdge hold what is read of bytes against the slow reading, and put it again.
func checkNode(t *testing.T, b string, id int) bool {
	t.Helper()
	want, ok := slowReadNode(b, id)
	wantE := api.OK
	if !ok {
		wantE = api.ErrForm
	}
	got, e := record.ReadNode([]byte(b), id)
	if e != wantE || tellNode(got) != tellNode(want) {
		t.Errorf("ReadNode(% x, %d) = %s, %d, not %s, %d", short(b), id, short(tellNode(got)), e, short(tellNode(want)), wantE)
	}
	if back, e := record.PutNode(got); ok && (e != api.OK || string(back) != b) {
		t.Errorf("PutNode of what % x is = % x, %d", short(b), short(string(back)), e)
	}
	return ok
}

func checkEdge(t *testing.T, b string, id int) bool {
	t.Helper()
	want, ok := slowReadEdge(b, id)
	wantE := api.OK
	if !ok {
		wantE = api.ErrForm
	}
	got, e := record.ReadEdge([]byte(b), id)
	if e != wantE || tellEdge(got) != tellEdge(want) {
		t.Errorf("ReadEdge(% x, %d) = %s, %d, not %s, %d", short(b), id, short(tellEdge(got)), e, short(tellEdge(want)), wantE)
	}
	if back, e := record.PutEdge(got); ok && (e != api.OK || string(back) != b) {
		t.Errorf("PutEdge of what % x is = % x, %d", short(b), short(string(back)), e)
	}
	return ok
}

// sized tells properties whose bytes, with how many there are, are so many.
func sized(n int) []api.Prop {
	var l []api.Prop
	left := n - 1
	for i := 0; left > 0; i++ {
		body := min(left-6, 256) // a name of one byte and its end, a mark, and the end of the bytes
		if left-6-body > 0 && left-6-body < 6 {
			body -= 6
		}
		l = append(l, prop(string(rune('a'+i)), blob(body)))
		left -= 6 + body
	}
	return l
}

// great tells properties of so many bytes above 4000: lists stand ahead of the rest.
func great(n int) []api.Prop {
	texts := list(slices.Repeat([]api.Atom{value.OfText(as(250)).Atom}, 10)...)
	return append([]api.Prop{prop("A", texts)}, sized(n-(3+2+10*253))...)
}

func nodes() []api.Node {
	all := []api.Node{
		{Id: 1}, {Id: 1, Labels: []string{"A"}}, {Id: 1, Labels: []string{"A", "B"}}, {Id: 1, Labels: []string{"AB"}}, {Id: 1, Labels: []string{"a"}}, {Id: 1, Labels: names(8)}, {Id: 1, Labels: []string{as(16)}},
		{Id: 1, Props: props("a")}, {Id: 1, Props: props("a", "b")}, {Id: 1, Props: props(names(16)...)}, {Id: 1, Labels: names(8), Props: props(names(16)...)}, {Id: 1, Labels: []string{"A"}, Props: props(as(16))}, {Id: 1, Labels: []string{"A", "B"}, Props: props("A", "B")},
		{Id: 1, Props: great(4094)}, {Id: 1, Props: great(4095)}, {Id: 1, Labels: []string{"A"}, Props: great(4092)},
	}
	for _, v := range rightValues() {
		all = append(all, api.Node{Id: 1, Props: []api.Prop{prop("a", v)}}, api.Node{Id: 1, Labels: []string{"L"}, Props: []api.Prop{prop("a", v), prop("b", ints(1))}})
	}
	return all
}

func edges() []api.Edge {
	all := []api.Edge{
		{Id: 1, Type: "T", From: 1, To: 1}, {Id: 1, Type: "T", From: 1, To: 2}, {Id: 1, Type: "T", From: 2, To: 1}, {Id: 1, Type: "T", From: maxInt, To: 1 << 32}, {Id: 1, Type: "_", From: 1, To: 1}, {Id: 1, Type: as(16), From: 255, To: 256}, {Id: 1, Type: "TT", From: 1, To: 1},
		{Id: 1, Type: "T", From: 1, To: 1, Props: props("T")}, {Id: 1, Type: "T", From: 1, To: 1, Props: props(names(16)...)},
		{Id: 1, Type: "T", From: 1, To: 1, Props: great(4076)}, {Id: 1, Type: "T", From: 1, To: 1, Props: great(4077)},
	}
	for _, v := range rightValues() {
		all = append(all, api.Edge{Id: 1, Type: "T", From: 3, To: 4, Props: []api.Prop{prop("w", v)}}, api.Edge{Id: 1, Type: "T", From: 3, To: 4, Props: []api.Prop{prop("a", v), prop("b", ints(1))}})
	}
	return all
}

// P5.2

func TestPutNode(t *testing.T) {
	for _, c := range []struct {
		n    api.Node
		want string
	}{
		{api.Node{Id: 1}, "00 00"}, {api.Node{Id: maxInt}, "00 00"}, {api.Node{Id: 1, Labels: []string{}, Props: []api.Prop{}}, "00 00"},
		{api.Node{Id: 1, Labels: []string{"A"}}, "01 410001 00"}, {api.Node{Id: 7, Labels: []string{"A", "b_1"}}, "02 410001 625f310001 00"},
		{api.Node{Id: 1, Props: props("k")}, "00 01 6b0001 20bff00000000000000000 00"}, {api.Node{Id: 1, Props: []api.Prop{prop("a", yes), prop("bc", value.OfText("x\x00"))}}, "00 02 610001 11 62630001 307800ff0001"},
		{api.Node{Id: 1, Labels: []string{"A"}, Props: []api.Prop{prop("a", list(api.Atom{}, yes.Atom)), prop("b", blob(1)), prop("c", value.OfReal(1)), prop("d", value.OfBool(false)), prop("e", list())}},
			"01 410001 05 610001 40051100 620001 31610001 630001 20bff00000000000000000 01 640001 10 650001 4000"},
		{api.Node{Id: 1, Labels: names(8)}, "08 610001 620001 630001 640001 650001 660001 670001 680001 00"},
	} {
		want := unhex(t, c.want)
		if got, e := record.PutNode(c.n); e != api.OK || !bytes.Equal(got, want) {
			t.Errorf("PutNode(%s) = % x, %d, not %s", tellNode(c.n), got, e, c.want)
		}
	}
	for _, n := range nodes() {
		if got, e := record.PutNode(n); e != api.OK || string(got) != slowNode(n) {
			t.Errorf("PutNode(%s) = % x, %d", short(tellNode(n)), short(string(got)), e)
		}
	}
}

func TestPutEdge(t *testing.T) {
	for _, c := range []struct {
		x    api.Edge
		want string
	}{
		{api.Edge{Id: 1, Type: "T", From: 1, To: 2}, "540001 8000000000000001 8000000000000002 00"}, {api.Edge{Id: 9, Type: "a_1", From: 258, To: maxInt}, "615f310001 8000000000000102 ffffffffffffffff 00"},
		{api.Edge{Id: 1, Type: "T", From: 3, To: 4, Props: []api.Prop{prop("a", yes), prop("w", value.OfInt(5))}}, "540001 8000000000000003 8000000000000004 02 610001 11 770001 20c014000000000000 0000 00"},
	} {
		want := unhex(t, c.want)
		if got, e := record.PutEdge(c.x); e != api.OK || !bytes.Equal(got, want) {
			t.Errorf("PutEdge(%s) = % x, %d, not %s", tellEdge(c.x), got, e, c.want)
		}
	}
	for _, x := range edges() {
		if got, e := record.PutEdge(x); e != api.OK || string(got) != slowEdge(x) {
			t.Errorf("PutEdge(%s) = % x, %d", short(tellEdge(x)), short(string(got)), e)
		}
	}
}

// wrongNodes and wrongEdges tell what is not right, some of it of too many bytes, too.
func wrongNodes() []api.Node {
	all := []api.Node{{}, {Id: -1}, {Id: minInt}, {Id: 0, Labels: []string{"A"}}, {Id: 0, Props: great(4097)}, {Id: 1, Labels: []string{"B", "A"}, Props: great(4097)}, {Id: 1, Labels: names(9)}, {Id: 1, Labels: names(26)}, {Id: 1, Labels: slices.Repeat([]string{"A"}, 256)}, {Id: 1, Labels: slices.Repeat([]string{as(16)}, 300)}}
	for _, c := range labels {
		if !c.want {
			all = append(all, api.Node{Id: 1, Labels: c.l})
		}
	}
	for _, l := range wrongProps() {
		all = append(all, api.Node{Id: 1, Props: l}, api.Node{Id: 1, Labels: []string{"A"}, Props: l})
	}
	return all
}

func wrongEdges() []api.Edge {
	all := []api.Edge{{}, {Id: 1}, {Id: 0, Type: "T", From: 1, To: 1}, {Id: 1, Type: "T", From: 0, To: 1}, {Id: 1, Type: "T", From: 1, To: 0}, {Id: 1, Type: "T", From: minInt, To: 1}, {Id: 1, Type: "T", From: 1, To: -1}, {Id: 1, Type: "", From: 1, To: 1}, {Id: 1, Type: "1", From: 1, To: 1}, {Id: 1, Type: as(17), From: 1, To: 1}, {Id: 1, Type: "", From: 1, To: 1, Props: great(4097)}, {Id: 1, Type: as(5000), From: 1, To: 1}}
	for _, l := range wrongProps() {
		all = append(all, api.Edge{Id: 1, Type: "T", From: 1, To: 1, Props: l})
	}
	return all
}

func wrongProps() [][]api.Prop {
	all := [][]api.Prop{{prop("", yes)}, append([]api.Prop{prop("a", yes)}, great(4097)...), slices.Repeat(props("a"), 256)}
	for s, right := range propsCases() {
		if !right {
			all = append(all, props(strings.Fields(s)...))
		}
	}
	for _, v := range wrongValues() {
		all = append(all, []api.Prop{prop("a", v)}, []api.Prop{prop("a", yes), prop("b", v)})
	}
	return all
}

func TestPutWrong(t *testing.T) {
	for _, n := range wrongNodes() {
		if b, e := record.PutNode(n); e != api.ErrArg || len(b) != 0 {
			t.Errorf("PutNode(%s) = % x, %d", short(tellNode(n)), b, e)
		}
	}
	for _, x := range wrongEdges() {
		if b, e := record.PutEdge(x); e != api.ErrArg || len(b) != 0 {
			t.Errorf("PutEdge(%s) = % x, %d", short(tellEdge(x)), b, e)
		}
	}
}

// Of MaxValue bytes at most; the byte that is one too many is no more read than put.
func TestBig(t *testing.T) {
	for n := 4050; n < 4150; n++ {
		node := api.Node{Id: 1, Labels: []string{"A"}, Props: great(n - 4)}
		edge := api.Edge{Id: 1, Type: "T", From: 1, To: 1, Props: great(n - 19)}
		bn, be := slowNode(node), slowEdge(edge)
		if len(bn) != n || len(be) != n || !record.NodeRight(node) || !record.EdgeRight(edge) {
			t.Fatalf("the test's own sizes: %d, %d, not %d", len(bn), len(be), n)
		}
		putE, readE := api.OK, api.OK
		if n > 4096 {
			putE, readE, bn, be = api.ErrBig, api.ErrForm, "", ""
		}
		if b, e := record.PutNode(node); e != putE || string(b) != bn {
			t.Errorf("PutNode of %d bytes: %d bytes, %d", n, len(b), e)
		}
		if b, e := record.PutEdge(edge); e != putE || string(b) != be {
			t.Errorf("PutEdge of %d bytes: %d bytes, %d", n, len(b), e)
		}
		if got, e := record.ReadNode([]byte(slowNode(node)), 1); e != readE || e != api.OK && tellNode(got) != tellNode(api.Node{}) {
			t.Errorf("ReadNode of %d bytes: %d", n, e)
		}
		if got, e := record.ReadEdge([]byte(slowEdge(edge)), 1); e != readE || e != api.OK && tellEdge(got) != tellEdge(api.Edge{}) {
			t.Errorf("ReadEdge of %d bytes: %d", n, e)
		}
	}
	most := slices.Repeat([]api.Atom{value.OfText(as(256)).Atom}, 16)
	if b, e := record.PutNode(api.Node{Id: 1, Props: []api.Prop{prop("a", list(most...))}}); e != api.ErrBig || len(b) != 0 {
		t.Errorf("PutNode of a list of 16 texts of 256 bytes: %d bytes, %d", len(b), e)
	}
}

// P5.3

// badNodes and badEdges tell bytes that are of no right node, no right edge.
var badNodes = []string{
	"", "00", "01", "0000 00", "0000 01", "01 00", "01 41 00", "01 4100 00", "01 410001", "01 410001 00 00", "01 410002 00", "01 4100ff0001 00", "01 0001 00", "01 300001 00", "01 41200001 00",
	"02 410001 00", "02 410001 410001 00", "02 420001 410001 00", "02 410001 0001 00", "02 0001 410001 00", "02 410001 41410001 00 00", "ff 410001 00", "80",
	"09 610001 620001 630001 640001 650001 660001 670001 680001 690001 00",
	"01 61616161616161616161616161616161610001 00",
	"00 01", "00 01 00", "00 01 610001", "00 01 610001 05", "00 01 610001 1100", "00 01 610001 12", "00 01 0001 11", "00 01 310001 11", "00 01 6100ff0001 11", "00 01 610002 11",
	"00 02 610001 11", "00 02 610001 11 610001 11", "00 02 620001 11 610001 11", "00 02 610001 05 620001 11", "00 02 610001 11 620001 05", "00 00 610001 11", "00 01 610001 11 620001 11",
	"00 01 610001 20bff0000000000000 0000 02", "00 01 610001 20bff0000000000000 0001 00", "00 01 610001 20bff0000000000000 0000", "00 01 610001 20bfe0000000000000 0000 00", "00 01 610001 207fffffffffffffff 0000 01",
	"00 01 610001 40", "00 01 610001 400500 00", "00 01 610001 404000 00", "00 01 610001 40 05050505050505050505050505050505 05 00", "00 01 610001 3061", "00 01 610001 306100", "00 01 610001 30610002",
	"00 01 61616161616161616161616161616161610001 11", "00 ff 610001 11",
}

var badEdges = []string{
	"", "54", "5400", "540001", "540001 80000000000000", "540001 8000000000000001", "540001 8000000000000001 80000000000000", "540001 8000000000000001 8000000000000002", "540001 8000000000000001 8000000000000002 00 00",
	"0001 8000000000000001 8000000000000002 00", "310001 8000000000000001 8000000000000002 00", "540002 8000000000000001 8000000000000002 00", "5400ff0001 8000000000000001 8000000000000002 00", "54200001 8000000000000001 8000000000000002 00",
	"540001 8000000000000000 8000000000000002 00", "540001 8000000000000001 8000000000000000 00", "540001 7fffffffffffffff 8000000000000002 00", "540001 8000000000000001 0000000000000000 00",
	"61616161616161616161616161616161610001 8000000000000001 8000000000000002 00",
	"540001 8000000000000001 8000000000000002 01", "540001 8000000000000001 8000000000000002 01 610001", "540001 8000000000000001 8000000000000002 01 610001 05", "540001 8000000000000001 8000000000000002 01 610001 1100",
	"540001 8000000000000001 8000000000000002 02 610001 11 610001 11", "540001 8000000000000001 8000000000000002 02 620001 11 610001 11", "540001 8000000000000001 8000000000000002 01 0001 11", "540001 8000000000000001 8000000000000002 ff",
}

func TestReadWrong(t *testing.T) {
	for _, s := range badNodes {
		b := unhex(t, s)
		if n, e := record.ReadNode(b, 1); e != api.ErrForm || tellNode(n) != tellNode(api.Node{}) {
			t.Errorf("ReadNode(%s) = %s, %d", s, tellNode(n), e)
		}
		checkNode(t, string(b), 1)
	}
	for _, s := range badEdges {
		b := unhex(t, s)
		if x, e := record.ReadEdge(b, 1); e != api.ErrForm || tellEdge(x) != tellEdge(api.Edge{}) {
			t.Errorf("ReadEdge(%s) = %s, %d", s, tellEdge(x), e)
		}
		checkEdge(t, string(b), 1)
	}
	if n, e := record.ReadNode(nil, 1); e != api.ErrForm || tellNode(n) != tellNode(api.Node{}) {
		t.Errorf("ReadNode of nothing = %s, %d", tellNode(n), e)
	}
	if x, e := record.ReadEdge(nil, 1); e != api.ErrForm || tellEdge(x) != tellEdge(api.Edge{}) {
		t.Errorf("ReadEdge of nothing = %s, %d", tellEdge(x), e)
	}
}

// Bytes that would be those of what is not right are not read.
func TestReadNotRight(t *testing.T) {
	for _, n := range wrongNodes() {
		if got, e := record.ReadNode([]byte(slowNode(n)), n.Id); len(n.Labels) < 256 && len(n.Props) < 256 && (e != api.ErrForm || tellNode(got) != tellNode(api.Node{})) {
			t.Errorf("ReadNode of the bytes of %s = %s, %d", short(tellNode(n)), short(tellNode(got)), e)
		}
		checkNode(t, slowNode(n), n.Id)
	}
	for _, x := range wrongEdges() {
		if got, e := record.ReadEdge([]byte(slowEdge(x)), x.Id); len(x.Props) < 256 && (e != api.ErrForm || tellEdge(got) != tellEdge(api.Edge{})) {
			t.Errorf("ReadEdge of the bytes of %s = %s, %d", short(tellEdge(x)), short(tellEdge(got)), e)
		}
		checkEdge(t, slowEdge(x), x.Id)
	}
}

func TestReadIds(t *testing.T) {
	node, edge := unhex(t, "01 410001 00"), unhex(t, "540001 8000000000000001 8000000000000002 00")
	for _, id := range []int{1, 2, 1 << 32, maxInt, 0, -1, minInt} {
		want, wantN, wantX := api.OK, api.Node{Id: id, Labels: []string{"A"}}, api.Edge{Id: id, Type: "T", From: 1, To: 2}
		if id < 1 {
			want, wantN, wantX = api.ErrForm, api.Node{}, api.Edge{}
		}
		if n, e := record.ReadNode(node, id); e != want || tellNode(n) != tellNode(wantN) {
			t.Errorf("ReadNode of the Id %d = %s, %d", id, tellNode(n), e)
		}
		if x, e := record.ReadEdge(edge, id); e != want || tellEdge(x) != tellEdge(wantX) {
			t.Errorf("ReadEdge of the Id %d = %s, %d", id, tellEdge(x), e)
		}
	}
}

// changed hands on bytes that are cut, longer, or others in one place.
func changed(b string, to func(string)) {
	for i := range len(b) {
		to(b[:i])
	}
	for c := range 256 {
		to(b + string([]byte{byte(c)}))
	}
	step := len(b)/64 + 1
	for i := 0; i < len(b); i += step {
		for _, c := range []byte{0, 1, 2, 8, 9, 0x05, 0x10, 0x11, 0x12, 0x20, 0x30, 0x31, 0x40, 'a', 'b', 0x7f, 0x80, 0xff, b[i] + 1, b[i] - 1} {
			to(b[:i] + string([]byte{c}) + b[i+1:])
		}
		to(b[:i] + b[i+1:])
		to(b[:i] + "\x00" + b[i:])
		to(b[:i] + b[i:i+1] + b[i:])
	}
}

func TestReadChanged(t *testing.T) {
	right := 0
	for _, n := range nodes() {
		changed(slowNode(n), func(b string) {
			if checkNode(t, b, n.Id) {
				right++
			}
		})
	}
	for _, x := range edges() {
		changed(slowEdge(x), func(b string) {
			if checkEdge(t, b, x.Id) {
				right++
			}
		})
	}
	if right < 1000 {
		t.Errorf("only %d of the changed bytes are right", right)
	}
}

// All short bytes of those that tell something.
func TestReadShort(t *testing.T) {
	for _, of := range []string{"\x00\x01\x02A\x11", "\x00\x01\x05a\xff", "\x00\x01\x40b\x10"} {
		all := []string{""}
		for from := 0; len(all[from]) < 7; from++ {
			for i := range len(of) {
				all = append(all, all[from]+of[i:i+1])
			}
		}
		for _, b := range all {
			checkNode(t, b, 3)
			checkEdge(t, "T\x00\x01"+slowInt(1)+slowInt(2)+b, 3)
		}
	}
}

// P5.5

func TestPutRead(t *testing.T) {
	seen := map[string]string{}
	once := func(b []byte, what string) {
		if other, ok := seen[string(b)]; ok {
			t.Errorf("%s and %s have the same bytes", short(what), short(other))
		}
		seen[string(b)] = what
	}
	for _, n := range nodes() {
		b, e := record.PutNode(n)
		if e != api.OK {
			t.Fatalf("PutNode(%s): %d", short(tellNode(n)), e)
		}
		once(b, tellNode(n))
		n.Id = 77
		if got, e := record.ReadNode(b, 77); e != api.OK || tellNode(got) != tellNode(n) {
			t.Errorf("%s is read as %s, %d", short(tellNode(n)), short(tellNode(got)), e)
		}
	}
	clear(seen)
	for _, x := range edges() {
		b, e := record.PutEdge(x)
		if e != api.OK {
			t.Fatalf("PutEdge(%s): %d", short(tellEdge(x)), e)
		}
		once(b, tellEdge(x))
		x.Id = 77
		if got, e := record.ReadEdge(b, 77); e != api.OK || tellEdge(got) != tellEdge(x) {
			t.Errorf("%s is read as %s, %d", short(tellEdge(x)), short(tellEdge(got)), e)
		}
	}
}

// Rule 4: what is handed in isn't changed, and what is handed out is new memory.

func TestPutNew(t *testing.T) {
	l := append(props("a", "b"), props("y", "z")...)
	room := append(ints(1, 2).L, yes.Atom)
	l[0].V = list(room[:2]...)
	l[0].V.L = room[:2]
	marks := []string{"A", "B", "Z"}
	n, x := api.Node{Id: 1, Labels: marks[:2], Props: l[:2]}, api.Edge{Id: 1, Type: "T", From: 1, To: 2, Props: l[:2]}
	ahead := tellNode(n) + tellEdge(x)
	for range 2 {
		bn, _ := record.PutNode(n)
		be, _ := record.PutEdge(x)
		if string(bn) != slowNode(n) || string(be) != slowEdge(x) {
			t.Fatalf("% x, % x", bn, be)
		}
		clear(bn[:cap(bn)])
		clear(be[:cap(be)])
	}
	if tellNode(n)+tellEdge(x) != ahead || marks[2] != "Z" || l[2].Name != "y" || room[2] != yes.Atom {
		t.Error("what was handed in is changed")
	}
}

func TestReadNew(t *testing.T) {
	n := api.Node{Id: 1, Labels: []string{"A", "B"}, Props: []api.Prop{prop("a", ints(1, 2)), prop("b", list(value.OfText("x").Atom)), prop("c", list(yes.Atom, yes.Atom))}}
	x := api.Edge{Id: 1, Type: "T", From: 1, To: 2, Props: n.Props}
	room := append([]byte(slowNode(n)), slowEdge(x)...)
	bn, be := room[:len(slowNode(n))], room[len(slowNode(n)):]
	gotN, _ := record.ReadNode(bn, 1)
	gotX, _ := record.ReadEdge(be, 1)
	if string(room) != slowNode(n)+slowEdge(x) {
		t.Error("what was handed in is changed")
	}
	for i := range room {
		room[i] = 0x7f
	}
	for _, l := range [][]api.Prop{gotN.Props, gotX.Props} {
		for i := range l {
			_ = append(l[i].V.L, api.Atom{Kind: 9}, api.Atom{Kind: 9})
		}
		_ = append(l, prop("x", yes))
	}
	_ = append(gotN.Labels, "Z")
	if tellNode(gotN) != tellNode(n) || tellEdge(gotX) != tellEdge(x) {
		t.Errorf("what was read is changed: %s, %s", tellNode(gotN), tellEdge(gotX))
	}
}
