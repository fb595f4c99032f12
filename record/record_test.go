package record_test

import (
	"fmt"
	"math"
	"slices"
	"strings"
	"testing"

	"cobweb/api"
	"cobweb/record"
	"cobweb/value"
)

const (
	maxInt = math.MaxInt
	minInt = math.MinInt
)

var (
	null = api.Value{}
	yes  = value.OfBool(true)
	nan  = value.OfReal(math.NaN())
)

func as(n int) string              { return strings.Repeat("a", n) }
func blob(n int) api.Value         { return api.Value{Atom: api.Atom{Kind: api.Bytes, S: as(n)}} }
func list(l ...api.Atom) api.Value { return api.Value{Atom: api.Atom{Kind: api.List}, L: l} }
func ints(l ...int) api.Value {
	v := list()
	for _, n := range l {
		v.L = append(v.L, api.Atom{Kind: api.Int, N: n})
	}
	return v
}

// prop tells a property, props some of the names, with the value 1 each.
func prop(name string, v api.Value) api.Prop { return api.Prop{Name: name, V: v} }
func props(names ...string) []api.Prop {
	var l []api.Prop
	for _, s := range names {
		l = append(l, prop(s, value.OfInt(1)))
	}
	return l
}

// names tells so many names, rising.
func names(n int) []string {
	var l []string
	for i := range n {
		l = append(l, string(rune('a'+i)))
	}
	return l
}

// Floats are told apart bit by bit, and texts with their marks; nil and empty lists are alike.
func tellAtom(a api.Atom) string {
	return fmt.Sprintf("%d %d %x %q", a.Kind, a.N, math.Float64bits(a.F), a.S)
}

func tellValue(v api.Value) string {
	s := tellAtom(v.Atom)
	for _, a := range v.L {
		s += "; " + tellAtom(a)
	}
	return "(" + s + ")"
}

func tellProps(l []api.Prop) string {
	s := ""
	for _, p := range l {
		s += fmt.Sprintf("%q=%s ", p.Name, tellValue(p.V))
	}
	return s
}

func tellNode(n api.Node) string {
	return fmt.Sprintf("%d %q %s", n.Id, strings.Join(n.Labels, "|"), tellProps(n.Props))
}

func tellEdge(e api.Edge) string {
	return fmt.Sprintf("%d %q %d %d %s", e.Id, e.Type, e.From, e.To, tellProps(e.Props))
}

// short keeps a test's line readable.
func short(s string) string { return s[:min(len(s), 100)] }

// wrongValues tells values that no property has.
func wrongValues() []api.Value {
	return []api.Value{
		null, {Atom: api.Atom{Kind: 7}}, {Atom: api.Atom{Kind: -1}}, {Atom: api.Atom{N: 1}}, {Atom: api.Atom{Kind: api.Bool, N: 2}}, {Atom: api.Atom{Kind: api.Int, S: "a"}},
		{Atom: api.Atom{Kind: api.Real, F: math.Copysign(0, -1)}}, {Atom: api.Atom{Kind: api.Real, F: math.Float64frombits(0x7ff8000000000001)}},
		blob(257), {Atom: api.Atom{Kind: api.Text, S: as(257)}}, list(make([]api.Atom, 17)...), list(api.Atom{Kind: api.List}), {Atom: api.Atom{Kind: api.Int}, L: []api.Atom{{}}}, {L: []api.Atom{{}}},
	}
}

// rightValues tells values that a property can have, none twice.
func rightValues() []api.Value {
	return []api.Value{
		value.OfBool(false), yes, value.OfInt(0), value.OfInt(-1), value.OfInt(maxInt), value.OfInt(minInt), value.OfInt(1<<53 + 1), value.OfReal(0), value.OfReal(-1), value.OfReal(math.Inf(1)), nan,
		value.OfText(""), value.OfText("a"), value.OfText("\x00"), value.OfText("\x00\x01\xff"), value.OfText(as(256)), blob(0), blob(1), blob(256),
		list(), list(api.Atom{}), ints(0), ints(1, 2), ints(2, 1), list(make([]api.Atom, 16)...), list(yes.Atom, nan.Atom, blob(3).Atom, value.OfText("a\x00").Atom),
	}
}

// P5.1: Name

func TestName(t *testing.T) {
	for _, c := range []struct {
		s    string
		want bool
	}{
		{"", false}, {"a", true}, {"Z", true}, {"_", true}, {"0", false}, {"9", false}, {"a0", true}, {"0a", false}, {"_0", true}, {"a_9Z", true}, {"__", true},
		{as(15), true}, {as(16), true}, {as(17), false}, {as(256), false}, {as(272), false}, {as(15) + "-", false}, {as(15) + "9", true}, {as(16) + "-", false},
		{" ", false}, {" a", false}, {"a ", false}, {"a b", false}, {"a.b", false}, {"a\x00", false}, {"\x00", false}, {"a\n", false}, {"é", false}, {"aé", false}, {"\xff", false}, {"ａ", false}, {"a٣", false},
		{"null", true}, {"match", true}, {"abcdefghijklmnop", true}, {"ABCDEFGHIJ012345", true}, {"qrstuvwxyz_6789K", true}, {"LMNOPQRSTUVWXYZ", true},
	} {
		if got := record.Name(c.s); got != c.want {
			t.Errorf("Name(%q) = %v", short(c.s), got)
		}
	}
}

func TestNameByte(t *testing.T) {
	const letters = "abcdefghijklmnopqrstuvwxyzABCDEFGHIJKLMNOPQRSTUVWXYZ_"
	const all = letters + "0123456789"
	for c := range 256 {
		s := string([]byte{byte(c)})
		if got := record.Name(s); got != strings.Contains(letters, s) {
			t.Errorf("Name(%q) = %v", s, got)
		}
		if got := record.Name(s + "a"); got != strings.Contains(letters, s) {
			t.Errorf("Name(%q) = %v", s+"a", got)
		}
		for _, name := range []string{"a" + s, "b" + s + "c", "_" + s, as(15) + s} {
			if got := record.Name(name); got != strings.Contains(all, s) {
				t.Errorf("Name(%q) = %v", name, got)
			}
		}
	}
}

// P5.1: NodeRight, EdgeRight

// labels tells lists of labels, and whether a node can have them.
var labels = []struct {
	l    []string
	want bool
}{
	{nil, true}, {[]string{}, true}, {[]string{"A"}, true}, {[]string{"A", "B"}, true}, {[]string{"B", "A"}, false}, {[]string{"A", "A"}, false}, {[]string{"A", "B", "B"}, false}, {[]string{"A", "C", "B"}, false}, {[]string{"A", "B", "C"}, true},
	{[]string{"A", "AA", "AB", "B"}, true}, {[]string{"AA", "A"}, false}, {[]string{"Z", "_", "a"}, true}, {[]string{"a", "Z"}, false}, {[]string{"a", "_"}, false}, {[]string{"A0", "A1", "AA", "A_", "Aa"}, true},
	{[]string{""}, false}, {[]string{"", "A"}, false}, {[]string{"A", ""}, false}, {[]string{"0"}, false}, {[]string{"A", "B-"}, false}, {[]string{"A ", "B"}, false}, {[]string{"A", "Ä"}, false}, {[]string{as(16)}, true}, {[]string{as(17)}, false}, {[]string{"A", as(16), as(17)}, false},
	{[]string{"a", "b", "c", "d", "e", "f", "g", "h"}, true}, {[]string{"a", "b", "c", "d", "e", "f", "g", "h", "i"}, false}, {[]string{"b", "c", "d", "e", "f", "g", "h", "a"}, false}, {[]string{"a", "b", "c", "d", "e", "f", "h", "g"}, false},
}

// propsCases tells lists of properties, and whether a node or an edge can have them.
func propsCases() map[string]bool {
	m := map[string]bool{
		"": true, "a": true, "a b": true, "b a": false, "a a": false, "a b b": false, "a c b": false, "A a": true, "a A": false, "a aa b": true, "aa a": false, "0": false, "a 0": false, "a b-": false, "é": false,
		as(16): true, as(17): false, "Z _ a": true, "_ Z": false,
		strings.Join(names(16), " "): true, strings.Join(names(17), " "): false, strings.Join(names(26), " "): false,
	}
	l := names(16)
	l[15], l[14] = l[14], l[15]
	m[strings.Join(l, " ")] = false
	return m
}

func TestRightIds(t *testing.T) {
	for _, id := range []int{1, 2, 1 << 31, 1 << 32, maxInt, 0, -1, minInt} {
		if got := record.NodeRight(api.Node{Id: id}); got != (id > 0) {
			t.Errorf("NodeRight of the Id %d: %v", id, got)
		}
		for i, e := range []api.Edge{{Id: id, Type: "T", From: 1, To: 1}, {Id: 1, Type: "T", From: id, To: 1}, {Id: 1, Type: "T", From: 1, To: id}, {Id: id, Type: "T", From: id, To: id}} {
			if got := record.EdgeRight(e); got != (id > 0) {
				t.Errorf("EdgeRight %d of %d: %v", i, id, got)
			}
		}
	}
	if record.NodeRight(api.Node{}) || record.EdgeRight(api.Edge{}) {
		t.Error("a zero one is right")
	}
}

func TestNodeRightLabels(t *testing.T) {
	for _, c := range labels {
		for _, l := range [][]api.Prop{nil, {}, props("a", "b")} {
			if got := record.NodeRight(api.Node{Id: 1, Labels: c.l, Props: l}); got != c.want {
				t.Errorf("NodeRight of the labels %q: %v", c.l, got)
			}
		}
	}
}

func TestEdgeRightType(t *testing.T) {
	for s, want := range map[string]bool{"": false, "T": true, "t_1": true, "1": false, "T ": false, "T|U": false, as(16): true, as(17): false, "\x00": false, "ö": false} {
		if got := record.EdgeRight(api.Edge{Id: 1, Type: s, From: 1, To: 2}); got != want {
			t.Errorf("EdgeRight of the type %q: %v", s, got)
		}
	}
}

func TestRightProps(t *testing.T) {
	for s, want := range propsCases() {
		l := props(strings.Fields(s)...)
		if got := record.NodeRight(api.Node{Id: 1, Props: l}); got != want {
			t.Errorf("NodeRight of the properties %q: %v", s, got)
		}
		if got := record.EdgeRight(api.Edge{Id: 1, Type: "T", From: 1, To: 1, Props: l}); got != want {
			t.Errorf("EdgeRight of the properties %q: %v", s, got)
		}
	}
	if record.NodeRight(api.Node{Id: 1, Props: []api.Prop{prop("", yes)}}) || record.NodeRight(api.Node{Id: 1, Props: []api.Prop{prop("", yes), prop("a", yes)}}) {
		t.Error("the empty text is a property's name")
	}
}

func TestRightValues(t *testing.T) {
	try := func(v api.Value, want bool) {
		for _, l := range [][]api.Prop{{prop("a", v)}, {prop("a", v), prop("b", yes)}, {prop("a", yes), prop("b", v)}, append(props(names(15)...), prop("z", v))} {
			if record.NodeRight(api.Node{Id: 1, Props: l}) != want || record.EdgeRight(api.Edge{Id: 1, Type: "T", From: 1, To: 1, Props: l}) != want {
				t.Errorf("right with %s: not %v", short(tellValue(v)), want)
			}
		}
	}
	for _, v := range wrongValues() {
		try(v, false)
	}
	for _, v := range rightValues() {
		try(v, true)
	}
}

// A label and a property may have one name; a type and a property, too.
func TestRightOneName(t *testing.T) {
	if !record.NodeRight(api.Node{Id: 1, Labels: []string{"a", "b"}, Props: props("a", "b")}) || !record.EdgeRight(api.Edge{Id: 1, Type: "a", From: 1, To: 1, Props: props("a")}) {
		t.Error("names that differ in what they name are held against each other")
	}
}

// P5.4: Get

func TestGet(t *testing.T) {
	l := []api.Prop{prop("a", value.OfInt(1)), prop("c", value.OfText("x")), prop("b", ints(1, 2)), prop("a", value.OfInt(2)), prop("", yes), prop("n", null), prop("é", blob(300)), prop("w", api.Value{Atom: api.Atom{Kind: 9, N: 1}, L: []api.Atom{{Kind: 8}}})}
	for _, c := range []struct {
		name string
		at   int
	}{
		{"a", 0}, {"c", 1}, {"b", 2}, {"", 4}, {"n", 5}, {"é", 6}, {"w", 7}, {"A", -1}, {"aa", -1}, {"d", -1}, {"a\x00", -1}, {as(300), -1},
	} {
		want := null
		if c.at >= 0 {
			want = l[c.at].V
		}
		if v, ok := record.Get(l, c.name); ok != (c.at >= 0) || tellValue(v) != tellValue(want) {
			t.Errorf("Get(%q) = %s, %v", short(c.name), short(tellValue(v)), ok)
		}
	}
	for _, none := range [][]api.Prop{nil, {}, l[:0]} {
		if v, ok := record.Get(none, "a"); ok || tellValue(v) != tellValue(null) {
			t.Errorf("Get of none = %v, %v", v, ok)
		}
	}
	if _, ok := record.Get(l[:1], "c"); ok {
		t.Error("Get finds what lies behind the length")
	}
}

// P5.4: Set

// slowSet tells what Set is to tell, from the properties' names alone.
func slowSet(l []api.Prop, name string, v api.Value) ([]api.Prop, api.Errno) {
	if !record.Name(name) || !value.Valid(v) || !record.NodeRight(api.Node{Id: 1, Props: l}) {
		return nil, api.ErrArg
	}
	out := slices.DeleteFunc(slices.Clone(l), func(p api.Prop) bool { return p.Name == name })
	if v.Kind != api.Null {
		out = append(out, prop(name, v))
	}
	slices.SortFunc(out, func(a, b api.Prop) int { return strings.Compare(a.Name, b.Name) })
	if len(out) > 16 {
		return nil, api.ErrFull
	}
	return out, api.OK
}

func TestSet(t *testing.T) {
	two := value.OfInt(2)
	for _, c := range []struct {
		have string
		name string
		v    api.Value
		want string
		e    api.Errno
	}{
		{"", "a", two, "a2", api.OK}, {"", "a", null, "", api.OK}, {"a", "a", two, "a2", api.OK}, {"a", "a", null, "", api.OK}, {"a", "b", null, "a", api.OK},
		{"b", "a", two, "a2 b", api.OK}, {"a", "b", two, "a b2", api.OK}, {"a c", "b", two, "a b2 c", api.OK}, {"a b c", "b", two, "a b2 c", api.OK}, {"a b c", "b", null, "a c", api.OK}, {"a b c", "a", null, "b c", api.OK}, {"a b c", "c", null, "a b", api.OK},
		{"a", "A", two, "A2 a", api.OK}, {"a", "aa", two, "a aa2", api.OK}, {"aa", "a", two, "a2 aa", api.OK}, {"a", "_", two, "_2 a", api.OK},
		{"", "", two, "", api.ErrArg}, {"", "0", two, "", api.ErrArg}, {"a", "é", two, "", api.ErrArg}, {"a", as(16), two, "a " + as(16) + "2", api.OK}, {"a", as(17), two, "", api.ErrArg}, {"a", "", null, "", api.ErrArg}, {"a", "a b", null, "", api.ErrArg},
		{"b a", "a", two, "", api.ErrArg}, {"a a", "a", null, "", api.ErrArg}, {"0", "a", two, "", api.ErrArg}, {"b a", "c", null, "", api.ErrArg},
	} {
		got, e := record.Set(props(strings.Fields(c.have)...), c.name, c.v)
		var want []api.Prop
		for _, s := range strings.Fields(c.want) {
			if name, ok := strings.CutSuffix(s, "2"); ok {
				want = append(want, prop(name, two))
			} else {
				want = append(want, props(s)...)
			}
		}
		if e != c.e || tellProps(got) != tellProps(want) {
			t.Errorf("Set(%s, %s, %v) = %s, %d", c.have, c.name, c.v, tellProps(got), e)
		}
	}
}

func TestSetFull(t *testing.T) {
	full := names(17)[1:] // b to q
	for _, c := range []struct {
		l    []string
		name string
		v    api.Value
		e    api.Errno
		n    int
	}{
		{full, "a", yes, api.ErrFull, 0}, {full, "z", yes, api.ErrFull, 0}, {full, "bb", yes, api.ErrFull, 0}, {full, "b", yes, api.OK, 16}, {full, "q", yes, api.OK, 16}, {full, "h", yes, api.OK, 16},
		{full, "a", null, api.OK, 16}, {full, "z", null, api.OK, 16}, {full, "b", null, api.OK, 15}, {full, "q", null, api.OK, 15},
		{full[:15], "a", yes, api.OK, 16}, {full[:15], "q", yes, api.OK, 16}, {names(17), "a", yes, api.ErrArg, 0}, {names(17), "a", null, api.ErrArg, 0}, {names(17), "z", yes, api.ErrArg, 0},
		{full, "0", yes, api.ErrArg, 0}, {full, "a", blob(257), api.ErrArg, 0}, {full, "b", blob(257), api.ErrArg, 0}, {append(names(16)[1:], "a"), "z", yes, api.ErrArg, 0},
	} {
		if got, e := record.Set(props(c.l...), c.name, c.v); e != c.e || len(got) != c.n {
			t.Errorf("Set(%v, %s, %v) = %s, %d", c.l, c.name, c.v, tellProps(got), e)
		}
	}
}

func TestSetValues(t *testing.T) {
	wrong := wrongValues()[1:] // a Null takes away
	for _, v := range wrong {
		for _, l := range [][]api.Prop{nil, props("a"), props("b"), props("b", "a")} {
			if got, e := record.Set(l, "a", v); e != api.ErrArg || len(got) != 0 {
				t.Errorf("Set to %s = %s, %d", short(tellValue(v)), tellProps(got), e)
			}
		}
	}
	for _, v := range wrongValues() {
		if got, e := record.Set([]api.Prop{prop("a", v), prop("b", yes)}, "a", yes); e != api.ErrArg || len(got) != 0 {
			t.Errorf("Set over %s = %s, %d", short(tellValue(v)), tellProps(got), e)
		}
		if got, e := record.Set([]api.Prop{prop("a", v)}, "a", null); e != api.ErrArg || len(got) != 0 {
			t.Errorf("Set of %s to Null = %s, %d", short(tellValue(v)), tellProps(got), e)
		}
	}
	for _, v := range rightValues() {
		l, e := record.Set(props("a", "c"), "b", v)
		if e != api.OK || tellProps(l) != tellProps([]api.Prop{prop("a", value.OfInt(1)), prop("b", v), prop("c", value.OfInt(1))}) {
			t.Errorf("Set to %s = %s, %d", short(tellValue(v)), short(tellProps(l)), e)
		}
		if got, ok := record.Get(l, "b"); !ok || tellValue(got) != tellValue(v) {
			t.Errorf("Get of %s = %s, %v", short(tellValue(v)), short(tellValue(got)), ok)
		}
	}
}

// Every list of three names at most, every name, a value and a Null, against the slow reading.
func TestSetSlow(t *testing.T) {
	some := []string{"", "a", "aa", "b", "B", "_", "0", "a-"}
	lists := [][]string{nil}
	for from := 0; from < len(lists); from++ {
		if len(lists[from]) == 3 {
			break
		}
		for _, s := range some {
			lists = append(lists, append(slices.Clone(lists[from]), s))
		}
	}
	for _, l := range lists {
		for _, name := range some {
			for _, v := range []api.Value{null, yes, ints(1, 2), blob(257)} {
				want, wantE := slowSet(props(l...), name, v)
				if got, e := record.Set(props(l...), name, v); e != wantE || tellProps(got) != tellProps(want) {
					t.Fatalf("Set(%q, %q, %v) = %s, %d, not %s, %d", l, name, short(tellValue(v)), tellProps(got), e, tellProps(want), wantE)
				}
			}
		}
	}
}

// Rule 4: what is handed in isn't changed, and what is handed out is new memory.

func TestGetNew(t *testing.T) {
	room := append(ints(1, 2).L, make([]api.Atom, 6)...)
	l := []api.Prop{prop("a", list(room[:2]...))}
	l[0].V.L = room[:2]
	v, _ := record.Get(l, "a")
	again, _ := record.Get(l, "a")
	v.L[0].N = 9
	_ = append(v.L, yes.Atom)
	_ = append(v.L[:0], yes.Atom)
	if room[0].N != 1 || room[2] != (api.Atom{}) || again.L[0].N != 1 {
		t.Error("Get hands out what was handed in")
	}
	if s := v.L[:cap(v.L)]; len(s) > 2 && slices.ContainsFunc(s[2:], func(a api.Atom) bool { return a != (api.Atom{}) }) {
		t.Error("Get hands out what lies behind a length")
	}
}

func TestSetNew(t *testing.T) {
	build := func() ([]api.Prop, api.Value) {
		room := append(ints(1, 2, 3).L, blob(1).Atom, blob(2).Atom)
		l := make([]api.Prop, 8)
		for i := range l {
			l[i] = prop("zzz", yes)
		}
		l[0], l[1], l[2] = prop("a", list(room[:2]...)), prop("c", list()), prop("e", ints(2))
		l[1].V.L = room[2:3]
		return l, list(room[3:4]...)
	}
	whole, wholeV := build()
	for _, name := range []string{"a", "b", "c", "e", "f", "_"} {
		for _, gone := range []bool{false, true} {
			l, v := build()
			if gone {
				v = null
			}
			got, e := record.Set(l[:3], name, v)
			want := tellProps(got)
			if e != api.OK || want == "" {
				t.Fatalf("Set of %s = %s, %d", name, want, e)
			}
			for i := range got {
				_ = append(got[i].V.L, yes.Atom, yes.Atom)
			}
			if tellProps(got) != want {
				t.Errorf("Set of %s hands out lists that share their room", name)
			}
			for i := range got {
				for j := range got[i].V.L {
					got[i].V.L[j].N += 7
				}
			}
			changed := tellProps(got)
			if tellProps(l) != tellProps(whole) || !gone && tellValue(v) != tellValue(wholeV) {
				t.Errorf("Set of %s hands out what was handed in, or changes it", name)
			}
			for i := range l {
				l[i].Name = "y"
				for j := range l[i].V.L[:cap(l[i].V.L)] {
					l[i].V.L[:cap(l[i].V.L)][j].N = 99
				}
			}
			if tellProps(got) != changed {
				t.Errorf("Set of %s keeps what was handed in", name)
			}
			for _, p := range append(got, prop("x", yes))[:len(got):len(got)] {
				if p.Name == "zzz" || p.Name == "y" {
					t.Errorf("Set of %s hands out %s", name, p.Name)
				}
			}
			if slices.ContainsFunc(l, func(p api.Prop) bool { return p.Name != "y" }) {
				t.Errorf("Set of %s hands out the spare room", name)
			}
		}
	}
}
