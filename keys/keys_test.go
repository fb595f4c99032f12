package keys_test

import (
	"bytes"
	"encoding/hex"
	"math"
	"slices"
	"strings"
	"testing"

	"cobweb/api"
	"cobweb/keys"
	"cobweb/value"
)

const (
	maxInt = math.MaxInt
	minInt = math.MinInt
)

var (
	null = api.Atom{}
	no   = api.Atom{Kind: api.Bool}
	yes  = api.Atom{Kind: api.Bool, N: 1}
	inf  = math.Inf(1)
	nan  = math.Float64frombits(0x7ff8000000000000)
	tiny = math.Float64frombits(1)
)

func atomInt(n int) api.Atom        { return api.Atom{Kind: api.Int, N: n} }
func atomReal(f float64) api.Atom   { return api.Atom{Kind: api.Real, F: f} }
func atomText(s string) api.Atom    { return api.Atom{Kind: api.Text, S: s} }
func atomBytes(s string) api.Atom   { return api.Atom{Kind: api.Bytes, S: s} }
func one(a api.Atom) api.Value      { return api.Value{Atom: a} }
func list(l ...api.Atom) api.Value  { return api.Value{Atom: api.Atom{Kind: api.List}, L: l} }
func as(n int) string               { return strings.Repeat("a", n) }
func sameValue(a, b api.Value) bool { return same(a.Atom, b.Atom) && slices.EqualFunc(a.L, b.L, same) }

// same tells if two atoms are one, floats bit by bit.
func same(a, b api.Atom) bool {
	return a.Kind == b.Kind && a.N == b.N && a.S == b.S && math.Float64bits(a.F) == math.Float64bits(b.F)
}

// unhex tells the bytes of digits that may have blanks between them.
func unhex(t *testing.T, s string) []byte {
	t.Helper()
	b, err := hex.DecodeString(strings.ReplaceAll(s, " ", ""))
	if err != nil {
		t.Fatal(err)
	}
	return b
}

// numbers tells numbers at all the edges, in no order.
func numbers() []api.Atom {
	all := []api.Atom{atomInt(0), atomReal(0), atomReal(inf), atomReal(-inf), atomReal(nan), atomReal(tiny), atomReal(-tiny), atomReal(math.MaxFloat64), atomReal(-math.MaxFloat64)}
	for k := range 64 {
		n := 1<<k - 1
		f := math.Ldexp(1, k)
		all = append(all, atomInt(n), atomInt(-n), atomInt(^n))
		if k < 63 {
			all = append(all, atomInt(n+2), atomInt(^n-1))
		}
		all = append(all, atomReal(f), atomReal(-f), atomReal(math.Nextafter(f, 0)), atomReal(math.Nextafter(f, inf)), atomReal(math.Nextafter(-f, -inf)), atomReal(f+0.5))
	}
	for _, d := range []int{2, 511, 512, 513, 1022, 1023, 1024, 1025, 1536, 2047, 2048} {
		all = append(all, atomInt(maxInt-d), atomInt(minInt+d), atomInt(1<<62-d), atomInt(1<<62+d), atomInt(-1<<62+d), atomInt(-1<<62-d))
	}
	slices.SortFunc(all, func(a, b api.Atom) int { return value.Compare(one(a), one(b)) })
	return slices.CompactFunc(all, same)
}

// values tells values of all kinds, in no order, none twice.
func values() []api.Value {
	all := []api.Value{
		one(null), one(no), one(yes), list(), list(null), list(null, null), list(no), list(yes), list(yes, null), list(null, yes),
		list(atomInt(2)), list(atomReal(2)), list(atomInt(2), null), list(atomInt(2), atomInt(3)), list(atomInt(3)), list(atomReal(2), atomReal(nan)), list(atomReal(nan)),
		list(atomText("")), list(atomText(""), atomText("")), list(atomText("\x00")), list(atomText("a"), atomInt(5)), list(atomText("a"), atomText("b")), list(atomText("ab")), list(atomBytes("")), list(atomBytes("a"), no),
		list(make([]api.Atom, 15)...), list(make([]api.Atom, 16)...), list(append(make([]api.Atom, 15), yes)...), list(slices.Repeat([]api.Atom{atomText(as(256))}, 16)...), list(slices.Repeat([]api.Atom{atomInt(maxInt)}, 16)...),
	}
	for _, a := range numbers() {
		all = append(all, one(a))
	}
	for _, s := range []string{"", "\x00", "\x00\x00", "\x00\x01", "\x00\xff", "\x01", "\x01\x00", "a", "a\x00", "a\x00\x01", "a\x00b", "a\x01", "ab", "b", "\xfe", "\xff", "\xff\x00", "\xff\xff", "é", as(255), as(256), as(255) + "\x00", as(255) + "b", strings.Repeat("\x00", 256), strings.Repeat("\xff", 256)} {
		all = append(all, one(atomText(s)), one(atomBytes(s)))
	}
	return all
}

// wrong tells values that are not Valid.
func wrong() []api.Value {
	minusZero := math.Copysign(0, -1)
	atoms := []api.Atom{
		{Kind: -1}, {Kind: 7}, {Kind: 1 << 40}, {N: 1}, {S: "a"}, {F: 1}, {F: minusZero},
		{Kind: api.Bool, N: 2}, {Kind: api.Bool, N: -1}, {Kind: api.Bool, N: 256}, {Kind: api.Bool, S: "a"}, {Kind: api.Bool, F: 1},
		{Kind: api.Int, N: 1, F: 1}, {Kind: api.Int, N: 1, S: "a"}, {Kind: api.Int, F: minusZero},
		{Kind: api.Real, F: minusZero}, {Kind: api.Real, F: math.Float64frombits(0x7ff8000000000001)}, {Kind: api.Real, F: math.Float64frombits(0xfff8000000000000)}, {Kind: api.Real, F: 1, N: 1}, {Kind: api.Real, F: 1, S: "a"},
		atomText(as(257)), atomText(as(1000)), atomBytes(as(257)), {Kind: api.Text, S: "a", N: 1}, {Kind: api.Bytes, S: "a", F: 1},
	}
	all := []api.Value{
		list(make([]api.Atom, 17)...), list(make([]api.Atom, 100)...), list(api.Atom{Kind: api.List}), list(null, api.Atom{Kind: api.List}),
		{Atom: yes, L: []api.Atom{{}}}, {L: []api.Atom{{}}}, {Atom: atomText("a"), L: []api.Atom{{}}},
		{Atom: api.Atom{Kind: api.List, N: 1}}, {Atom: api.Atom{Kind: api.List, S: "a"}}, {Atom: api.Atom{Kind: api.List, F: minusZero}},
	}
	for _, a := range atoms {
		all = append(all, one(a), list(a), list(null, a), list(a, null))
	}
	return all
}

// tails tells what may stand behind.
func tails() []string {
	return []string{"", "\x00", "\x00\x01", "\x00\xff", "\x01", "\x05", "\x40", "a", "\xff", "\xff\xff\xff"}
}

// P4.1

// puts tells values and their bytes.
var puts = []struct {
	v    api.Value
	want string
}{
	{one(null), "05"}, {one(no), "10"}, {one(yes), "11"},
	{one(atomInt(0)), "20 8000000000000000 0000 00"}, {one(atomReal(0)), "20 8000000000000000 0000 01"},
	{one(atomInt(1)), "20 bff0000000000000 0000 00"}, {one(atomReal(1)), "20 bff0000000000000 0000 01"},
	{one(atomInt(-1)), "20 400fffffffffffff 0000 00"}, {one(atomReal(-1)), "20 400fffffffffffff 0000 01"},
	{one(atomInt(1 << 53)), "20 c340000000000000 0000 00"}, {one(atomInt(1<<53 + 1)), "20 c340000000000000 0001 00"}, {one(atomInt(1<<53 + 2)), "20 c340000000000001 0000 00"},
	{one(atomInt(-1<<53 - 1)), "20 3cbffffffffffffe 0001 00"},
	{one(atomInt(maxInt)), "20 c3dfffffffffffff 03ff 00"}, {one(atomInt(maxInt - 1023)), "20 c3dfffffffffffff 0000 00"}, {one(atomInt(maxInt - 1024)), "20 c3dffffffffffffe 03ff 00"},
	{one(atomInt(minInt)), "20 3c1fffffffffffff 0000 00"}, {one(atomInt(minInt + 1)), "20 3c1fffffffffffff 0001 00"}, {one(atomInt(minInt + 1023)), "20 3c1fffffffffffff 03ff 00"}, {one(atomInt(minInt + 1024)), "20 3c20000000000000 0000 00"},
	{one(atomInt(1<<62 + 258)), "20 c3d0000000000000 0102 00"},
	{one(atomReal(-inf)), "20 000fffffffffffff 0000 01"}, {one(atomReal(inf)), "20 fff0000000000000 0000 01"}, {one(atomReal(nan)), "20 ffffffffffffffff 0000 01"}, {one(atomReal(tiny)), "20 8000000000000001 0000 01"}, {one(atomReal(-tiny)), "20 7ffffffffffffffe 0000 01"}, {one(atomReal(0.5)), "20 bfe0000000000000 0000 01"},
	{one(atomText("")), "30 0001"}, {one(atomText("a")), "30 61 0001"}, {one(atomText("a\x00")), "30 61 00ff 0001"}, {one(atomText("\xff\x01")), "30 ff01 0001"},
	{one(atomBytes("")), "31 0001"}, {one(atomBytes("a")), "31 61 0001"}, {one(atomBytes("\x00")), "31 00ff 0001"},
	{list(), "40 00"}, {list(null), "40 05 00"}, {list(yes, no), "40 11 10 00"},
	{list(atomInt(1), atomText(""), atomBytes("\x00"), atomReal(1)), "40 20bff0000000000000000000 300001 3100ff0001 20bff0000000000000000001 00"},
	{list(make([]api.Atom, 16)...), "40 05050505050505050505050505050505 00"},
}

func TestPut(t *testing.T) {
	for _, c := range puts {
		want := unhex(t, c.want)
		if got := keys.Put(nil, c.v); !bytes.Equal(got, want) {
			t.Errorf("Put(%s) = % x, not %s", value.Print(c.v), got, c.want)
		}
		for _, b := range tails() {
			if got := keys.Put([]byte(b), c.v); string(got) != b+string(want) {
				t.Errorf("Put(% x, %s) = % x, not %s behind", b, value.Print(c.v), got, c.want)
			}
		}
	}
	if got := keys.Put(nil, one(atomText(as(256)))); string(got) != "\x30"+as(256)+"\x00\x01" {
		t.Errorf("Put of 256 bytes: % x", got)
	}
}

func TestPutNotValid(t *testing.T) {
	for _, v := range wrong() {
		for _, b := range tails() {
			if got := keys.Put([]byte(b), v); string(got) != b {
				t.Errorf("Put(% x, %.60v) = % x", b, v, got)
			}
		}
		if got := keys.Put(nil, v); len(got) != 0 {
			t.Errorf("Put(nil, %.60v) = % x", v, got)
		}
	}
}

// P4.2

// read holds what Read tells against what it should.
func read(t *testing.T, b []byte, want api.Value, used int, e api.Errno) {
	t.Helper()
	if v, n, got := keys.Read(b); !sameValue(v, want) || n != used || got != e {
		t.Errorf("Read(%.60x) = %s, %d, %d, not %s, %d, %d", b, value.Print(v), n, int(got), value.Print(want), used, int(e))
	}
}

func TestRead(t *testing.T) {
	for _, c := range puts {
		b := unhex(t, c.want)
		for _, tail := range tails() {
			read(t, append(bytes.Clone(b), tail...), c.v, len(b), api.OK)
		}
		for n := range b {
			read(t, b[:n], api.Value{}, 0, api.ErrEnd)
		}
	}
	read(t, nil, api.Value{}, 0, api.ErrEnd)
}

func TestReadNoForm(t *testing.T) {
	for _, s := range []string{
		"00", "01", "04", "06", "0f", "12", "1f", "21", "2f", "32", "3f", "41", "7f", "80", "ff", "ff05", // begin none
		"20 bff0000000000000 0000 02", "20 bff0000000000000 0000 ff", // neither Int nor Real
		"20 bff0000000000000 0001 01", "20 bff0000000000000 0100 01", "20 ffffffffffffffff 0001 01", // a Real without a rest
		"20 ffffffffffffffff 0000 00", "20 fff0000000000000 0000 00", "20 000fffffffffffff 0000 00", "20 bfe0000000000000 0000 00", "20 8000000000000001 0000 00", "20 7ffffffffffffffe 0000 00", // no whole number
		"20 7fffffffffffffff 0000 00", "20 7fffffffffffffff 0000 01", // the other zero
		"20 fff8000000000000 0000 01", "20 fff0000000000001 0000 01", "20 fffffffffffffffe 0000 01", "20 0000000000000000 0000 01", "20 0007ffffffffffff 0000 01", "20 000ffffffffffffe 0000 01", // other NaN
		"20 bff0000000000000 0001 00", "20 bff0000000000000 0100 00", "20 8000000000000000 0001 00", "20 400fffffffffffff 0001 00", // another number has that floor
		"20 c340000000000000 0002 00", "20 c340000000000000 0100 00", "20 c33fffffffffffff 0001 00", "20 3cc0000000000000 0001 00",
		"20 c3dfffffffffffff 0400 00", "20 c3dfffffffffffff ffff 00", "20 c3e0000000000000 0000 00", "20 c3e0000000000000 0001 00", "20 3c1ffffffffffffe 0000 00", "20 3c1ffffffffffffe 0001 00", "20 3c1ffffffffffffe 0800 00", "20 3c1fffffffffffff 0400 00", // beyond the numbers
		"30 0000", "30 0002", "30 00fe", "30 61 00 61", "30 00ff 0000 01", "31 0000", "31 61 0002", // order's errors
		"40 01", "40 40", "40 40 00 00", "40 05 40 00", "40 05 ff", "40 05 06 00", "40 ff", "40 30 0000", "40 20 bff0000000000000 0000 02", "40 20 bff0000000000000 0001 01 00", "40 05 21",
	} {
		for _, tail := range tails() {
			read(t, append(unhex(t, s), tail...), api.Value{}, 0, api.ErrForm)
		}
	}
}

func TestReadEnd(t *testing.T) {
	for _, s := range []string{
		"20", "20 ff", "20 7fffffffffffffff", "20 7fffffffffffffff 0000", "20 ffffffffffffffff ffff", "20 bff0000000000000 0001", // what comes ahead of a number's end tells nothing
		"30", "30 61", "30 00", "30 00ff", "30 00ff 00", "30 01", "31", "31 61 00",
		"40", "40 05", "40 05 20", "40 05 30", "40 05 30 61 00", "40 20 7fffffffffffffff 0000", "40 30 0001", "40 31 00 ff 00",
	} {
		read(t, unhex(t, s), api.Value{}, 0, api.ErrEnd)
	}
}

func TestReadBig(t *testing.T) {
	const form, end = api.ErrForm, api.ErrEnd
	nulls := strings.Repeat("\x05", 16)
	for _, c := range []struct {
		b string
		e api.Errno
	}{
		{as(257) + "\x00\x01", form}, {as(1000) + "\x00\x01", form}, {as(255) + "\x00\xff\x00\xff\x00\x01", form}, {strings.Repeat("\x00\xff", 257) + "\x00\x01", form},
		{as(257), end}, {as(1000), end}, {as(257) + "\x00", end}, {as(256) + "\x00\xff", end}, {as(1000) + "\x00\xff\x00", end},
		{as(257) + "\x00\x02", form}, {as(1000) + "\x00\x00", form},
	} {
		for _, mark := range []string{"\x30", "\x31", "\x40\x30", "\x40\x05\x31"} {
			read(t, []byte(mark+c.b), api.Value{}, 0, c.e)
		}
	}
	for _, c := range []struct {
		b string
		e api.Errno
	}{
		{"", end}, {"\x05", form}, {"\x10", form}, {"\x05\x00", form}, {"\x30", end}, {"\x30a", end}, {"\x30a\x00", end}, {"\x30a\x00\x01", form}, {"\x30a\x00\x02", form}, {"\x31" + as(300), end}, {"\x20", end}, {"\x20\xbf\xf0\x00\x00\x00\x00\x00\x00\x00\x00", end}, {"\x20\xbf\xf0\x00\x00\x00\x00\x00\x00\x00\x00\x00", form}, {"\x40", form}, {"\x01", form}, {strings.Repeat("\x05", 100), form},
	} {
		read(t, []byte("\x40"+nulls+c.b), api.Value{}, 0, c.e)
	}
	read(t, []byte("\x30"+strings.Repeat("\x00\xff", 256)+"\x00\x01"), one(atomText(strings.Repeat("\x00", 256))), 515, api.OK)
	read(t, []byte("\x31"+as(256)+"\x00\x01a"), one(atomBytes(as(256))), 259, api.OK)
	read(t, []byte("\x40"+nulls+"\x00\x05"), list(make([]api.Atom, 16)...), 18, api.OK)
}

// P4.3

func TestTuple(t *testing.T) {
	for _, c := range []struct {
		l    []api.Value
		want string
	}{
		{nil, ""}, {[]api.Value{}, ""}, {[]api.Value{one(null)}, "05"}, {[]api.Value{one(null), one(no), one(null)}, "05 10 05"},
		{[]api.Value{list(yes), one(atomText("a")), list()}, "40 11 00 30 61 0001 40 00"},
		{[]api.Value{one(atomInt(1)), one(atomInt(2)), one(atomReal(2))}, "20 bff0000000000000 0000 00 20 c000000000000000 0000 00 20 c000000000000000 0000 01"},
		{[]api.Value{one(atomText(as(257)))}, ""}, {[]api.Value{one(yes), list(make([]api.Atom, 17)...), one(no)}, "11 10"},
	} {
		if got := keys.Tuple(c.l); !bytes.Equal(got, unhex(t, c.want)) {
			t.Errorf("Tuple(%.100v) = % x, not %s", c.l, got, c.want)
		}
	}
	if got := keys.Tuple(slices.Repeat([]api.Value{one(yes)}, 100000)); string(got) != strings.Repeat("\x11", 100000) {
		t.Errorf("Tuple of many: %d bytes", len(got))
	}
}

func TestSplit(t *testing.T) {
	all := values()
	for n := range 65 {
		l := all[n : 2*n]
		b := keys.Tuple(l)
		got, e := keys.Split(b, n)
		if e != api.OK || !slices.EqualFunc(got, l, sameValue) {
			t.Errorf("Split of %d: %v, %d", n, got, int(e))
		}
		for _, tail := range tails()[1:] {
			if got, e := keys.Split(append(bytes.Clone(b), tail...), n); e != api.ErrForm || len(got) != 0 {
				t.Errorf("Split of %d and % x: %v, %d", n, tail, got, int(e))
			}
		}
	}
}

func TestSplitErrors(t *testing.T) {
	for _, c := range []struct {
		b string
		n int
		e api.Errno
	}{
		{"", -1, api.ErrArg}, {"05", -1, api.ErrArg}, {"", 65, api.ErrArg}, {strings.Repeat("05", 65), 65, api.ErrArg}, {"", minInt, api.ErrArg}, {"05", maxInt, api.ErrArg}, {"ff", 65, api.ErrArg}, {"ff", -1, api.ErrArg}, {"40", 1 << 40, api.ErrArg},
		{"", 1, api.ErrEnd}, {"05", 2, api.ErrEnd}, {"", 64, api.ErrEnd}, {strings.Repeat("05", 63), 64, api.ErrEnd}, {"05 30 61", 2, api.ErrEnd}, {"05 30 61", 3, api.ErrEnd}, {"40 05", 1, api.ErrEnd},
		{"05 00", 2, api.ErrForm}, {"ff", 1, api.ErrForm}, {"05 30 00 02 05", 3, api.ErrForm}, {"30 0000 20", 2, api.ErrForm}, {"20 7fffffffffffffff 0000 01 30", 2, api.ErrForm},
		{"20 7fffffffffffffff 0000", 2, api.ErrEnd}, {"30 61 00", 64, api.ErrEnd}, // what comes first
		{"05", 0, api.ErrForm}, {"ff", 0, api.ErrForm}, {"20", 0, api.ErrForm}, {"05 05", 1, api.ErrForm}, {"05 30", 1, api.ErrForm}, {"05 00", 1, api.ErrForm}, {strings.Repeat("05", 65), 64, api.ErrForm},
	} {
		if got, e := keys.Split(unhex(t, c.b), c.n); e != c.e || len(got) != 0 {
			t.Errorf("Split(%s, %d) = %v, %d, not %d", c.b, c.n, got, int(e), int(c.e))
		}
	}
	if got, e := keys.Split(nil, 0); e != api.OK || len(got) != 0 {
		t.Errorf("Split(nil, 0) = %v, %d", got, int(e))
	}
	if got, e := keys.Split(nil, 1); e != api.ErrEnd || len(got) != 0 {
		t.Errorf("Split(nil, 1) = %v, %d", got, int(e))
	}
}

// P4.4

func TestPutIsRead(t *testing.T) {
	for _, v := range values() {
		b := keys.Put(nil, v)
		for _, tail := range tails() {
			read(t, append(bytes.Clone(b), tail...), v, len(b), api.OK)
		}
	}
}

func TestOrder(t *testing.T) {
	all := values()
	put := make([]string, len(all))
	for i, v := range all {
		put[i] = string(keys.Put(nil, v))
	}
	for i, a := range all {
		for j, b := range all {
			want := value.Compare(a, b)
			if (want == 0) != (i == j) || strings.Compare(put[i], put[j]) != want {
				t.Fatalf("%s and %s: % x and % x", value.Print(a), value.Print(b), put[i], put[j])
			}
			for _, tail := range tails() {
				if i != j && (strings.Compare(put[i]+tail, put[j]) != want || strings.Compare(put[i], put[j]+tail) != want) {
					t.Fatalf("%s and %s, with % x behind", value.Print(a), value.Print(b), tail)
				}
			}
		}
	}
}

func TestOrderOfTuples(t *testing.T) {
	some := []api.Value{one(null), one(yes), one(atomInt(2)), one(atomReal(2)), one(atomText("")), one(atomText("\x00")), one(atomBytes("a")), list(), list(null), list(null, yes)}
	var all [][]api.Value
	for _, a := range some {
		for _, b := range some {
			all = append(all, []api.Value{a, b})
		}
	}
	for _, a := range all {
		for _, b := range all {
			want := slices.CompareFunc(a, b, value.Compare)
			if got := bytes.Compare(keys.Tuple(a), keys.Tuple(b)); got != want {
				t.Fatalf("%v and %v: %d, not %d", a, b, got, want)
			}
		}
	}
}

// Rule 4: what is handed in is left as it is, and what is handed out is new memory.

func TestPutGoesToNewMemory(t *testing.T) {
	for _, v := range append(values(), wrong()...) {
		for _, spare := range []int{0, 1, 600} {
			whole := []byte("abc\xff" + strings.Repeat("s", spare))
			was := bytes.Clone(whole)
			one, two := keys.Put(whole[:4], v), keys.Put(whole[:4], v)
			kept := bytes.Clone(two)
			for i := range one[:cap(one)] {
				one[:cap(one)][i] = '#'
			}
			if !bytes.Equal(whole, was) || !bytes.Equal(two, kept) {
				t.Errorf("Put of %.60v shares memory, with %d bytes spare", v, spare)
			}
			clear(whole)
			if !bytes.Equal(two, kept) {
				t.Errorf("Put of %.60v keeps what was handed in, with %d bytes spare", v, spare)
			}
		}
	}
}

func TestTupleGoesToNewMemory(t *testing.T) {
	for _, l := range [][]api.Value{nil, {one(null)}, {list(yes, atomText("x")), one(atomInt(1))}} {
		one, two := keys.Tuple(l), keys.Tuple(l)
		kept := bytes.Clone(two)
		for i := range one[:cap(one)] {
			one[:cap(one)][i] = '#'
		}
		if !bytes.Equal(two, kept) || !bytes.Equal(keys.Tuple(l), kept) {
			t.Errorf("Tuple(%v) shares memory", l)
		}
	}
}

func TestHandedInStays(t *testing.T) {
	room := []api.Atom{atomText("x"), atomInt(1), atomText("room"), atomInt(7)}
	was := slices.Clone(room)
	v := list(room[:2]...)
	v.L = room[:2]
	keys.Put(nil, v)
	keys.Tuple([]api.Value{v, v})
	if !slices.EqualFunc(room, was, same) {
		t.Error("a list that was handed in is another")
	}
	b := append(keys.Tuple([]api.Value{v, one(atomText("a"))}), "\x05\x05room"...)
	kept := bytes.Clone(b)
	for n := range b {
		keys.Read(b[:n])
		keys.Split(b[:n], 2)
		if !bytes.Equal(b, kept) {
			t.Fatalf("bytes that were handed in are others, of %d", n)
		}
	}
	if _, e := keys.Split(b[:len(b)-6], 2); e != api.OK {
		t.Errorf("what is behind the length is read: %d", int(e))
	}
	if _, _, e := keys.Read(b[:3]); e != api.ErrEnd {
		t.Errorf("what is behind the length is read: %d", int(e))
	}
}

func TestHandedOutIsNew(t *testing.T) {
	l := []api.Value{list(atomText("abc"), null), one(atomBytes("abc")), list(atomText("abc"), null)}
	b := keys.Tuple(l)
	first, _ := keys.Split(b, 3)
	second, _ := keys.Split(b, 3)
	v, _, _ := keys.Read(b)
	clear(b)
	spoil(first[0].L)
	if !sameValue(first[2], l[2]) {
		t.Error("two lists of one answer share memory")
	}
	spoil(first[2].L)
	clear(first[:cap(first)])
	if !slices.EqualFunc(second, l, sameValue) || !sameValue(v, l[0]) {
		t.Error("what is told hangs on what was handed in, or on what was told ahead of it")
	}
}

// spoil changes a list's atoms, and those in its spare room.
func spoil(l []api.Atom) {
	for i := range l[:cap(l)] {
		l[:cap(l)][i] = atomInt(i)
	}
}
