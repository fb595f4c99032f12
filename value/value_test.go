package value_test

import (
	"fmt"
	"math"
	"math/big"
	"slices"
	"strings"
	"testing"
	"unsafe"

	"cobweb/api"
	"cobweb/value"
)

const (
	maxInt = math.MaxInt64
	minInt = math.MinInt64
	tiny   = math.SmallestNonzeroFloat64
	huge   = math.MaxFloat64
)

var (
	inf  = math.Inf(1)
	zero = math.Copysign(0, -1) // the one below
)

// atom* make atoms without package value; what they make of a float needn't be Valid.
func atomInt(n int) api.Atom      { return api.Atom{Kind: 2, N: n} }
func atomReal(f float64) api.Atom { return api.Atom{Kind: 3, F: f} }
func atomText(s string) api.Atom  { return api.Atom{Kind: 4, S: s} }
func atomBytes(s string) api.Atom { return api.Atom{Kind: 5, S: s} }

func one(a api.Atom) api.Value { return api.Value{Atom: a} }

func list(l ...api.Atom) api.Value {
	return api.Value{Atom: api.Atom{Kind: 6}, L: l}
}

// bits tells the float of some bits; nan is the one that Canon tells.
func bits(u uint64) float64 { return math.Float64frombits(u) }

func nan() float64 { return bits(0x7ff8000000000000) }

var (
	null = api.Atom{}
	no   = api.Atom{Kind: 1}
	yes  = api.Atom{Kind: 1, N: 1}
)

// numbers tells Ints and Reals, rising.
func numbers() []api.Atom {
	i, r := atomInt, atomReal
	return []api.Atom{
		r(-inf), r(-huge), r(math.Nextafter(minInt, -inf)), i(minInt), r(minInt), i(minInt + 1), i(minInt + 1023), i(minInt + 1024), r(minInt + 1024), i(minInt + 1025),
		i(-1<<53 - 2), r(-1<<53 - 2), i(-1<<53 - 1), i(-1 << 53), r(-1 << 53), i(-1<<53 + 1), r(-1<<53 + 1),
		i(-10), i(-9), i(-2), r(-2), r(-1.5), i(-1), r(-1), r(-0.5), r(-tiny), i(0), r(0), r(tiny), r(0.5), i(1), r(1), r(1.5), i(2), r(2), r(math.Nextafter(2, 3)), r(2.5), i(3), i(9), i(10), r(10),
		i(1<<53 - 1), r(1<<53 - 1), i(1 << 53), r(1 << 53), i(1<<53 + 1), i(1<<53 + 2), r(1<<53 + 2), i(1<<53 + 3),
		i(maxInt - 1023), r(maxInt - 1023), i(maxInt - 1022), i(maxInt - 1), i(maxInt), r(1 << 63), r(huge), r(inf), r(nan()),
	}
}

// texts tells what a Text or Bytes may hold, rising.
func texts() []string {
	return []string{
		"", "\x00", "\x00\x00", "\x00\x00\xff", "\x00\x01", "\x00a", "\x01", "\x1f", " ", "\"", "\"\"", "A", "Z", "\\", "\\\"", "a", "a\x00", "a a", "aa", "ab", "b", "ba", strings.Repeat("b", 255), strings.Repeat("b", 256), "c", "~", "\x7f", "\x80", "\xc3", "é", "\xff", "\xff\x00", strings.Repeat("\xff", 256),
	}
}

// atoms tells atoms of all Kinds, rising.
func atoms() []api.Atom {
	all := append([]api.Atom{null, no, yes}, numbers()...)
	for _, s := range texts() {
		all = append(all, atomText(s))
	}
	for _, s := range texts() {
		all = append(all, atomBytes(s))
	}
	return all
}

// values tells Valid values of all Kinds, rising.
func values() []api.Value {
	var all []api.Value
	for _, a := range atoms() {
		all = append(all, one(a))
	}
	i, r, t := atomInt, atomReal, atomText
	nulls := slices.Repeat([]api.Atom{null}, 16)
	naN := r(nan())
	full := append(slices.Repeat([]api.Atom{r(2)}, 15), naN)
	return append(all,
		list(), list(null), list(null, null), list(nulls[:15]...), list(nulls...), list(append(slices.Clone(nulls[:15]), no)...), list(null, yes), list(no), list(yes, null), list(yes, yes),
		list(i(2)), list(i(2), null), list(i(2), i(3)), list(i(2), i(3), i(4)), list(i(2), r(3)), list(r(2)), list(r(2), null), list(r(2), r(2)), list(full...), list(r(2), i(3)), list(i(3)), list(naN), list(naN, naN),
		list(t("")), list(t(""), t("")), list(t("a"), i(5)), list(t("a"), t("b")), list(t("ab")), list(atomBytes("")), list(atomBytes("a")), list(atomBytes("a"), null))
}

// wrong tells values that are not Valid.
func wrong() []api.Value {
	var all []api.Value
	for kind := range 7 {
		for _, a := range []api.Atom{
			{Kind: kind, N: 2}, {Kind: kind, N: 1}, {Kind: kind, N: -1}, {Kind: kind, N: minInt}, {Kind: kind, N: 256},
			{Kind: kind, F: 1}, {Kind: kind, F: zero}, {Kind: kind, F: nan()}, {Kind: kind, F: bits(0x7ff8000000000001)}, {Kind: kind, F: bits(0xfff8000000000000)}, {Kind: kind, F: bits(0x7ff0000000000001)},
			{Kind: kind, S: "a"}, {Kind: kind, S: "\x00"}, {Kind: kind, S: strings.Repeat("a", 257)}, {Kind: kind, S: strings.Repeat("a", 1000)},
		} {
			right := kind == 2 && a.N != 0 || kind == 1 && a.N == 1 ||
				kind == 3 && (a.F == 1 || math.Float64bits(a.F) == math.Float64bits(nan())) ||
				(kind == 4 || kind == 5) && a.S != "" && len(a.S) < 257
			if !right {
				all = append(all, one(a))
			}
			if !right || kind == 6 {
				all = append(all, list(a), list(null, a), list(a, atomInt(1)))
			}
		}
		if kind < 6 {
			all = append(all, api.Value{Atom: api.Atom{Kind: kind}, L: []api.Atom{{}}}, api.Value{Atom: api.Atom{Kind: kind}, L: []api.Atom{{Kind: kind}, {}}})
		}
	}
	for _, kind := range []int{-1, 7, 8, 256, minInt, maxInt} {
		all = append(all, one(api.Atom{Kind: kind}), list(api.Atom{Kind: kind}), one(api.Atom{Kind: kind, N: 1}), one(api.Atom{Kind: kind, S: "a"}))
	}
	return append(all,
		list(make([]api.Atom, 17)...), list(make([]api.Atom, 100)...), list(slices.Repeat([]api.Atom{atomText("a")}, 17)...),
		list(api.Atom{Kind: 6}), list(atomInt(1), api.Atom{Kind: 6}),
		one(api.Atom{Kind: 2, N: 1, S: "a"}), one(api.Atom{Kind: 4, N: 1, S: "a"}), one(api.Atom{Kind: 3, N: 1, F: 1}), one(api.Atom{Kind: 3, F: 1, S: "a"}), one(api.Atom{Kind: 5, F: 1, S: "a"}), one(api.Atom{Kind: 1, N: 1, F: zero}),
		api.Value{Atom: api.Atom{Kind: 6, N: 1}, L: []api.Atom{{Kind: 2}}}, api.Value{Atom: api.Atom{Kind: 6, F: zero}, L: []api.Atom{{Kind: 2}}}, api.Value{Atom: api.Atom{Kind: 6, S: "a"}, L: []api.Atom{{Kind: 2}}},
	)
}

func describe(v api.Value) string { return fmt.Sprintf("%.40q", fmt.Sprintf("%+v", v)) }

// same tells if two atoms are one, floats bit by bit; sameValue likewise of values.
func same(a, b api.Atom) bool {
	return a.Kind == b.Kind && a.N == b.N && a.S == b.S && math.Float64bits(a.F) == math.Float64bits(b.F)
}

func sameValue(a, b api.Value) bool { return same(a.Atom, b.Atom) && slices.EqualFunc(a.L, b.L, same) }

// P3.1

func TestValid(t *testing.T) {
	for _, v := range values() {
		if !value.Valid(v) {
			t.Errorf("Valid(%s) = false", describe(v))
		}
	}
	for _, v := range []api.Value{
		{L: []api.Atom{}}, {Atom: yes, L: []api.Atom{}}, {Atom: api.Atom{Kind: 6}, L: []api.Atom{}},
		one(atomInt(minInt)), one(atomInt(maxInt)), list(make([]api.Atom, 16)...), list(slices.Repeat([]api.Atom{atomText(strings.Repeat("a", 256))}, 16)...),
		{Atom: no, L: make([]api.Atom, 3)[:0]},
	} {
		if !value.Valid(v) {
			t.Errorf("Valid(%s) = false", describe(v))
		}
	}
}

func TestNotValid(t *testing.T) {
	for _, v := range wrong() {
		if value.Valid(v) {
			t.Errorf("Valid(%s) = true", describe(v))
		}
	}
}

func TestOfInt(t *testing.T) {
	for _, n := range []int{0, 1, 2, -1, 1 << 53, minInt, maxInt} {
		if got := value.OfInt(n); !sameValue(got, one(atomInt(n))) {
			t.Errorf("OfInt(%d) = %s", n, describe(got))
		}
	}
}

func TestOfText(t *testing.T) {
	for _, s := range texts() {
		if got := value.OfText(s); !sameValue(got, one(atomText(s))) {
			t.Errorf("OfText(%q) = %s", s, describe(got))
		}
	}
	for _, n := range []int{257, 258, 512, 100000} {
		if got := value.OfText(strings.Repeat("a", n)); !sameValue(got, api.Value{}) {
			t.Errorf("OfText of %d bytes = %s", n, describe(got))
		}
	}
}

func TestOfReal(t *testing.T) {
	for _, c := range []struct{ of, want uint64 }{
		{0, 0}, {0x8000000000000000, 0}, {1, 1}, {0x8000000000000001, 0x8000000000000001}, {0x3ff0000000000000, 0x3ff0000000000000},
		{0x7ff0000000000000, 0x7ff0000000000000}, {0xfff0000000000000, 0xfff0000000000000},
		{0x7ff8000000000000, 0x7ff8000000000000}, {0x7ff8000000000001, 0x7ff8000000000000}, {0xfff8000000000000, 0x7ff8000000000000}, {0x7ff0000000000001, 0x7ff8000000000000}, {0xffffffffffffffff, 0x7ff8000000000000},
	} {
		if got := value.OfReal(bits(c.of)); !sameValue(got, one(atomReal(bits(c.want)))) || !value.Valid(got) {
			t.Errorf("OfReal(%016x) = %s", c.of, describe(got))
		}
	}
}

func TestOfBool(t *testing.T) {
	if got := value.OfBool(false); !sameValue(got, one(no)) {
		t.Errorf("OfBool(false) = %s", describe(got))
	}
	if got := value.OfBool(true); !sameValue(got, one(yes)) {
		t.Errorf("OfBool(true) = %s", describe(got))
	}
}

// P3.2

func TestCompare(t *testing.T) {
	all := values()
	for i, a := range all {
		for j, b := range all {
			want := max(-1, min(i-j, 1))
			if got := value.Compare(a, b); got != want {
				t.Errorf("Compare(%s, %s) = %d, not %d", describe(a), describe(b), got, want)
			}
		}
	}
}

func TestCompareNotValid(t *testing.T) {
	some := []api.Value{{}, one(yes), one(atomInt(-5)), one(atomReal(5)), one(atomText("a")), one(atomBytes("a")), list(), list(yes)}
	for _, v := range wrong() {
		for _, x := range append(some, v) {
			if value.Compare(v, x) != 0 || value.Compare(x, v) != 0 {
				t.Errorf("Compare of %s and %s isn't 0", describe(v), describe(x))
			}
		}
	}
}

// exact tells a number that is no NaN without bounds.
func exact(a api.Atom) *big.Float {
	if a.Kind == 2 {
		return new(big.Float).SetPrec(64).SetInt64(int64(a.N))
	}
	return new(big.Float).SetFloat64(a.F)
}

// manyNumbers tells numbers of all sizes, in no order, none a NaN.
func manyNumbers() []api.Atom {
	var all []api.Atom
	for k := range 64 {
		n := 1<<k - 1
		f := math.Ldexp(1, k)
		all = append(all, atomInt(n), atomInt(n+1), atomInt(n+2), atomInt(-n), atomInt(-n-1), atomInt(^n-1))
		all = append(all, atomReal(f), atomReal(-f), atomReal(math.Nextafter(f, 0)), atomReal(math.Nextafter(-f, -inf)), atomReal(f+0.5), atomReal(0.75-f))
	}
	return append(all, atomReal(inf), atomReal(-inf))
}

func TestCompareManyNumbers(t *testing.T) {
	all := manyNumbers()
	for _, a := range all {
		for _, b := range all {
			c := exact(a).Cmp(exact(b))
			want := c
			if c == 0 {
				want = max(-1, min(a.Kind-b.Kind, 1))
			}
			if got := value.Compare(one(a), one(b)); got != want {
				t.Errorf("Compare(%s, %s) = %d, not %d", describe(one(a)), describe(one(b)), got, want)
			}
			if got := value.Compare(list(yes, a), list(yes, b)); got != want {
				t.Errorf("Compare of lists of %s, %s = %d, not %d", describe(one(a)), describe(one(b)), got, want)
			}
			if got := value.Equal(one(a), one(b)); (got == value.Yes) != (c == 0) || got == value.Unknown {
				t.Errorf("Equal(%s, %s) = %d", describe(one(a)), describe(one(b)), got)
			}
			if got := value.Less(one(a), one(b)); (got == value.Yes) != (c < 0) || got == value.Unknown {
				t.Errorf("Less(%s, %s) = %d", describe(one(a)), describe(one(b)), got)
			}
		}
	}
}

// P3.3

func TestAnswers(t *testing.T) {
	if value.No != 0 || value.Yes != 1 || value.Unknown != 2 {
		t.Errorf("the answers are %d, %d, %d", value.No, value.Yes, value.Unknown)
	}
}

func TestEqualAndLess(t *testing.T) {
	const n, y, u = value.No, value.Yes, value.Unknown
	i, r, s, b, naN := atomInt, atomReal, atomText, atomBytes, atomReal(nan())
	for _, c := range []struct {
		a, b        api.Value
		equal, less int
	}{
		{one(null), one(null), u, u}, {one(null), one(i(2)), u, u}, {one(null), one(naN), u, u}, {one(null), list(), u, u}, {one(null), list(null), u, u}, {one(null), one(s("")), u, u},
		{one(no), one(no), y, n}, {one(no), one(yes), n, y}, {one(yes), one(no), n, n}, {one(yes), one(yes), y, n},
		{one(yes), one(i(1)), n, u}, {one(no), one(r(0)), n, u}, {one(no), one(s("")), n, u}, {one(no), list(), n, u}, {one(no), one(naN), n, u},
		{one(i(2)), one(r(2)), y, n}, {one(r(2)), one(i(2)), y, n}, {one(i(2)), one(i(3)), n, y}, {one(i(3)), one(i(2)), n, n}, {one(i(2)), one(r(2.5)), n, y}, {one(r(2.5)), one(i(2)), n, n},
		{one(i(1<<53 + 1)), one(r(1 << 53)), n, n}, {one(r(1 << 53)), one(i(1<<53 + 1)), n, y}, {one(i(maxInt)), one(r(1 << 63)), n, y}, {one(i(minInt)), one(r(-1 << 63)), y, n},
		{one(naN), one(naN), n, n}, {one(naN), one(r(inf)), n, n}, {one(r(inf)), one(naN), n, n}, {one(naN), one(i(2)), n, n}, {one(i(2)), one(naN), n, n}, {one(naN), one(s("a")), n, u}, {one(b("a")), one(naN), n, u}, {one(naN), list(), n, u},
		{one(r(inf)), one(r(inf)), y, n}, {one(r(-inf)), one(i(minInt)), n, y},
		{one(s("a")), one(s("a")), y, n}, {one(s("a")), one(s("b")), n, y}, {one(s("a")), one(s("")), n, n}, {one(s("\x7f")), one(s("\x80")), n, y}, {one(s("a")), one(b("a")), n, u}, {one(s("1")), one(i(1)), n, u},
		{one(b("a")), one(b("a")), y, n}, {one(b("a")), one(b("a\x00")), n, y}, {one(b("\xff")), one(b("a")), n, n},
		{list(), list(), y, u}, {list(), list(i(1)), n, u}, {list(i(1)), list(i(1)), y, u}, {list(i(1)), list(r(1)), y, u}, {list(i(1), r(2)), list(r(1), i(2)), y, u}, {list(i(1)), list(i(2)), n, u}, {list(i(1)), list(i(1), i(1)), n, u}, {list(i(1)), one(i(1)), n, u}, {list(s("a")), list(b("a")), n, u}, {list(yes), list(yes), y, u},
		{list(null), list(null), n, u}, {list(null), list(), n, u}, {list(i(1), null), list(i(1), null), n, u}, {list(naN), list(naN), n, u}, {list(naN), list(i(1)), n, u}, {list(i(1)), list(i(1), naN), n, u}, {list(i(1), null), list(i(1)), n, u},
		{list(null), one(i(1)), n, u}, {list(naN), one(naN), n, u}, {list(null), one(null), u, u},
	} {
		if got := value.Equal(c.a, c.b); got != c.equal {
			t.Errorf("Equal(%s, %s) = %d, not %d", describe(c.a), describe(c.b), got, c.equal)
		}
		if got := value.Equal(c.b, c.a); got != c.equal {
			t.Errorf("Equal(%s, %s) = %d, not %d", describe(c.b), describe(c.a), got, c.equal)
		}
		if got := value.Less(c.a, c.b); got != c.less {
			t.Errorf("Less(%s, %s) = %d, not %d", describe(c.a), describe(c.b), got, c.less)
		}
	}
}

func TestEqualAndLessNotValid(t *testing.T) {
	some := []api.Value{{}, one(yes), one(atomInt(-5)), one(atomReal(nan())), one(atomText("a")), one(atomBytes("a")), list(), list(null)}
	for _, v := range wrong() {
		for _, x := range append(some, v) {
			if value.Equal(v, x) != value.Unknown || value.Equal(x, v) != value.Unknown {
				t.Errorf("Equal of %s and %s isn't Unknown", describe(v), describe(x))
			}
			if value.Less(v, x) != value.Unknown || value.Less(x, v) != value.Unknown {
				t.Errorf("Less of %s and %s isn't Unknown", describe(v), describe(x))
			}
		}
	}
}

func isNumber(a api.Atom) bool { return a.Kind == 2 || a.Kind == 3 }
func isNaN(a api.Atom) bool    { return a.F != a.F }

// slowEqual and slowLess read the chapter word by word, of Valid values.
func slowEqual(a, b api.Value) int {
	if a.Kind == 0 || b.Kind == 0 {
		return 2
	}
	for _, x := range append(append([]api.Atom{a.Atom, b.Atom}, a.L...), b.L...) {
		if isNaN(x) || x.Kind == 0 {
			return 0
		}
	}
	switch {
	case isNumber(a.Atom) && isNumber(b.Atom) && exact(a.Atom).Cmp(exact(b.Atom)) == 0:
		return 1
	case a.Kind == 6 && b.Kind == 6 && len(a.L) == len(b.L):
		for i := range a.L {
			if slowEqual(one(a.L[i]), one(b.L[i])) != 1 {
				return 0
			}
		}
		return 1
	case sameValue(a, b):
		return 1
	}
	return 0
}

func slowLess(a, b api.Value) int {
	less := false
	switch {
	case a.Kind == 1 && b.Kind == 1:
		less = a.N < b.N
	case isNumber(a.Atom) && isNumber(b.Atom):
		less = !isNaN(a.Atom) && !isNaN(b.Atom) && exact(a.Atom).Cmp(exact(b.Atom)) < 0
	case a.Kind == 4 && b.Kind == 4, a.Kind == 5 && b.Kind == 5:
		less = a.S < b.S
	default:
		return 2
	}
	if less {
		return 1
	}
	return 0
}

func TestEqualAndLessOfMany(t *testing.T) {
	all := values()
	for _, a := range all {
		for _, b := range all {
			if got, want := value.Equal(a, b), slowEqual(a, b); got != want {
				t.Errorf("Equal(%s, %s) = %d, not %d", describe(a), describe(b), got, want)
			}
			if got, want := value.Less(a, b), slowLess(a, b); got != want {
				t.Errorf("Less(%s, %s) = %d, not %d", describe(a), describe(b), got, want)
			}
		}
	}
}

// P3.5

// TestOrder: TestCompare tells the order of values that are told by hand; here are all short lists of some atoms.
func TestOrder(t *testing.T) {
	some := []api.Atom{null, yes, atomInt(2), atomReal(2), atomReal(nan()), atomText("a"), atomBytes("a")}
	all := []api.Value{list()}
	for _, a := range some {
		all = append(all, one(a), list(a))
		for _, b := range some {
			all = append(all, list(a, b))
		}
	}
	slices.SortFunc(all, value.Compare)
	for i, a := range all {
		for j, b := range all {
			if got := value.Compare(a, b); got != max(-1, min(i-j, 1)) {
				t.Errorf("Compare(%s, %s) = %d", describe(a), describe(b), got)
			}
			if (value.Compare(a, b) == 0) != sameValue(a, b) {
				t.Errorf("%s and %s are like, and not the same", describe(a), describe(b))
			}
		}
	}
}

// Rule 4

// guarded tells a list with spare room, and a call that tells if it, and the room, are as they were.
func guarded(l ...api.Atom) (api.Value, func() bool) {
	room := append(slices.Clone(l), atomText("room"), atomInt(7))
	was := slices.Clone(room)
	return api.Value{Atom: api.Atom{Kind: 6}, L: room[:len(l)]}, func() bool { return slices.EqualFunc(room, was, same) }
}

func TestHandedIn(t *testing.T) {
	a, aIsAsItWas := guarded(atomInt(3), atomText("x"), atomInt(1))
	b, bIsAsItWas := guarded(atomInt(3), atomText("x"), atomInt(0))
	first := value.Compare(a, b)
	value.Valid(a)
	value.Equal(a, b)
	value.Less(a, b)
	value.Print(a)
	if !aIsAsItWas() || !bIsAsItWas() {
		t.Error("a list that was handed in is another")
	}
	if first != 1 || value.Compare(a, b) != 1 {
		t.Error("a call hangs on those ahead of it")
	}
}

// within tells if a text lies in the memory of another.
func within(s, of string) bool {
	from, at := uintptr(unsafe.Pointer(unsafe.StringData(of))), uintptr(unsafe.Pointer(unsafe.StringData(s)))
	return at >= from && at < from+uintptr(len(of))
}

func TestHandedOut(t *testing.T) {
	s := strings.Repeat("a", 200)
	if within(value.OfText(s).S, s) {
		t.Error("OfText keeps what it was given")
	}
	quoted := `["` + s + `", "` + s + `"]`
	v, _, _ := value.Read(quoted)
	again, _, _ := value.Read(quoted)
	for i := range v.L {
		if within(v.L[i].S, quoted) {
			t.Error("Read keeps what it was given")
		}
		v.L[i] = atomInt(1)
	}
	for _, a := range again.L {
		if a.S != s {
			t.Error("two lists that Read told are one")
		}
	}
}
