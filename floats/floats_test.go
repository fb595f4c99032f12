package floats_test

import (
	"cmp"
	"fmt"
	"math"
	"math/big"
	"slices"
	"strings"
	"testing"

	"cobweb/api"
	"cobweb/floats"
)

const (
	sign    = 1 << 63
	infBits = 0x7ff0000000000000
	nanBits = 0x7ff8000000000000
	maxKey  = math.MaxUint64
	maxInt  = math.MaxInt64
	minInt  = math.MinInt64
)

// kind is a float that the chapter or the issue names, by its bits.
type kind struct {
	bits  uint64
	class int
	canon uint64
	key   uint64
}

// kinds tells the named floats, rising, like ones side by side.
func kinds() []kind {
	const none = nanBits
	return []kind{
		{0xfff0000000000000, floats.MinusInf, 0xfff0000000000000, 0x000fffffffffffff},
		{0xffefffffffffffff, floats.Negative, 0xffefffffffffffff, 0x0010000000000000},
		{0xffeffffffffffffe, floats.Negative, 0xffeffffffffffffe, 0x0010000000000001},
		{0xc000000000000000, floats.Negative, 0xc000000000000000, 0x3fffffffffffffff},
		{0xbff0000000000001, floats.Negative, 0xbff0000000000001, 0x400ffffffffffffe},
		{0xbff0000000000000, floats.Negative, 0xbff0000000000000, 0x400fffffffffffff},
		{0xbfefffffffffffff, floats.Negative, 0xbfefffffffffffff, 0x4010000000000000},
		{0x8010000000000000, floats.Negative, 0x8010000000000000, 0x7fefffffffffffff},
		{0x800fffffffffffff, floats.Negative, 0x800fffffffffffff, 0x7ff0000000000000},
		{0x8000000000000002, floats.Negative, 0x8000000000000002, 0x7ffffffffffffffd},
		{0x8000000000000001, floats.Negative, 0x8000000000000001, 0x7ffffffffffffffe},
		{0x8000000000000000, floats.Zero, 0, 0x8000000000000000},
		{0x0000000000000000, floats.Zero, 0, 0x8000000000000000},
		{0x0000000000000001, floats.Positive, 0x0000000000000001, 0x8000000000000001},
		{0x0000000000000002, floats.Positive, 0x0000000000000002, 0x8000000000000002},
		{0x000fffffffffffff, floats.Positive, 0x000fffffffffffff, 0x800fffffffffffff},
		{0x0010000000000000, floats.Positive, 0x0010000000000000, 0x8010000000000000},
		{0x3fefffffffffffff, floats.Positive, 0x3fefffffffffffff, 0xbfefffffffffffff},
		{0x3ff0000000000000, floats.Positive, 0x3ff0000000000000, 0xbff0000000000000},
		{0x3ff0000000000001, floats.Positive, 0x3ff0000000000001, 0xbff0000000000001},
		{0x7feffffffffffffe, floats.Positive, 0x7feffffffffffffe, 0xffeffffffffffffe},
		{0x7fefffffffffffff, floats.Positive, 0x7fefffffffffffff, 0xffefffffffffffff},
		{0x7ff0000000000000, floats.PlusInf, 0x7ff0000000000000, 0xfff0000000000000},
		{0x7ff0000000000001, floats.NaN, none, maxKey}, // one that signals
		{0x7ff4000000000000, floats.NaN, none, maxKey},
		{0x7ff7ffffffffffff, floats.NaN, none, maxKey},
		{0x7ff8000000000000, floats.NaN, none, maxKey}, // one that is quiet
		{0x7ff8000000000001, floats.NaN, none, maxKey},
		{0x7fffffffffffffff, floats.NaN, none, maxKey},
		{0xfff0000000000001, floats.NaN, none, maxKey}, // and with the sign
		{0xfff7ffffffffffff, floats.NaN, none, maxKey},
		{0xfff8000000000000, floats.NaN, none, maxKey},
		{0xffffffffffffffff, floats.NaN, none, maxKey},
	}
}

// of tells the float of some bits.
func of(u uint64) float64 { return math.Float64frombits(u) }

// is tells if two floats are one, bit by bit.
func is(a, b float64) bool { return math.Float64bits(a) == math.Float64bits(b) }

// ints tells whole numbers at all the edges, rising.
func ints() []int {
	all := []int{minInt, minInt + 1, minInt + 511, minInt + 512, minInt + 513, minInt + 1023, minInt + 1024, minInt + 1025, maxInt - 1024, maxInt - 1023, maxInt - 512, maxInt - 511, maxInt - 1, maxInt, 0}
	for k := range 63 {
		for _, more := range []int{-1025, -513, -3, -2, -1, 0, 1, 2, 3, 513, 1023, 1025} {
			if n := 1<<k + more; n > 0 {
				all = append(all, n, -n)
			}
		}
		all = append(all, 0x123456789abcdef>>(k%60), -0x123456789abcdef>>(k%60), 0x7123456789abcdef&(1<<k-1))
	}
	slices.Sort(all)
	return slices.Compact(all)
}

// some tells floats at all the edges, in no order.
func some() []float64 {
	var all []float64
	for _, k := range kinds() {
		all = append(all, of(k.bits))
	}
	for k := range 70 {
		f := math.Ldexp(1, k)
		all = append(all, f, math.Nextafter(f, 0), math.Nextafter(f, math.Inf(1)), f+0.5, f-0.5, 1/f)
		all = append(all, -f, math.Nextafter(-f, 0), math.Nextafter(-f, math.Inf(-1)), -f+0.5, -f-0.5, -1/f)
	}
	for u := uint64(1); u < 64; u++ {
		b := u * 0x9e3779b97f4a7c15 // bits in no order at all
		all = append(all, of(b), of(b|sign), of(b&(1<<61-1)|1<<61), of(b&(1<<58-1)|0x43<<56))
	}
	return all
}

// exact tells a float that is no NaN as a number without bounds; exactInt a whole number.
func exact(f float64) *big.Float { return new(big.Float).SetFloat64(f) }
func exactInt(n int) *big.Float  { return new(big.Float).SetPrec(64).SetInt64(int64(n)) }

func describe(f float64) string { return fmt.Sprintf("%v (%016x)", f, math.Float64bits(f)) }

// compare tells the order of two floats, without package floats.
func compare(a, b float64) int {
	switch {
	case a != a && b != b:
		return 0
	case a != a:
		return 1
	case b != b:
		return -1
	}
	return exact(a).Cmp(exact(b))
}

// P2.1

func TestClass(t *testing.T) {
	for _, k := range kinds() {
		if got := floats.Class(of(k.bits)); got != k.class {
			t.Errorf("Class(%016x) = %d, not %d", k.bits, got, k.class)
		}
	}
	names := []int{floats.NaN, floats.MinusInf, floats.Negative, floats.Zero, floats.Positive, floats.PlusInf}
	if !slices.Equal(names, []int{0, 1, 2, 3, 4, 5}) {
		t.Errorf("the classes are %v", names)
	}
}

func TestClassOfMany(t *testing.T) {
	for _, f := range some() {
		want := floats.Zero
		switch {
		case f != f:
			want = floats.NaN
		case f < -math.MaxFloat64:
			want = floats.MinusInf
		case f < 0:
			want = floats.Negative
		case f > math.MaxFloat64:
			want = floats.PlusInf
		case f > 0:
			want = floats.Positive
		}
		if got := floats.Class(f); got != want {
			t.Errorf("Class(%s) = %d, not %d", describe(f), got, want)
		}
	}
}

func TestCanon(t *testing.T) {
	for _, k := range kinds() {
		if got := math.Float64bits(floats.Canon(of(k.bits))); got != k.canon {
			t.Errorf("Canon(%016x) = %016x, not %016x", k.bits, got, k.canon)
		}
	}
	for _, f := range some() {
		got := floats.Canon(f)
		if f == f && f != 0 && !is(got, f) || !is(floats.Canon(got), got) {
			t.Errorf("Canon(%s) = %s", describe(f), describe(got))
		}
	}
}

// P2.2

func TestKey(t *testing.T) {
	for _, k := range kinds() {
		if got := floats.Key(of(k.bits)); got != k.key {
			t.Errorf("Key(%016x) = %016x, not %016x", k.bits, got, k.key)
		}
	}
}

func TestOf(t *testing.T) {
	for _, k := range kinds() {
		if got, ok := floats.Of(k.key); !ok || math.Float64bits(got) != k.canon {
			t.Errorf("Of(%016x) = %s, %v, not %016x", k.key, describe(got), ok, k.canon)
		}
	}
}

func TestOfNoFloat(t *testing.T) {
	for _, key := range []uint64{
		0, 1, 2,
		0x0007fffffffffffe, 0x0007ffffffffffff, 0x0008000000000000, // where a NaN with the sign would stand
		0x000ffffffffffffd, 0x000ffffffffffffe, // beside minus infinity
		0x7fffffffffffffff,                     // where minus zero would stand
		0xfff0000000000001, 0xfff0000000000002, // beside infinity
		0xfff7ffffffffffff, 0xfff8000000000000, 0xfff8000000000001, // where a NaN would stand
		0xfffffffffffffffd, 0xfffffffffffffffe,
	} {
		if got, ok := floats.Of(key); ok || !is(got, 0) {
			t.Errorf("Of(%016x) = %s, %v", key, describe(got), ok)
		}
	}
}

func TestOfIsKeyBackward(t *testing.T) {
	for _, f := range some() {
		for _, d := range []uint64{0, 1, maxKey, 1 << 52, sign} {
			key := floats.Key(f) + d
			got, ok := floats.Of(key)
			within := key >= 0x000fffffffffffff && key <= 0xfff0000000000000 && key != 0x7fffffffffffffff || key == maxKey
			if ok != within || ok && (floats.Key(got) != key || !is(floats.Canon(got), got)) || !ok && !is(got, 0) {
				t.Errorf("Of(%016x) = %s, %v", key, describe(got), ok)
			}
		}
	}
}

// P2.3

func TestCompare(t *testing.T) {
	nan, inf, minus := math.NaN(), math.Inf(1), math.Copysign(0, -1)
	for _, c := range []struct {
		a, b float64
		want int
	}{
		{0, 0, 0}, {minus, 0, 0}, {minus, minus, 0}, {minus, 5e-324, -1}, {minus, -5e-324, 1},
		{1, 2, -1}, {-1, -2, 1}, {-1, 1, -1}, {0.1, 0.2, -1}, {1e300, 1e301, -1}, {-1e300, -1e301, 1},
		{1, math.Nextafter(1, 2), -1}, {1, math.Nextafter(1, 0), 1}, {5e-324, 0, 1}, {5e-324, 1e-323, -1},
		{inf, math.MaxFloat64, 1}, {-inf, -math.MaxFloat64, -1}, {inf, inf, 0}, {-inf, -inf, 0}, {-inf, inf, -1},
		{nan, inf, 1}, {nan, -inf, 1}, {nan, 0, 1}, {nan, math.MaxFloat64, 1}, {nan, nan, 0},
		{of(0xfff8000000000000), inf, 1}, {of(0xffffffffffffffff), -inf, 1}, {of(0x7ff0000000000001), of(0xffffffffffffffff), 0},
	} {
		if got := floats.Compare(c.a, c.b); got != c.want {
			t.Errorf("Compare(%s, %s) = %d, not %d", describe(c.a), describe(c.b), got, c.want)
		}
		if got := floats.Compare(c.b, c.a); got != -c.want {
			t.Errorf("Compare(%s, %s) = %d, not %d", describe(c.b), describe(c.a), got, -c.want)
		}
	}
}

func TestCompareOfMany(t *testing.T) {
	all := some()
	for _, a := range all {
		for _, b := range all {
			if got := floats.Compare(a, b); got != compare(a, b) {
				t.Fatalf("Compare(%s, %s) = %d", describe(a), describe(b), got)
			}
		}
	}
}

func TestCompareInt(t *testing.T) {
	inf, minus := math.Inf(1), math.Copysign(0, -1)
	for _, c := range []struct {
		n    int
		f    float64
		want int
	}{
		{0, 0, 0}, {0, minus, 0}, {0, 5e-324, -1}, {0, -5e-324, 1}, {1, minus, 1}, {-1, minus, -1},
		{3, 3, 0}, {3, 3.5, -1}, {4, 3.5, 1}, {-3, -3.5, 1}, {-4, -3.5, -1}, {-3, -3, 0}, {1, math.Nextafter(1, 2), -1}, {1, math.Nextafter(1, 0), 1},
		{1<<53 - 1, 1 << 53, -1}, {1 << 53, 1 << 53, 0}, {1<<53 + 1, 1 << 53, 1}, {1<<53 + 1, 1<<53 + 2, -1}, {1<<53 + 2, 1<<53 + 2, 0}, {1<<53 + 3, 1<<53 + 2, 1}, {1<<53 + 3, 1<<53 + 4, -1},
		{-1<<53 + 1, -1 << 53, 1}, {-1 << 53, -1 << 53, 0}, {-1<<53 - 1, -1 << 53, -1}, {-1<<53 - 1, -1<<53 - 2, 1}, {-1<<53 - 3, -1<<53 - 4, 1},
		{maxInt, 1 << 63, -1}, {maxInt, 1<<63 - 1024, 1}, {maxInt - 1023, 1<<63 - 1024, 0}, {maxInt - 1024, 1<<63 - 1024, -1}, {maxInt, 1 << 64, -1}, {maxInt, -1 << 63, 1},
		{minInt, -1 << 63, 0}, {minInt + 1, -1 << 63, 1}, {minInt, -1<<63 - 2048, 1}, {minInt, -1<<63 + 1024, -1}, {minInt + 1024, -1<<63 + 1024, 0}, {minInt, 1 << 63, -1},
		{maxInt, math.MaxFloat64, -1}, {minInt, -math.MaxFloat64, 1}, {maxInt, inf, -1}, {minInt, inf, -1}, {maxInt, -inf, 1}, {minInt, -inf, 1}, {0, inf, -1}, {0, -inf, 1},
		{maxInt, math.NaN(), -1}, {minInt, math.NaN(), -1}, {0, of(0xfff8000000000000), -1}, {0, of(0xffffffffffffffff), -1}, {0, of(0x7ff0000000000001), -1},
	} {
		if got := floats.CompareInt(c.n, c.f); got != c.want {
			t.Errorf("CompareInt(%d, %s) = %d, not %d", c.n, describe(c.f), got, c.want)
		}
	}
}

func TestCompareIntOfMany(t *testing.T) {
	all := some()
	for _, n := range ints() {
		near := []float64{float64(n), math.Nextafter(float64(n), math.Inf(-1)), math.Nextafter(float64(n), math.Inf(1))}
		for _, f := range append(near, all...) {
			want := -1
			if f == f {
				want = exactInt(n).Cmp(exact(f))
			}
			if got := floats.CompareInt(n, f); got != want {
				t.Fatalf("CompareInt(%d, %s) = %d, not %d", n, describe(f), got, want)
			}
		}
	}
}

// P2.4

func TestFloor(t *testing.T) {
	for _, c := range []struct {
		n    int
		f    float64
		rest int
	}{
		{0, 0, 0}, {1, 1, 0}, {-1, -1, 0}, {7, 7, 0}, {-7, -7, 0},
		{1<<53 - 1, 1<<53 - 1, 0}, {1 << 53, 1 << 53, 0}, {1<<53 + 1, 1 << 53, 1}, {1<<53 + 2, 1<<53 + 2, 0}, {1<<53 + 3, 1<<53 + 2, 1},
		{-1<<53 + 1, -1<<53 + 1, 0}, {-1 << 53, -1 << 53, 0}, {-1<<53 - 1, -1<<53 - 2, 1}, {-1<<53 - 2, -1<<53 - 2, 0}, {-1<<53 - 3, -1<<53 - 4, 1},
		{1<<54 - 1, 1<<54 - 2, 1}, {1<<54 + 1, 1 << 54, 1}, {1<<54 + 3, 1 << 54, 3}, {1<<54 + 4, 1<<54 + 4, 0}, {-1<<54 + 1, -1 << 54, 1}, {-1<<54 - 1, -1<<54 - 4, 3},
		{maxInt, 1<<63 - 1024, 1023}, {maxInt - 1, 1<<63 - 1024, 1022}, {maxInt - 1023, 1<<63 - 1024, 0}, {maxInt - 1024, 1<<63 - 2048, 1023}, {1<<62 - 1, 1<<62 - 512, 511}, {1<<62 + 1, 1 << 62, 1},
		{minInt, -1 << 63, 0}, {minInt + 1, -1 << 63, 1}, {minInt + 1023, -1 << 63, 1023}, {minInt + 1024, -1<<63 + 1024, 0}, {-1 << 62, -1 << 62, 0}, {-1<<62 + 1, -1 << 62, 1}, {-1<<62 - 1, -1<<62 - 1024, 1023},
	} {
		if f, rest := floats.Floor(c.n); !is(f, c.f) || rest != c.rest {
			t.Errorf("Floor(%d) = %s, %d, not %s, %d", c.n, describe(f), rest, describe(c.f), c.rest)
		}
	}
}

func TestWhole(t *testing.T) {
	minus := math.Copysign(0, -1)
	for _, c := range []struct {
		f  float64
		n  int
		ok bool
	}{
		{0, 0, true}, {minus, 0, true}, {1, 1, true}, {-1, -1, true}, {123456, 123456, true},
		{1<<53 - 1, 1<<53 - 1, true}, {1 << 53, 1 << 53, true}, {1<<53 + 2, 1<<53 + 2, true}, {-1 << 53, -1 << 53, true}, {-1<<53 - 2, -1<<53 - 2, true},
		{1<<63 - 1024, maxInt - 1023, true}, {-1 << 63, minInt, true}, {-1<<63 + 1024, minInt + 1024, true},
		{1 << 63, 0, false}, {-1<<63 - 2048, 0, false}, {1<<63 + 2048, 0, false}, {1 << 64, 0, false}, {-1 << 64, 0, false}, {1 << 65, 0, false},
		{math.MaxFloat64, 0, false}, {-math.MaxFloat64, 0, false}, {math.Inf(1), 0, false}, {math.Inf(-1), 0, false},
		{math.NaN(), 0, false}, {of(0xfff8000000000000), 0, false}, {of(0x7ff0000000000001), 0, false}, {of(0xffffffffffffffff), 0, false},
		{0.5, 0, false}, {-0.5, 0, false}, {1.5, 0, false}, {-1.5, 0, false}, {5e-324, 0, false}, {-5e-324, 0, false},
		{math.Nextafter(1, 0), 0, false}, {math.Nextafter(1, 2), 0, false}, {1<<52 - 0.5, 0, false}, {-1<<52 + 0.5, 0, false}, {1<<52 + 1, 1<<52 + 1, true},
	} {
		if n, ok := floats.Whole(c.f); n != c.n || ok != c.ok {
			t.Errorf("Whole(%s) = %d, %v, not %d, %v", describe(c.f), n, ok, c.n, c.ok)
		}
	}
}

func TestWholeOfMany(t *testing.T) {
	least, greatest := exactInt(minInt), exactInt(maxInt)
	for _, f := range some() {
		n, ok := floats.Whole(f)
		want := f == f && exact(f).IsInt() && exact(f).Cmp(least) >= 0 && exact(f).Cmp(greatest) <= 0
		if ok != want || ok && exactInt(n).Cmp(exact(f)) != 0 || !ok && n != 0 {
			t.Errorf("Whole(%s) = %d, %v", describe(f), n, ok)
		}
	}
}

// P2.5

func TestHex(t *testing.T) {
	for _, k := range kinds() {
		if got, want := floats.Hex(of(k.bits)), fmt.Sprintf("%016x", k.canon); got != want {
			t.Errorf("Hex(%016x) = %q, not %q", k.bits, got, want)
		}
	}
	for _, c := range []struct {
		f    float64
		want string
	}{
		{1, "3ff0000000000000"}, {0, "0000000000000000"}, {math.Copysign(0, -1), "0000000000000000"}, {math.NaN(), "7ff8000000000000"},
		{of(0x0123456789abcdef), "0123456789abcdef"}, {of(0xedcba98765432100), "edcba98765432100"},
	} {
		if got := floats.Hex(c.f); got != c.want {
			t.Errorf("Hex(%s) = %q, not %q", describe(c.f), got, c.want)
		}
	}
}

func TestParse(t *testing.T) {
	for _, u := range []uint64{0, 1, 0x3ff0000000000000, 0xc000000000000000, 0x8000000000000001, 0x0123456789abcdef, 0xedcba98765432100, 0x7fefffffffffffff, 0xffefffffffffffff, infBits, sign | infBits, nanBits} {
		if f, e := floats.Parse(fmt.Sprintf("%016x", u)); math.Float64bits(f) != u || e != api.OK {
			t.Errorf("Parse(%016x) = %s, %d", u, describe(f), e)
		}
	}
}

func TestParseNoFloat(t *testing.T) {
	for _, s := range []string{
		"", "3", "3ff000000000000", "3ff00000000000000", "3ff0000000000000\x00", "3ff0000000000000 ", " 3ff000000000000", " 3ff0000000000000",
		"3FF0000000000000", "3ff000000000000F", "A000000000000000", "F000000000000000", "3ff000000000000g", "3ff000000000000`", "3ff000000000000G", "3ff000000000000@",
		"3ff000000000000/", "3ff000000000000:", "/ff0000000000000", "+ff0000000000000", "-ff0000000000000", "0x00000000000000", "0x3ff0000000000000", "3ff0_00000000000", "3ff000000000000.",
		"3ff000000000000\x00", "\x003ff00000000000", "3ff000000000000\xff", "3ff00000000000\xc3\xa4", "3ff00000000000\n0",
		"8000000000000000",
		"7ff0000000000001", "7ff7ffffffffffff", "7ff8000000000001", "7fffffffffffffff", "fff0000000000001", "fff8000000000000", "ffffffffffffffff",
		strings.Repeat("0", 15), strings.Repeat("0", 17), strings.Repeat("0", 32), strings.Repeat("g", 16), strings.Repeat("0", 1<<16),
	} {
		if f, e := floats.Parse(s); !is(f, 0) || e != api.ErrForm {
			t.Errorf("Parse(%.40q) = %s, %d", s, describe(f), e)
		}
	}
}

func TestParseOfEachByte(t *testing.T) {
	const good = "3fe123456789abcd"
	for at := range len(good) {
		for c := range 256 {
			s := good[:at] + string([]byte{byte(c)}) + good[at+1:]
			f, e := floats.Parse(s)
			digit := c >= '0' && c <= '9' || c >= 'a' && c <= 'f'
			want := digit && s[:3] != "7ff" && s[:3] != "fff" // those are NaN
			if want && (e != api.OK || floats.Hex(f) != s) || !want && (e != api.ErrForm || !is(f, 0)) {
				t.Errorf("Parse(%q) = %s, %d", s, describe(f), e)
			}
		}
	}
}

func TestParseIsHexBackward(t *testing.T) {
	for _, f := range some() {
		s := floats.Hex(f)
		if got, e := floats.Parse(s); !is(got, floats.Canon(f)) || e != api.OK || len(s) != 16 {
			t.Errorf("Parse(%q) = %s, %d, of %s", s, describe(got), e, describe(f))
		}
		plain := fmt.Sprintf("%016x", math.Float64bits(f))
		if got, e := floats.Parse(plain); (e == api.OK) != (s == plain) || e != api.OK && (e != api.ErrForm || !is(got, 0)) {
			t.Errorf("Parse(%q) = %s, %d", plain, describe(got), e)
		}
	}
}

// P2.6

func TestKeysAreInOrder(t *testing.T) {
	all := some()
	for _, a := range all {
		for _, b := range all {
			got := cmp.Compare(floats.Key(a), floats.Key(b))
			if got != floats.Compare(a, b) || got != compare(a, b) {
				t.Fatalf("%s and %s: %016x and %016x", describe(a), describe(b), floats.Key(a), floats.Key(b))
			}
		}
	}
}

func TestFloatsAreLikeThoseOfTheirKeys(t *testing.T) {
	for _, f := range some() {
		if got, ok := floats.Of(floats.Key(f)); !ok || compare(f, got) != 0 || !is(got, floats.Canon(f)) {
			t.Errorf("Of(Key(%s)) = %s, %v", describe(f), describe(got), ok)
		}
	}
}

func TestFloorAndRestAreTheNumber(t *testing.T) {
	for _, n := range ints() {
		f, rest := floats.Floor(n)
		sum := new(big.Float).SetPrec(128).Add(exact(f), exactInt(rest))
		if sum.Cmp(exactInt(n)) != 0 || rest < 0 || rest > 2047 {
			t.Errorf("Floor(%d) = %s, %d", n, describe(f), rest)
		}
		if exactInt(n).Cmp(exact(math.Nextafter(f, math.Inf(1)))) != -1 {
			t.Errorf("Floor(%d) = %s, and there is a greater float", n, describe(f))
		}
		want, _ := new(big.Float).SetPrec(53).SetMode(big.ToNegativeInf).SetInt64(int64(n)).Float64()
		if !is(f, want) {
			t.Errorf("Floor(%d) = %s, not %s", n, describe(f), describe(want))
		}
		if whole, ok := floats.Whole(f); !ok || whole != n-rest {
			t.Errorf("Whole(%s) = %d, %v", describe(f), whole, ok)
		}
	}
}

func TestNumbersBesideFloatsOfEachSize(t *testing.T) {
	for k := 53; k < 63; k++ {
		for _, steps := range []int{1, 2, 5, 1<<52 - 1} {
			up := 1<<k + steps<<(k-52) // a float, and those beside it are more than 1 away
			for _, at := range []int{up, -up} {
				for d := -1; d <= 1; d++ {
					if got := floats.CompareInt(at+d, float64(at)); got != d {
						t.Errorf("CompareInt(%d, %s) = %d, not %d", at+d, describe(float64(at)), got, d)
					}
				}
			}
		}
	}
}
