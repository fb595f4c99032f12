package share_test

import (
	"math"
	"math/rand"
	"slices"
	"testing"

	"cobweb/share"
)

const (
	maxInt = math.MaxInt
	minInt = math.MinInt
	size   = 1 << 20 // the greatest size
	sizes  = 4096    // how many there are at most
)

func cut(t *testing.T, in []int, most, want int, is bool) {
	t.Helper()
	if k, ok := share.Cut(in, most); k != want || ok != is {
		t.Errorf("Cut of %d sizes %v, at most %d: %d %v, not %d %v", len(in), in[:min(8, len(in))], most, k, ok, want, is)
	}
}

// many tells n sizes s.
func many(s, n int) []int { return slices.Repeat([]int{s}, n) }

// with tells the list with s at place i.
func with(in []int, i, s int) []int {
	out := slices.Clone(in)
	out[i] = s
	return out
}

// P12.1

func TestCutsByHand(t *testing.T) {
	for _, c := range []struct {
		in         []int
		most, want int
	}{
		{[]int{3, 3, 4}, 7, 2},
		{[]int{3, 3, 4}, 6, 2},
		{[]int{3, 3, 4}, 10, 2},
		{[]int{4, 3, 3}, 6, 1},
		{[]int{4, 3, 3}, maxInt, 1},
		{[]int{1, 1}, 1, 1},
		{[]int{5, 5, 5}, 10, 1}, // 5 and 10, 10 and 5
		{[]int{5, 0, 5}, 5, 1},  // twice 5 and 5
		{[]int{0, 5, 5, 0}, 5, 2},
		{[]int{0, 0, 5, 0, 0, 5, 0}, 5, 3},
		{[]int{9, 1, 1}, 9, 1},
		{[]int{1, 1, 9}, 9, 2},
		{[]int{9, 0}, 9, 1},
		{[]int{0, 9}, 9, 1},
		{[]int{0, 0, 9}, 9, 1}, // 0 and 9, twice
		{[]int{9, 0, 0}, 9, 1},
		{[]int{0, 0}, 0, 1},
		{[]int{0, 0, 0}, 0, 1},
		{[]int{1, 2, 3, 4, 5, 6}, 12, 4},
		{[]int{6, 5, 4, 3, 2, 1}, 11, 2},
		{[]int{2, 2, 1, 2, 2}, 5, 2}, // 4 and 5, 5 and 4
		{[]int{2, 2, 2, 2}, 4, 2},
		{[]int{7, 7}, 7, 1},
	} {
		cut(t, c.in, c.most, c.want, true)
	}
}

func TestNoCutByHand(t *testing.T) {
	for _, c := range []struct {
		in   []int
		most int
	}{
		{nil, 0}, {nil, 9}, {nil, maxInt}, {[]int{}, 9},
		{[]int{8}, 9}, {[]int{0}, 0}, {[]int{0}, maxInt}, {[]int{size}, maxInt},
		{[]int{8, 1}, 7}, {[]int{1, 8}, 7}, {[]int{1, 8, 1}, 8}, {[]int{3, 3, 4}, 5},
		{[]int{1, 0}, 0}, {[]int{0, 1}, 0}, {[]int{2, 2, 2}, 3}, {[]int{0, 9, 0}, 8},
		{[]int{3, 3}, -1}, {[]int{0, 0}, -1}, {[]int{3, 3}, minInt}, {nil, -1}, {[]int{-3, -3}, -1},
		{[]int{-1, 3}, 9}, {[]int{3, -1}, 9}, {[]int{3, -1, 3}, 9}, {[]int{minInt, 3}, 9}, {[]int{3, minInt, minInt, 3}, maxInt},
		{[]int{size + 1, 3}, maxInt}, {[]int{3, size + 1}, maxInt}, {[]int{3, size + 1, 3}, maxInt},
		{[]int{maxInt, 1}, maxInt}, {[]int{maxInt, maxInt, 2}, maxInt}, {[]int{1, maxInt, minInt}, 9},
	} {
		cut(t, c.in, c.most, 0, false)
	}
}

func TestCutAtTheGreatestSize(t *testing.T) {
	cut(t, []int{size, size}, size, 1, true)
	cut(t, []int{size, size}, size-1, 0, false)
	cut(t, []int{size, 0, size - 1}, maxInt, 1, true)
	all := many(size, sizes)
	cut(t, all, maxInt, sizes/2, true)
	cut(t, all, size*sizes/2, sizes/2, true)
	cut(t, all, size*sizes/2-1, 0, false)
	for _, i := range []int{0, 1, sizes / 2, sizes - 1} {
		cut(t, with(all, i, size+1), maxInt, 0, false)
		cut(t, with(all, i, -1), maxInt, 0, false)
	}
}

func TestCutOfTheMostSizes(t *testing.T) {
	for _, s := range []int{1, 7} {
		cut(t, many(s, sizes-1), maxInt, (sizes-1)/2, true)
		cut(t, many(s, sizes), maxInt, sizes/2, true)
		cut(t, many(s, sizes+1), maxInt, 0, false)
		cut(t, many(s, 2*sizes), maxInt, 0, false)
	}
	cut(t, many(0, sizes), 0, 1, true)
	cut(t, many(0, sizes+1), 0, 0, false)
	cut(t, append(many(0, sizes-1), 5), 5, 1, true)
	cut(t, append([]int{5}, many(0, sizes-1)...), 5, 1, true)
	cut(t, append([]int{5, 5}, many(0, sizes-2)...), 5, 1, true)
	cut(t, append(many(0, sizes-2), 5, 5), 5, sizes-1, true)
}

// everyList hands out all lists of up to n sizes out of the alphabet.
func everyList(alphabet []int, n int, each func([]int)) {
	var grow func([]int)
	grow = func(in []int) {
		each(in)
		if len(in) == n {
			return
		}
		for _, s := range alphabet {
			grow(append(slices.Clone(in), s))
		}
	}
	grow(nil)
}

func TestCutOfAllShortLists(t *testing.T) {
	everyList([]int{0, 1, 2, 3, 5}, 5, func(in []int) {
		for _, most := range []int{-1, 0, 1, 2, 3, 4, 5, 6, 7, 8, 10, 13, 25} {
			want, is := slowCut(in, most)
			cut(t, in, most, want, is)
		}
	})
}

func TestCutOfAllShortListsOfEdges(t *testing.T) {
	everyList([]int{minInt, -1, 0, 1, size - 1, size, size + 1, maxInt}, 3, func(in []int) {
		for _, most := range []int{minInt, -1, 0, 1, size - 1, size, size + 1, 2*size - 1, 2 * size, maxInt - 1, maxInt} {
			want, is := slowCut(in, most)
			cut(t, in, most, want, is)
		}
	})
}

// someSizes tells up to n sizes by chance, of a kind by chance.
func someSizes(r *rand.Rand, n int) []int {
	in := make([]int, r.Intn(n+1))
	top := []int{1, 2, 10, 163, 493, 4096, size}[r.Intn(7)]
	for i := range in {
		in[i] = r.Intn(top + 1)
	}
	return in
}

func total(in []int) int {
	all := 0
	for _, s := range in {
		all += s
	}
	return all
}

func TestCutByChance(t *testing.T) {
	r := rand.New(rand.NewSource(121))
	for range 6000 {
		in := someSizes(r, 24)
		all := total(in)
		for _, most := range []int{all, all - 1, all / 2, all/2 + 1, (all + 1) / 2, all * 2 / 3, r.Intn(all + 2)} {
			want, is := slowCut(in, most)
			cut(t, in, most, want, is)
		}
	}
}

func TestCutOfLongListsByChance(t *testing.T) {
	r := rand.New(rand.NewSource(122))
	for range 20 {
		in := someSizes(r, 400)
		all := total(in)
		for _, most := range []int{all, all / 2, (all+1)/2 + 1, all * 2 / 3} {
			want, is := slowCut(in, most)
			cut(t, in, most, want, is)
		}
	}
}

// P12.2

// edges tells numbers around those that matter.
func edges() []int {
	out := []int{minInt, minInt + 1, minInt / 2, minInt / 4, minInt/4 - 1, -1 << 32, -493, -2, -1}
	for n := range 14 {
		out = append(out, n)
	}
	out = append(out, 123, 124, 246, 247, 492, 493, 494, size, 1<<32)
	for _, n := range []int{1 << 59, 1 << 60, 1 << 61, maxInt / 4, maxInt / 3, maxInt / 2, 1 << 62} {
		out = append(out, n-1, n, n+1)
	}
	return append(out, maxInt-2, maxInt-1, maxInt)
}

func TestFitsByHand(t *testing.T) {
	for _, c := range []struct {
		a, b, more, most int
		want             bool
	}{
		{1, 2, 3, 6, true}, {1, 2, 3, 7, true}, {1, 2, 3, 5, false},
		{0, 0, 0, 0, true}, {0, 0, 0, -1, false}, {0, 0, 0, minInt, false},
		{1, 0, 0, 0, false}, {0, 1, 0, 0, false}, {0, 0, 1, 0, false},
		{-1, 2, 3, 9, false}, {1, -2, 3, 9, false}, {1, 2, -3, 9, false},
		{-1, -1, -1, 9, false}, {-1, -1, -1, -3, false}, {minInt, minInt, 5, 9, false}, {minInt, 1, 1, maxInt, false},
		{6, 0, 0, 6, true}, {0, 6, 0, 6, true}, {0, 0, 6, 6, true},
		{7, 0, 0, 6, false}, {0, 7, 0, 6, false}, {0, 0, 7, 6, false},
		{7, -1, 0, 6, false}, {-1, 7, 0, 6, false}, {0, -1, 7, 6, false},
		{maxInt, 0, 0, maxInt, true}, {0, maxInt, 0, maxInt, true}, {0, 0, maxInt, maxInt, true},
		{maxInt, 1, 0, maxInt, false}, {0, maxInt, 1, maxInt, false}, {maxInt, maxInt, 2, maxInt, false},
		{maxInt, maxInt, maxInt, maxInt, false}, {maxInt, maxInt, 2, 0, false}, {maxInt, maxInt, 1, -1, false},
		{1 << 62, 1 << 62, 1 << 62, 1 << 62, false}, {1 << 62, 1<<62 - 1, 0, maxInt, true}, {1 << 62, 1 << 62, 0, maxInt, false},
	} {
		if got := share.Fits(c.a, c.b, c.more, c.most); got != c.want {
			t.Error("Fits", c.a, c.b, c.more, c.most, got)
		}
	}
}

func TestPoorByHand(t *testing.T) {
	for _, c := range []struct {
		a, most int
		want    bool
	}{
		{2, 9, true}, {3, 9, false}, {-1, 9, false}, {2, 8, false}, {1, 8, true}, {1, 5, true}, {1, 4, false},
		{0, 1, true}, {0, 0, false}, {0, -1, false}, {0, -9, false}, {0, minInt, false}, {-1, 0, false}, {-1, minInt, false}, {-3, -1, false},
		{123, 493, true}, {124, 493, false}, {minInt, maxInt, false}, {minInt, 9, false}, {minInt / 4, 9, false},
		{1 << 61, maxInt, false}, {1<<61 - 1, maxInt, true}, {1 << 62, maxInt, false}, {1<<62 + 1, 9, false}, {maxInt, maxInt, false}, {maxInt, 9, false},
		{1<<60 - 1, 1 << 62, true}, {1 << 60, 1 << 62, false}, {1 << 60, 1<<62 + 1, true},
	} {
		if got := share.Poor(c.a, c.most); got != c.want {
			t.Error("Poor", c.a, c.most, got)
		}
	}
}

func TestFitsAndPoorAtTheEdges(t *testing.T) {
	in := edges()
	few := []int{minInt, -1, 0, 1, 2, 247, 493, 1 << 61, 1<<62 - 1, 1 << 62, maxInt - 1, maxInt}
	for _, a := range in {
		for _, b := range in {
			if got := share.Poor(a, b); got != slowPoor(a, b) {
				t.Error("Poor", a, b, got)
			}
			for _, more := range few {
				for _, most := range few {
					if got := share.Fits(a, b, more, most); got != slowFits(a, b, more, most) {
						t.Error("Fits", a, b, more, most, got)
					}
				}
			}
		}
	}
}

func TestFitsAndPoorOfSmallNumbers(t *testing.T) {
	for a := -2; a < 9; a++ {
		for most := -40; most < 40; most++ {
			if got := share.Poor(a, most); got != (a >= 0 && 4*a < most) {
				t.Error("Poor", a, most, got)
			}
		}
		for b := -2; b < 9; b++ {
			for more := -2; more < 9; more++ {
				for most := -9; most < 28; most++ {
					if got := share.Fits(a, b, more, most); got != (min(a, b, more) >= 0 && a+b+more <= most) {
						t.Error("Fits", a, b, more, most, got)
					}
				}
			}
		}
	}
}

// someInt tells a number by chance, of any length.
func someInt(r *rand.Rand) int {
	return int(r.Uint64()) >> r.Intn(64)
}

func TestFitsAndPoorByChance(t *testing.T) {
	r := rand.New(rand.NewSource(123))
	for range 60000 {
		a, b, more, most := someInt(r), someInt(r), someInt(r), someInt(r)
		if r.Intn(2) == 0 {
			most = int(uint(a) + uint(b) + uint(more) + uint(r.Intn(3)) - 1)
		}
		if got := share.Fits(a, b, more, most); got != slowFits(a, b, more, most) {
			t.Error("Fits", a, b, more, most, got)
		}
		if r.Intn(2) == 0 {
			most = int(4*uint(a) + uint(r.Intn(5)) - 2)
		}
		if got := share.Poor(a, most); got != slowPoor(a, most) {
			t.Error("Poor", a, most, got)
		}
	}
}

// P12.3

func even(t *testing.T, in []int, most int) {
	t.Helper()
	if !evenCut(in, most) {
		k, ok := share.Cut(in, most)
		t.Errorf("at most %d, %d sizes %v are cut at %d, %v", most, len(in), in[:min(12, len(in))], k, ok)
	}
}

func TestEvenCutsByHand(t *testing.T) {
	even(t, []int{1, 1, 1, 1}, 3)
	even(t, []int{1, 1, 1, 1, 1}, 4)
	even(t, []int{1, 1, 1, 1, 1, 1}, 5)
	even(t, []int{2, 2, 2, 2}, 7)
	even(t, []int{164, 164, 164, 164}, 493)
	even(t, append(many(1, 493), 164), 493)
	even(t, []int{164, 1, 163, 164, 2}, 493)
	even(t, many(size, 4096), 4095*size)
	even(t, many(1, 4096), 4095)
}

func TestEvenCutsOfAllSmallSizes(t *testing.T) {
	seen := 0
	for most := 3; most < 14; most++ {
		var grow func([]int, int)
		grow = func(in []int, all int) {
			if all > most {
				seen++
				even(t, in, most)
				return
			}
			for s := 1; s <= most/3; s++ {
				grow(append(in, s), all+s)
			}
		}
		grow(nil, 0)
	}
	if seen < 1000 {
		t.Error(seen)
	}
}

func TestEvenCutsByChance(t *testing.T) {
	r := rand.New(rand.NewSource(124))
	seen := 0
	for range 4000 {
		most := 3 + r.Intn([]int{10, 100, 493, 5000, 3 * size}[r.Intn(5)])
		top := 1 + r.Intn(most/3)
		var in []int
		for total(in) <= most && len(in) < 300 {
			s := r.Intn(top + 1)
			if r.Intn(3) == 0 {
				s = top
			}
			in = append(in, s)
		}
		if beyond(in, most) {
			seen++
			even(t, in, most)
		}
	}
	if seen < 3000 {
		t.Error(seen)
	}
}

func TestTwoPoorPartsFit(t *testing.T) {
	hold := func(a, b, most int) {
		if share.Poor(a, most) && share.Poor(b, most) && !share.Fits(a, b, most/2, most) {
			t.Error(a, b, most)
		}
	}
	for most := -3; most < 200; most++ {
		for a := range 60 {
			for b := range 60 {
				hold(a, b, most)
			}
		}
	}
	for _, most := range edges() {
		for a := most/4 - 2; a < most/4+3; a++ {
			for b := most/4 - 2; b < most/4+3; b++ {
				hold(a, b, most)
			}
			hold(a, 0, most)
		}
	}
}

// Rules 4, 5 and 8

func TestCutLeavesItsListAlone(t *testing.T) {
	r := rand.New(rand.NewSource(125))
	for range 500 {
		room := someSizes(r, 30)
		n := r.Intn(len(room) + 1)
		for i := n; i < len(room); i++ { // what no size may be
			room[i] = []int{-1, size + 1, maxInt}[r.Intn(3)]
		}
		was := slices.Clone(room)
		most := total(room[:n])*2/3 + 1
		want, is := slowCut(room[:n:n], most)
		for range 2 {
			cut(t, room[:n], most, want, is)
		}
		if !slices.Equal(room, was) {
			t.Fatal(was, room)
		}
	}
}
