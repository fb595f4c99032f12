package share_test

import (
	"math/big"

	"cobweb/share"
)

// What the chapter says, once more, as slowly as it is said there, with numbers of any length.

func whole(n int) *big.Int { return big.NewInt(int64(n)) }

func bigSum(sizes []int) *big.Int {
	all := new(big.Int)
	for _, s := range sizes {
		all.Add(all, whole(s))
	}
	return all
}

// isCut tells whether k is a cut, and by how much its sums differ.
func isCut(sizes []int, most, k int) (*big.Int, bool) {
	if k < 1 || k > len(sizes)-1 {
		return nil, false
	}
	a, b := bigSum(sizes[:k]), bigSum(sizes[k:])
	by := new(big.Int).Sub(a, b)
	return by.Abs(by), a.Cmp(whole(most)) <= 0 && b.Cmp(whole(most)) <= 0
}

func slowCut(sizes []int, most int) (int, bool) {
	if len(sizes) > 4096 || most < 0 {
		return 0, false
	}
	for _, s := range sizes {
		if s < 0 || s > 1<<20 {
			return 0, false
		}
	}
	told := 0
	var least *big.Int
	for k := range sizes {
		if by, ok := isCut(sizes, most, k); ok && (least == nil || by.Cmp(least) < 0) {
			told, least = k, by
		}
	}
	return told, least != nil
}

func slowFits(a, b, more, most int) bool {
	return a >= 0 && b >= 0 && more >= 0 && bigSum([]int{a, b, more}).Cmp(whole(most)) <= 0
}

func slowPoor(a, most int) bool {
	return a >= 0 && bigSum([]int{a, a, a, a}).Cmp(whole(most)) < 0
}

// evenCut tells what P12.3 says of sizes that it speaks of: there is a cut, and three times each part is at least most - 2.
func evenCut(sizes []int, most int) bool {
	k, ok := share.Cut(sizes, most)
	if _, is := isCut(sizes, most, k); !ok || !is {
		return false
	}
	low := new(big.Int).Sub(whole(most), whole(2))
	for _, part := range [][]int{sizes[:k], sizes[k:]} {
		all := bigSum(part)
		if all.Mul(all, whole(3)).Cmp(low) < 0 {
			return false
		}
	}
	return true
}

// beyond tells whether P12.3 speaks of these sizes.
func beyond(sizes []int, most int) bool {
	for _, s := range sizes {
		if s < 0 || s > most/3 {
			return false
		}
	}
	n := len(sizes)
	return n > 0 && bigSum(sizes).Cmp(whole(most)) > 0 && bigSum(sizes[:n-1]).Cmp(whole(most)) <= 0
}
