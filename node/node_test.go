package node_test

import (
	"bytes"
	"encoding/hex"
	"math"
	"math/rand"
	"slices"
	"strings"
	"testing"

	"cobweb/api"
	"cobweb/node"
	"cobweb/page"
)

const (
	maxInt = math.MaxInt
	minInt = math.MinInt
)

func unhex(t *testing.T, s string) []byte {
	t.Helper()
	b, err := hex.DecodeString(strings.ReplaceAll(s, " ", ""))
	if err != nil {
		t.Fatal(err)
	}
	return b
}

// short keeps a test's line readable.
func short(b []byte) string { return hex.EncodeToString(b[:min(len(b), 60)]) }

// puts holds a node's bytes against the right ones, and what is read of them against the node.
func puts(t *testing.T, n node.Node, want []byte) {
	t.Helper()
	b, e := node.Put(n)
	if !bytes.Equal(b, want) || e != api.OK || !node.Right(n) || node.Size(n) != len(want) {
		t.Fatalf("Put: %s, error %d, Right %v, Size %d; not %s", short(b), int(e), node.Right(n), node.Size(n), short(want))
	}
	reads(t, want, n)
}

// refuses asks that a node is not right.
func refuses(t *testing.T, what any, n node.Node) {
	t.Helper()
	if b, e := node.Put(n); len(b) != 0 || e != api.ErrArg || node.Right(n) {
		t.Errorf("%.200#v: Put: %s, error %d, Right %v", what, short(b), int(e), node.Right(n))
	}
}

// reads asks that bytes are those of a node.
func reads(t *testing.T, b []byte, want node.Node) {
	t.Helper()
	if n, e := node.Read(kindOf(want), b); e != api.OK || !same(n, want) {
		t.Fatalf("Read of %s: %v, error %d, not %v", short(b), n, int(e), want)
	}
}

// noForm asks that bytes are those of no node.
func noForm(t *testing.T, kind byte, b []byte) {
	t.Helper()
	if n, e := node.Read(kind, b); e != api.ErrForm || !isZero(n) {
		t.Errorf("Read of %d %s: %v, error %d", kind, short(b), n, int(e))
	}
}

func TestConstants(t *testing.T) {
	if node.LeafKind != 2 || node.BranchKind != 3 || node.Inline != 64 || page.Room != 493 || api.MaxKey != 72 {
		t.Error("a number is another")
	}
}

// P11.1

func TestEntry(t *testing.T) {
	for _, k := range []int{0, 1, 71, 72, 73, 255, 256, 1 << 20} {
		key := make([]byte, k)
		for _, i := range []int{0, 1, 63, 64, 65, 255, 256, 1 << 20} {
			b := make([]byte, i)
			for _, long := range []int{0, 1, 65, 4096, 4097, -1, minInt, maxInt} {
				if got := node.Entry(key, node.Val{In: b, Long: long}); got != k+i+2 {
					t.Errorf("Entry of %d, %d in, Long %d: %d", k, i, long, got)
				}
				for _, no := range []int{1, 2, 4095, 4096, -1, 256, 1 << 16, 1 << 32, minInt, maxInt} {
					if got := node.Entry(key, node.Val{In: b, Long: long, Page: no}); got != k+6 {
						t.Errorf("Entry of %d, %d in, Long %d, Page %d: %d", k, i, long, no, got)
					}
				}
			}
		}
	}
	if node.Entry(nil, node.Val{}) != 2 || node.Entry(nil, away(65, 2)) != 6 {
		t.Error("Entry of nil")
	}
}

func TestChild(t *testing.T) {
	for _, k := range []int{0, 1, 71, 72, 73, 255, 256, 1 << 20} {
		if got := node.Child(make([]byte, k)); got != k+3 {
			t.Errorf("Child of %d: %d", k, got)
		}
	}
	if node.Child(nil) != 3 {
		t.Error("Child of nil")
	}
}

func TestSize(t *testing.T) {
	keys := [][]byte{nil, []byte("b"), []byte("aaa"), make([]byte, 300)} // 304 bytes
	for _, c := range []struct {
		n    node.Node
		want int
	}{
		{node.Node{}, 3},
		{node.Node{Leaf: true}, 1},
		{branch(2), 3},
		{node.Node{Kids: make([]int, 9)}, 3},
		{node.Node{Leaf: true, Kids: make([]int, 9)}, 1},
		{node.Node{Leaf: true, Vals: make([]node.Val, 9)}, 1},
		{node.Node{Vals: []node.Val{in("abc"), away(65, 2)}}, 3},
		{leaf("a", "x"), 5},
		{leaf("a", "x", "b", away(300, 7)), 12},
		{leaf("a", away(-1, -1), "a", as(100)), 1 + 7 + 103},
		{branch(5, "m", 6), 7},
		{node.Node{Keys: keys}, 3 + 304 + 4*3},
		{node.Node{Keys: keys, Kids: []int{1, -1, maxInt}}, 3 + 304 + 4*3},
		{node.Node{Keys: keys, Vals: []node.Val{in("abc"), away(65, 2)}}, 3 + 304 + 4*3},
		{node.Node{Leaf: true, Keys: keys}, 1 + 304 + 4*2},
		{node.Node{Leaf: true, Keys: keys, Vals: []node.Val{away(65, 2)}}, 1 + 304 + 4*2 + 4},
		{node.Node{Leaf: true, Keys: keys, Vals: []node.Val{in("abc"), away(65, 2), in(as(70))}}, 1 + 304 + 4*2 + 3 + 4 + 70},
		{node.Node{Leaf: true, Keys: keys[:1], Vals: []node.Val{in("abc"), in("abcdef")}, Kids: []int{1, 2}}, 1 + 2 + 3},
		{node.Node{Keys: make([][]byte, 1000)}, 3003},
		{node.Node{Leaf: true, Keys: make([][]byte, 1000)}, 2001},
	} {
		if got := node.Size(c.n); got != c.want {
			t.Errorf("Size(%.100v) = %d, not %d", c.n, got, c.want)
		}
		if c.want <= 304 && len(slowBytes(c.n)) != c.want {
			t.Errorf("bytes of %.100v: %d, not %d", c.n, len(slowBytes(c.n)), c.want)
		}
	}
	// Sums of many: of one key, for the memory's sake.
	many := slices.Repeat([][]byte{make([]byte, 1<<20)}, 1<<13)
	if got := node.Size(node.Node{Keys: many}); got != 3+1<<13*(1<<20+3) {
		t.Error(got)
	}
	refuses(t, "many", node.Node{Keys: many})
}

// P11.2: Right, Put

func TestPutByHand(t *testing.T) {
	for _, c := range []struct {
		n    node.Node
		want string
	}{
		{leaf("a", "x"), "01 01 61 01 78"},
		{leaf("a", "x", "b", away(300, 7)), "02 01 61 01 78 01 62 ff 2c01 0700"},
		{branch(5, "m", 6), "01 0500 01 6d 0600"},
		{leaf(), "00"},
		{branch(2), "00 0200"},
		{branch(4095), "00 ff0f"},
		{branch(0x0102), "00 0201"},
		{leaf("", ""), "01 00 00"},
		{leaf("", "xyz"), "01 00 03 78797a"},
		{leaf("", away(65, 2)), "01 00 ff 4100 0200"},
		{leaf("", away(4096, 4095)), "01 00 ff 0010 ff0f"},
		{leaf("", away(0x0403, 0x0201)), "01 00 ff 0304 0102"},
		{leaf("", "", "\x00", "\x00", "\x00\x00", "\xff"), "03 00 00 01 00 01 00 02 0000 01 ff"},
		{branch(2, "", 2), "01 0200 00 0200"},
		{branch(0x0807, "", 0x0605, "\x01", 0x0403, "\x01\x00", 0x0201), "03 0708 00 0506 01 01 0304 02 0100 0102"},
		{leaf("\x7f", "", "\x80", ""), "02 01 7f 00 01 80 00"},
		{leaf("a", "\xff", "b", "\x00"), "02 01 61 01 ff 01 62 01 00"},
	} {
		puts(t, c.n, unhex(t, c.want))
	}
}

func TestKeysThatRise(t *testing.T) {
	try := func(right bool, keys ...string) {
		t.Helper()
		l, b := leaf(), branch(9)
		for _, k := range keys {
			l.Keys, l.Vals = append(l.Keys, []byte(k)), append(l.Vals, in("v"))
			b.Keys, b.Kids = append(b.Keys, []byte(k)), append(b.Kids, 9)
		}
		for _, n := range []node.Node{l, b} {
			if right {
				puts(t, n, []byte(slowBytes(n)))
			} else {
				refuses(t, keys, n)
				noForm(t, kindOf(n), []byte(slowBytes(n)))
			}
		}
	}
	for _, l := range [][]string{{"a", "b"}, {"", "a"}, {"a", "aa"}, {"a", "a\x00"}, {"a\xff", "b"}, {"\x7f", "\x80"}, {"\x00", "\xff"}, {"ab", "b"}, {"B", "a"}, {as(70), as(71)}, {"\xfe\xff", "\xff"}} {
		try(true, l...)
		try(false, l[1], l[0])
		try(false, l[0], l[0])
		try(false, l[0], l[1], l[1])
		try(false, l[0], l[1], l[0])
		try(true, append(l, l[1]+"x")...)
	}
	try(false, "", "")
	try(false, "a", "c", "b")
	try(false, "b", "a", "c")
	try(true, "a", "b", "c", "d")
}

func TestKeysOfBytes(t *testing.T) {
	for k := range 400 {
		for _, n := range []node.Node{leaf(as(k), "v"), branch(7, as(k), 8), leaf("", "v", as(max(k, 1)), away(65, 2)), branch(7, "", 8, as(max(k, 1)), 9)} {
			if k <= 72 {
				puts(t, n, []byte(slowBytes(n)))
				continue
			}
			refuses(t, k, n)
			if k < 256 {
				noForm(t, kindOf(n), []byte(slowBytes(n)))
			}
		}
	}
}

func TestValues(t *testing.T) {
	try := func(v node.Val, right bool) {
		t.Helper()
		for _, n := range []node.Node{leaf("k", v), leaf("a", "x", "k", v), leaf("k", v, "l", away(65, 2))} {
			if right {
				puts(t, n, []byte(slowBytes(n)))
			} else {
				refuses(t, []any{len(v.In), v.Long, v.Page}, n)
			}
		}
	}
	for i := range 300 {
		try(in(as(i)), i <= 64)
	}
	longs := []int{minInt, -4096, -65, -1, 0, 1, 63, 64, 65, 66, 255, 256, 4095, 4096, 4097, 1<<16 - 1, 1 << 16, 1<<16 + 65, 1<<32 + 65, maxInt}
	pages := []int{minInt, -4095, -2, -1, 0, 1, 2, 3, 255, 256, 4094, 4095, 4096, 4097, 1 << 16, 1<<16 + 2, 1<<32 + 2, maxInt}
	for _, long := range longs {
		for _, no := range pages {
			longRight, pageRight := long >= 65 && long <= 4096, no >= 2 && no <= 4095
			try(away(long, no), longRight && pageRight || long == 0 && no == 0)
			for _, i := range []int{1, 64, 65} {
				try(node.Val{In: make([]byte, i), Long: long, Page: no}, i <= 64 && long == 0 && no == 0)
			}
			try(node.Val{In: []byte{}, Long: long, Page: no}, longRight && pageRight || long == 0 && no == 0)
		}
	}
}

func TestKids(t *testing.T) {
	for no := -3; no <= 5000; no++ {
		right := no >= 2 && no <= 4095
		for _, n := range []node.Node{branch(no), branch(no, "a", 9), branch(9, "a", no), branch(9, "a", no, "b", 9), branch(9, "a", 9, "b", no), branch(no, "a", no)} {
			if right {
				puts(t, n, []byte(slowBytes(n)))
			} else {
				refuses(t, no, n)
			}
		}
	}
	for _, no := range []int{minInt, minInt + 2, -1 << 32, -4095, 1 << 16, 1<<16 + 2, 1<<32 + 2, maxInt} {
		refuses(t, no, branch(no))
		refuses(t, no, branch(9, "a", no))
	}
}

// What belongs to the other kind may not be there, and not one too few or too many of its own.
func TestHowMany(t *testing.T) {
	for keys := range 4 {
		for others := range 6 {
			n := node.Node{Kids: slices.Repeat([]int{9}, others)}
			l := node.Node{Leaf: true, Vals: slices.Repeat([]node.Val{in("v")}, others)}
			for i := range keys {
				n.Keys = append(n.Keys, []byte{byte(i)})
				l.Keys = append(l.Keys, []byte{byte(i)})
			}
			if others == keys+1 {
				puts(t, n, []byte(slowBytes(n)))
			} else {
				refuses(t, "kids", n)
			}
			if others == keys {
				puts(t, l, []byte(slowBytes(l)))
			} else {
				refuses(t, "values", l)
			}
			n.Leaf, l.Leaf = true, false
			refuses(t, "a branch with values", l)
			if keys+others > 0 {
				refuses(t, "a leaf with kids", n)
			}
		}
		both := node.Node{Leaf: keys%2 == 0, Keys: [][]byte{[]byte("a")}, Vals: []node.Val{in("v")}, Kids: []int{9, 9}[:1+keys/2]}
		refuses(t, "both", both)
	}
	refuses(t, "nothing", node.Node{})
	refuses(t, "a leaf of a kid", node.Node{Leaf: true, Kids: []int{9}})
	refuses(t, "a branch of a value", node.Node{Kids: []int{9}, Vals: make([]node.Val, 1)})
	puts(t, node.Node{Leaf: true, Keys: [][]byte{}, Vals: []node.Val{}, Kids: []int{}}, []byte{0})
	puts(t, node.Node{Keys: [][]byte{}, Vals: []node.Val{}, Kids: []int{3}}, []byte{0, 3, 0})
}

func TestRoom(t *testing.T) {
	key := func(i, size int) string { return string([]byte{byte(i)}) + as(size-1) }
	for more := range 8 {
		l := leaf(key(1, 72), as(64), key(2, 72), as(64), key(3, 72), as(64), key(4, 72), as(more))
		a := leaf(key(1, 72), away(4096, 9), key(2, 72), away(4096, 9), key(3, 72), away(4096, 9), key(4, 72), away(4096, 9), key(5, 72), away(4096, 9), key(6, 72), away(4096, 9), key(7, 9+more), as(9))
		b := branch(9, key(1, 72), 9, key(2, 72), 9, key(3, 72), 9, key(4, 72), 9, key(5, 72), 9, key(6, 72), 9, key(7, 33+more), 9)
		for _, n := range []node.Node{l, a, b} {
			if node.Size(n) != 489+more {
				t.Fatal(node.Size(n), more)
			}
			if more <= 4 {
				puts(t, n, []byte(slowBytes(n)))
			} else {
				refuses(t, more, n)
				noForm(t, kindOf(n), []byte(slowBytes(n)))
			}
		}
	}
}

func TestManyKeys(t *testing.T) {
	for _, keys := range []int{97, 98, 99, 122, 123, 163, 164, 165, 249, 250, 251, 255, 256, 257, 512, 1 << 16, 1<<16 + 1} {
		l, b := leaf(), branch(9)
		for i := range keys {
			k := []byte{byte(i)}
			if keys > 256 {
				k = []byte{byte(i >> 16), byte(i >> 8), byte(i)}
			}
			l.Keys, l.Vals = append(l.Keys, k), append(l.Vals, node.Val{})
			b.Keys, b.Kids = append(b.Keys, k), append(b.Kids, 9)
		}
		for _, n := range []node.Node{l, b} {
			if node.Size(n) <= page.Room {
				puts(t, n, []byte(slowBytes(n)))
			} else {
				refuses(t, keys, n)
				noForm(t, kindOf(n), []byte(slowBytes(n)))
			}
		}
	}
}

// P11.2: Read

func TestReadKinds(t *testing.T) {
	l, b := unhex(t, "01 01 61 01 78"), unhex(t, "01 0500 01 6d 0600")
	for kind := range 256 {
		for _, x := range [][]byte{nil, {}, {0}, {0, 2, 0}, l, b} {
			isLeaf := kind == 2 && (len(x) == 1 || len(x) == 5)
			isBranch := kind == 3 && (len(x) == 3 || len(x) == 7)
			if n, e := node.Read(byte(kind), x); (e == api.OK) != (isLeaf || isBranch) || e == api.OK && n.Leaf != isLeaf {
				t.Errorf("Read of %d %x: %v, error %d", kind, x, n, int(e))
			}
			if !isLeaf && !isBranch {
				noForm(t, byte(kind), x)
			}
		}
	}
}

func TestReadNoForm(t *testing.T) {
	for _, s := range []string{
		"", "01", "ff", "00 00", "00 ff", "01 00", "01 01", "01 01 61", "01 01 61 01", "01 02 61 00", "02 01 61 01 78", "01 01 61 01 78 00", "01 01 61 01 78 01 62 00", // too few bytes, too many
		"01 00 41 " + strings.Repeat("61", 65), "01 00 80 " + strings.Repeat("61", 128), "01 00 fe " + strings.Repeat("61", 254), // more than stands in an entry
		"01 49 " + strings.Repeat("61", 73) + " 00", "01 ff " + strings.Repeat("61", 255) + " 00", // keys of more bytes
		"01 00 ff", "01 00 ff 41", "01 00 ff 4100", "01 00 ff 4100 02", "01 00 ff 4100 0200 00", // an end in a number
		"01 00 ff 0000 0000", "01 00 ff 0000 0200", "01 00 ff 4100 0000", // no page, and no bytes
		"01 00 ff 4000 0200", "01 00 ff 0110 0200", "01 00 ff ffff 0200", "01 00 ff 0041 0200", // as many as no value has
		"01 00 ff 4100 0100", "01 00 ff 4100 0010", "01 00 ff 4100 ffff", "01 00 ff 4100 ff10", // no page of a tree
		"02 00 00 00 00", "02 01 62 00 01 61 00", "02 01 61 00 01 61 00", "03 00 00 01 61 00 00 00", // keys that don't rise
	} {
		noForm(t, 2, unhex(t, s))
	}
	for _, s := range []string{
		"", "00", "00 02", "00 0200 00", "01 0200", "01 0200 00", "01 0200 00 02", "01 0200 01 0200", "01 0200 00 0200 00", "02 0200 00 0200", "00 0200 00 0200", // too few bytes, too many
		"00 0000", "00 0100", "00 0010", "00 ffff", "00 0220", "01 0200 00 0000", "01 0200 00 0100", "01 0200 00 0010", "01 0100 00 0200", // no page of a tree
		"01 0200 49 " + strings.Repeat("61", 73) + " 0200", "01 0200 ff " + strings.Repeat("61", 255) + " 0200", // keys of more bytes
		"02 0200 00 0200 00 0200", "02 0200 01 62 0200 01 61 0200", "02 0200 01 61 0200 01 61 0200", // keys that don't rise
	} {
		noForm(t, 3, unhex(t, s))
	}
	for _, size := range []int{page.Room, page.Room + 1, api.Size, 1 << 16, 1 << 24} {
		for _, c := range []byte{0, 1, 2, 0xff} {
			for kind := range byte(5) {
				noForm(t, kind, bytes.Repeat([]byte{c}, size))
			}
		}
	}
}

// Right bytes, of which some are missing, or behind which some stand, are none; nor are they those of the other kind.
func TestReadOfParts(t *testing.T) {
	r := rand.New(rand.NewSource(11))
	for range 300 {
		n := some(r)
		b := []byte(slowBytes(n))
		puts(t, n, b)
		for i := range b {
			noForm(t, kindOf(n), b[:i])
			noForm(t, kindOf(n), b[:i:i])
		}
		for _, c := range []byte{0, 1, 2, 0xff} {
			noForm(t, kindOf(n), append(b[:len(b):len(b)], c))
		}
		noForm(t, kindOf(n), append(b[:len(b):len(b)], b...))
		noForm(t, kindOf(n), append(b[:len(b):len(b)], make([]byte, page.Room-len(b)+1)...))
	}
}

// P11.3

func TestPutIsRead(t *testing.T) {
	r := rand.New(rand.NewSource(12))
	full := 0
	for range 20000 {
		n := some(r)
		puts(t, n, []byte(slowBytes(n)))
		if node.Size(n) > page.Room-60 {
			full++
		}
	}
	if full < 100 {
		t.Error(full)
	}
}

// spoiled tells a node that differs from one in a thing or two; most are not right.
func spoiled(r *rand.Rand, n node.Node) node.Node {
	n = apart(n)
	numbers := []int{0, 1, 2, 64, 65, 4095, 4096, 4097, -1, 1<<16 + 2, r.Intn(1 << 13)}
	switch at := r.Intn(8); {
	case at == 0:
		n.Leaf = !n.Leaf
	case at == 1 && len(n.Kids) > 0:
		n.Kids[r.Intn(len(n.Kids))] = pick(r, numbers...)
	case at == 2 && len(n.Vals) > 0:
		n.Vals[r.Intn(len(n.Vals))] = node.Val{In: make([]byte, pick(r, 0, 0, 1, 64, 65)), Long: pick(r, numbers...), Page: pick(r, numbers...)}
	case at == 3 && len(n.Keys) > 0:
		n.Keys[r.Intn(len(n.Keys))] = bytes.Repeat([]byte{byte(r.Intn(256))}, pick(r, 0, 1, 2, 71, 72, 73))
	case at == 4 && len(n.Keys) > 0:
		i, j := r.Intn(len(n.Keys)), r.Intn(len(n.Keys))
		n.Keys[i], n.Keys[j] = n.Keys[j], n.Keys[i]
	case at == 5:
		n.Keys = n.Keys[:r.Intn(len(n.Keys)+1)]
	case at == 6:
		n.Kids = append(n.Kids, 9)
	default:
		n.Vals = append(n.Vals, someVal(r))
		n.Keys = append(n.Keys, []byte("\xff\xff\xff\xff"))
	}
	return n
}

func TestRightIsTheChapters(t *testing.T) {
	r := rand.New(rand.NewSource(13))
	right := 0
	for range 40000 {
		n := some(r)
		for range 1 + r.Intn(2) {
			n = spoiled(r, n)
		}
		if node.Size(n) != len(slowBytes(n)) {
			t.Fatalf("Size(%v) = %d, not %d", n, node.Size(n), len(slowBytes(n)))
		}
		if slowRight(n) {
			right++
			puts(t, n, []byte(slowBytes(n)))
		} else {
			refuses(t, n, n)
		}
	}
	if right < 4000 || right > 36000 {
		t.Error(right)
	}
}

// Of bytes of which some are others, those are taken that a right node has: just the one that is told.
func TestReadOfChangedBytes(t *testing.T) {
	r := rand.New(rand.NewSource(14))
	taken := 0
	for range 100000 {
		n := some(r)
		b := []byte(slowBytes(n))
		kind := pick(r, kindOf(n), kindOf(n), kindOf(n), byte(2+r.Intn(2)))
		for range 1 + r.Intn(2) {
			i := r.Intn(len(b))
			b[i] = pick(r, 0, 1, 2, b[i]+1, b[i]-1, 0x41, 0xff, byte(r.Intn(256)))
		}
		m, e := node.Read(kind, b)
		if e != api.OK {
			noForm(t, kind, b)
			continue
		}
		taken++
		if kind != kindOf(m) || !slowRight(m) || slowBytes(m) != string(b) {
			t.Fatalf("Read of %d %x: %v", kind, b, m)
		}
	}
	if taken < 10000 || taken > 90000 {
		t.Error(taken)
	}
}

// words tells all of up to so many bytes of an alphabet.
func words(alphabet string, most int, use func(string)) {
	b := make([]byte, 0, most)
	var more func()
	more = func() {
		use(string(b))
		if len(b) == most {
			return
		}
		for i := range len(alphabet) {
			b = append(b, alphabet[i])
			more()
			b = b[:len(b)-1]
		}
	}
	more()
}

// allForms tells the bytes of all right nodes of a kind of at most so many bytes whose keys and values are of an alphabet.
func allForms(t *testing.T, alphabet string, isLeaf bool, most int) map[string]node.Node {
	var keys []string
	var vals []node.Val
	var kids []int
	words(alphabet, most-3, func(s string) {
		keys, vals = append(keys, s), append(vals, in(s))
		if len(s) == 4 && s[2:] != "\x00\x00" {
			vals = append(vals, away(int(s[0])+int(s[1])<<8, int(s[2])+int(s[3])<<8))
		}
		if len(s) == 2 {
			kids = append(kids, int(s[0])+int(s[1])<<8)
		}
	})
	slices.Sort(keys)
	forms := map[string]node.Node{}
	var add func(n node.Node, from int)
	add = func(n node.Node, from int) {
		s := slowBytes(n)
		if slowRight(n) {
			if _, there := forms[s]; there {
				t.Fatalf("two nodes have %x", s)
			}
			forms[s] = apart(n)
		}
		for i := from; i < len(keys); i++ {
			left := most - len(s) - 1 - len(keys[i])
			if left < 1 {
				continue
			}
			m := node.Node{Leaf: isLeaf, Keys: append(slices.Clone(n.Keys), []byte(keys[i]))}
			for _, v := range vals {
				if isLeaf && (len(v.In) < left && v.Page == 0 || left > 4) && slowVal(v) {
					m.Vals = append(slices.Clone(n.Vals), v)
					add(m, i+1)
				}
			}
			for _, k := range kids {
				if !isLeaf && left >= 2 {
					m.Kids = append(slices.Clone(n.Kids), k)
					add(m, i+1)
				}
			}
		}
	}
	if isLeaf {
		add(node.Node{Leaf: true}, 0)
		return forms
	}
	for _, k := range kids {
		add(branch(k), 0)
	}
	return forms
}

// All bytes of an alphabet, up to a length, are read if and only if a node has them: then as that.
func TestReadOfAllBytes(t *testing.T) {
	for _, c := range []struct {
		alphabet string
		isLeaf   bool
		most     int
	}{
		{"\x00\x01\x02\xff", true, 7},
		{"\x00\x01\x02\x0f\x10\x41\xff", true, 7},
		{"\x00\x01\x02\x03", true, 8},
		{"\x00\x01\x02\x10\xff", false, 7},
		{"\x00\x01\x02", false, 10},
	} {
		forms := allForms(t, c.alphabet, c.isLeaf, c.most)
		kind := byte(3)
		if c.isLeaf {
			kind = 2
		}
		found, of := 0, 0
		words(c.alphabet, c.most, func(s string) {
			n, e := node.Read(kind, []byte(s))
			want, there := forms[s]
			if there != (e == api.OK) || !same(n, want) {
				t.Fatalf("Read of %d %x: %v, error %d, not %v", kind, s, n, int(e), want)
			}
			of++
			if there {
				found++
			}
		})
		if found < 50 {
			t.Errorf("%x: %d of %d, of %d forms", c.alphabet, found, of, len(forms))
		}
	}
	for i := range 1 << 16 {
		for _, b := range [][]byte{{byte(i), byte(i >> 8)}, {byte(i)}} {
			if n, e := node.Read(2, b); (e == api.OK) != (len(b) == 1 && b[0] == 0) || e == api.OK && !same(n, leaf()) {
				t.Fatalf("%x: %v, error %d", b, n, int(e))
			}
		}
		b := []byte{0, byte(i), byte(i >> 8)}
		if i >= 2 && i <= 4095 {
			reads(t, b, branch(i))
		} else {
			noForm(t, 3, b)
		}
	}
}

// Rule 4: what is handed in is not changed and not kept, what is handed out is new memory, each list in it, too.

// spoil writes over bytes, their spare room too.
func spoil(b []byte) {
	b = b[:cap(b)]
	for i := range b {
		b[i] ^= 0xa5
	}
}

// lists tells all lists of bytes in a node.
func lists(n node.Node) [][]byte {
	l := slices.Clone(n.Keys)
	for _, v := range n.Vals {
		l = append(l, v.In)
	}
	return l
}

func TestMemoryOfRead(t *testing.T) {
	r := rand.New(rand.NewSource(15))
	for range 500 {
		n := some(r)
		b := append([]byte(slowBytes(n)), "behind it"...)
		was := bytes.Clone(b)
		size := len(b) - len("behind it")
		one, e := node.Read(kindOf(n), b[:size])
		other, f := node.Read(kindOf(n), b[:size])
		if e != api.OK || f != api.OK || !same(one, n) || !same(other, n) {
			t.Fatal(int(e), int(f))
		}
		spoil(b)
		if !same(one, n) || !bytes.Equal(was[:size], []byte(slowBytes(other))) {
			t.Fatal("what was handed in is kept")
		}
		b = was
		was = bytes.Clone(b)
		alone(t, one)
		clear(one.Keys[:cap(one.Keys)])
		clear(one.Vals[:cap(one.Vals)])
		clear(one.Kids[:cap(one.Kids)])
		if !same(other, n) || !bytes.Equal(b, was) {
			t.Fatal("what is handed out is shared")
		}
	}
}

// alone asks that no list of bytes in a node lies in another one's memory, or in its spare room.
func alone(t *testing.T, n node.Node) {
	t.Helper()
	l := lists(n)
	for i := range l {
		all := make([][]byte, len(l))
		for j := range l {
			all[j] = bytes.Clone(l[j])
		}
		spoil(l[i])
		spoil(append(l[i], "more bytes"...))
		for j := range l {
			if j != i && !bytes.Equal(l[j], all[j]) {
				t.Fatalf("list %d and list %d of one node share memory", i, j)
			}
		}
	}
}

func TestMemoryOfPut(t *testing.T) {
	r := rand.New(rand.NewSource(16))
	for range 500 {
		was := some(r)
		n := apart(was)
		for i, k := range n.Keys {
			n.Keys[i] = append(k, "spare"...)[:len(k)]
		}
		for i, v := range n.Vals {
			n.Vals[i].In = append(v.In, "spare"...)[:len(v.In)]
		}
		n.Kids = append(n.Kids, 77)[:len(n.Kids)]
		one, _ := node.Put(n)
		other, _ := node.Put(n)
		want := slowBytes(was)
		spoil(one)
		if string(other) != want || !same(n, was) {
			t.Fatal("what is handed out is shared")
		}
		for _, b := range lists(n) {
			if len(b) < cap(b) && string(b[len(b):len(b)+5]) != "spare" {
				t.Fatalf("spare room is written: %q", b[:len(b)+5])
			}
			spoil(b)
		}
		if string(other) != want || len(n.Kids) > 0 && n.Kids[:len(n.Kids)+1][len(n.Kids)] != 77 {
			t.Fatal("what is handed in is kept, or its spare room is written")
		}
	}
}

// Rule 8: what lies behind a list's length tells nothing.
func TestBehindTheLength(t *testing.T) {
	n := leaf("a", "x", "b", "y", "a", as(99))
	n.Keys, n.Vals = n.Keys[:1], n.Vals[:1]
	puts(t, n, []byte("\x01\x01a\x01x"))
	k := branch(5, "m", 6, "a", -1)
	k.Keys, k.Kids = k.Keys[:1], k.Kids[:2]
	puts(t, k, []byte("\x01\x05\x00\x01m\x06\x00"))
	whole := []byte("\x01\x01a\x01x\x01b\x01y")
	for i := range whole {
		if i != 5 {
			noForm(t, 2, whole[:i])
		}
	}
	reads(t, whole[:5], n)
	if node.Entry(whole[:1], node.Val{In: whole[:0]}) != 3 || node.Child(whole[:2]) != 5 {
		t.Error("spare room is counted")
	}
}

// What is asked again is answered again.
func TestSameAgain(t *testing.T) {
	n := leaf("a", "x", "b", away(300, 7))
	for range 3 {
		puts(t, n, []byte("\x02\x01a\x01x\x01b\xff\x2c\x01\x07\x00"))
		refuses(t, "again", leaf("b", "x", "a", "y"))
		noForm(t, 3, []byte{0})
		noForm(t, 4, []byte{0})
	}
}
