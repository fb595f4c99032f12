package meta_test

import (
	"bytes"
	"encoding/binary"
	"hash/crc32"
	"math"
	"math/rand"
	"testing"

	"cobweb/api"
	"cobweb/meta"
)

const (
	top   = 1 << 60
	atSum = api.Size - 4
)

var (
	// right are generations and numbers that may come next, and roots are roots.
	right = []int{1, 2, 3, 127, 128, 255, 256, 257, 1<<16 - 1, 1 << 16, 1<<32 - 1, 1 << 32, 0x0102030405060708, 1<<59 + 1, top - 1, top}
	roots = []int{0, 2, 3, 255, 256, 511, api.MaxSectors - 2, api.MaxSectors - 1}
	// wrong are none, and wrongRoots are none.
	wrong      = []int{math.MinInt, math.MinInt + 1, -top, -1 << 32, -1, 0, top + 1, top + 2, 1 << 61, 1<<62 + 5, math.MaxInt}
	wrongRoots = []int{math.MinInt, math.MinInt + 2, -top, -1 << 32, -2, -1, 1, api.MaxSectors, api.MaxSectors + 2, 1 << 16, 1 << 32, 1<<32 + 2, top, math.MaxInt}
)

// summed puts the right sum into a page.
func summed(b []byte) []byte {
	b = bytes.Clone(b)
	binary.LittleEndian.PutUint32(b[atSum:], crc32.ChecksumIEEE(b[:atSum]))
	return b
}

// forged tells a page of anything, with a right sum, read off chapter 7.
func forged(kind byte, no, gen int, in []byte) []byte {
	b := make([]byte, api.Size)
	b[0] = kind
	binary.LittleEndian.PutUint32(b[1:], uint32(no))
	binary.LittleEndian.PutUint64(b[5:], uint64(gen))
	binary.LittleEndian.PutUint16(b[13:], uint16(len(in)))
	copy(b[15:], in)
	return summed(b)
}

func within(l ...int) []byte {
	var b []byte
	for _, n := range l {
		b = binary.LittleEndian.AppendUint64(b, uint64(n))
	}
	return b
}

// paged tells a Meta's page, also where it isn't right, read off the chapter; its number is what it is told.
func paged(m meta.Meta, no int) []byte {
	return forged(1, no, m.Gen, within(m.Root, m.Node, m.Edge, m.Gen))
}

func odd(n int) int { return n & 1 }

func seal(t *testing.T, m meta.Meta) []byte {
	t.Helper()
	b, no, e := meta.Seal(m)
	if e != api.OK || no != odd(m.Gen) || len(b) != api.Size {
		t.Fatal("Seal", m, len(b), no, int(e))
	}
	return b
}

// opens holds the Meta of a page against the right one.
func opens(t *testing.T, b []byte, no int, right meta.Meta) {
	t.Helper()
	if m, e := meta.Open(b, no); m != right || e != api.OK {
		t.Errorf("Open of %d: %v %d, not %v", no, m, int(e), right)
	}
}

// refuses holds Open's error against the right one; there must be no Meta.
func refuses(t *testing.T, b []byte, no int, right api.Errno) {
	t.Helper()
	if m, e := meta.Open(b, no); m != (meta.Meta{}) || e != right {
		t.Errorf("Open of %d: %v %d, not %d", no, m, int(e), int(right))
	}
}

// newest holds Newest against the right one; a zero Meta: none.
func newest(t *testing.T, a, b []byte, right meta.Meta) {
	t.Helper()
	if m, ok := meta.Newest(a, b); m != right || ok != (right != meta.Meta{}) {
		t.Errorf("Newest: %v %v, not %v", m, ok, right)
	}
}

func pick(r *rand.Rand, l []int) int { return l[r.Intn(len(l))] }

// some tells a right Meta of a generation.
func some(r *rand.Rand, gen int) meta.Meta {
	return meta.Meta{Gen: gen, Root: pick(r, roots), Node: pick(r, right), Edge: pick(r, right)}
}

// P8.1
func TestSealByHand(t *testing.T) {
	b, no, e := meta.Seal(meta.Meta{Gen: 0x0102030405060709, Root: 0x0c05, Node: 0x0f0e0d0c0b0a0908, Edge: 7})
	in := "\x05\x0c\x00\x00\x00\x00\x00\x00" + "\x08\x09\x0a\x0b\x0c\x0d\x0e\x0f" + "\x07\x00\x00\x00\x00\x00\x00\x00" + "\x09\x07\x06\x05\x04\x03\x02\x01"
	head := "\x01" + "\x01\x00\x00\x00" + "\x09\x07\x06\x05\x04\x03\x02\x01" + "\x20\x00" + in
	if no != 1 || e != api.OK || len(b) != api.Size || !bytes.HasPrefix(b, []byte(head)) {
		t.Fatalf("%d %d %x", no, int(e), b)
	}
	if len(bytes.Trim(b[len(head):atSum], "\x00")) != 0 || !bytes.Equal(b, summed(b)) {
		t.Errorf("%x", b)
	}
	if _, no, e := meta.Seal(meta.Meta{Gen: 3, Root: 5, Node: 7, Edge: 9}); no != 1 || e != api.OK {
		t.Error(no, int(e))
	}
	if _, no, e := meta.Seal(meta.Meta{Gen: 4, Root: 5, Node: 7, Edge: 9}); no != 0 || e != api.OK {
		t.Error(no, int(e))
	}
}

func TestSealIsTheChapters(t *testing.T) {
	for _, gen := range right {
		for _, root := range roots {
			for _, node := range right {
				for _, edge := range right {
					m := meta.Meta{Gen: gen, Root: root, Node: node, Edge: edge}
					if b := seal(t, m); !bytes.Equal(b, paged(m, odd(gen))) {
						t.Fatalf("%v: %x", m, b)
					}
				}
			}
		}
	}
}

// spoilt tells Metas that aren't right, for one of their numbers.
func spoilt() []meta.Meta {
	var l []meta.Meta
	for _, n := range wrong {
		l = append(l, meta.Meta{Gen: n, Root: 2, Node: 1, Edge: 1}, meta.Meta{Gen: 2, Root: 2, Node: n, Edge: 1}, meta.Meta{Gen: 2, Root: 2, Node: 1, Edge: n})
	}
	for _, n := range wrongRoots {
		l = append(l, meta.Meta{Gen: 2, Root: n, Node: 1, Edge: 1})
	}
	return l
}

func TestSealRefuses(t *testing.T) {
	for _, m := range append(spoilt(), meta.Meta{}, meta.Meta{Gen: 2}, meta.Meta{Gen: -1, Root: 1, Node: -1, Edge: -1}) {
		if b, no, e := meta.Seal(m); len(b) != 0 || no != 0 || e != api.ErrArg {
			t.Error(m, len(b), no, int(e))
		}
	}
}

// P8.2
func TestOpenTellsPagesErrors(t *testing.T) {
	m := meta.Meta{Gen: 2, Root: 5, Node: 7, Edge: 9}
	b := seal(t, m)
	opens(t, b, 0, m)
	refuses(t, nil, 0, api.ErrForm)
	for n := range api.Size {
		refuses(t, b[:n], 0, api.ErrForm)
	}
	refuses(t, append(bytes.Clone(b), 0), 0, api.ErrForm)
	refuses(t, append(bytes.Clone(b), b...), 0, api.ErrForm)
	refuses(t, make([]byte, api.Size), 0, api.ErrSum)
	for i := range b {
		c := bytes.Clone(b)
		c[i] ^= 0x10
		refuses(t, c, 0, api.ErrSum)
		refuses(t, c, 1, api.ErrSum) // ahead of the number
		refuses(t, c, -1, api.ErrSum)
	}
	for _, m := range spoilt() {
		c := paged(m, odd(m.Gen))
		c[atSum]++
		refuses(t, c, odd(m.Gen), api.ErrSum)
	}
}

func TestOpenOfAnotherNumber(t *testing.T) {
	for gen := 1; gen < 9; gen++ {
		m := meta.Meta{Gen: gen, Root: 5, Node: 7, Edge: 9}
		for _, no := range []int{math.MinInt, -2, -1, 0, 1, 2, 3, 4, gen, 255, 256, 257, api.MaxSectors - 1, api.MaxSectors, 1 << 32, 1<<32 + 1, math.MaxInt} {
			if no == odd(gen) {
				opens(t, seal(t, m), no, m)
				continue
			}
			refuses(t, seal(t, m), no, api.ErrForm)
			if no == int(uint32(no)) { // a page that has this number, but isn't the Meta's
				refuses(t, paged(m, no), no, api.ErrForm)
				refuses(t, paged(m, no), odd(gen), api.ErrForm)
			}
		}
	}
}

func TestOpenOfNoRightMeta(t *testing.T) {
	for _, m := range spoilt() {
		refuses(t, paged(m, odd(m.Gen)), odd(m.Gen), api.ErrForm)
		refuses(t, paged(m, 0), 0, api.ErrForm)
		refuses(t, paged(m, 1), 1, api.ErrForm)
	}
}

func TestOpenOfAnotherPage(t *testing.T) {
	m := meta.Meta{Gen: 2, Root: 5, Node: 7, Edge: 9}
	in := within(5, 7, 9, 2)
	opens(t, forged(1, 0, 2, in), 0, m)
	for kind := range 256 {
		if kind != 1 {
			refuses(t, forged(byte(kind), 0, 2, in), 0, api.ErrForm)
		}
	}
	// Only the Gens at both ends tell a Meta.
	for _, gen := range []int{0, 1, 3, 4, 258, 1<<32 + 2, top} {
		refuses(t, forged(1, 0, gen, in), 0, api.ErrForm)
		refuses(t, forged(1, odd(gen), gen, in), odd(gen), api.ErrForm)
		refuses(t, forged(1, 0, 2, within(5, 7, 9, gen)), 0, api.ErrForm)
		refuses(t, forged(1, odd(gen), 2, within(5, 7, 9, gen)), odd(gen), api.ErrForm)
	}
	for n := range len(in) {
		refuses(t, forged(1, 0, 2, in[:n]), 0, api.ErrForm)
	}
	for n := 1; len(in)+n <= 493; n++ {
		refuses(t, forged(1, 0, 2, append(bytes.Clone(in), make([]byte, n)...)), 0, api.ErrForm)
	}
	refuses(t, forged(1, 0, 2, append(bytes.Clone(in), in...)), 0, api.ErrForm)
	refuses(t, forged(1, 0, 2, append([]byte{0}, in...)), 0, api.ErrForm)
}

// Whatever stands behind what is within, no Meta is told but of its page.
func TestOpenOfBytesBehind(t *testing.T) {
	b := seal(t, meta.Meta{Gen: 2, Root: 5, Node: 7, Edge: 9})
	for i := 47; i < atSum; i++ {
		c := bytes.Clone(b)
		c[i] = 1
		refuses(t, summed(c), 0, api.ErrForm)
	}
}

// Where a page with a right sum is opened, it is the one that Seal tells.
func TestOpenTakesWhatSealTells(t *testing.T) {
	r := rand.New(rand.NewSource(8))
	taken := 0
	for range 40000 {
		b := seal(t, some(r, pick(r, right)))
		for range 1 + r.Intn(2) {
			b[[]int{r.Intn(15), 15 + r.Intn(32), r.Intn(atSum)}[r.Intn(3)]] = []byte{0, 1, 2, byte(r.Intn(256))}[r.Intn(4)]
		}
		b = summed(b)
		no := r.Intn(2)
		m, e := meta.Open(b, no)
		u := binary.LittleEndian.Uint64
		w := meta.Meta{Gen: int(u(b[39:])), Root: int(u(b[15:])), Node: int(u(b[23:])), Edge: int(u(b[31:]))}
		c, at, f := meta.Seal(w)
		if f == api.OK && at == no && bytes.Equal(b, c) {
			taken++
			if m != w || e != api.OK {
				t.Fatalf("%x: %v %d, not %v", b, m, int(e), w)
			}
		} else if m != (meta.Meta{}) || e != api.ErrForm {
			t.Fatalf("%x: %v %d", b, m, int(e))
		}
	}
	if taken < 2000 || taken > 38000 {
		t.Error(taken)
	}
}

// P8.3
func TestNewest(t *testing.T) {
	r := rand.New(rand.NewSource(9))
	for _, g := range right {
		for _, h := range right {
			m, n := some(r, g), some(r, h)
			if odd(g) == 1 {
				newest(t, nil, seal(t, m), m)
				newest(t, seal(t, m), nil, meta.Meta{})
				continue
			}
			newest(t, seal(t, m), nil, m)
			newest(t, nil, seal(t, m), meta.Meta{})
			if odd(h) == 0 {
				newest(t, seal(t, m), seal(t, n), m)
				newest(t, seal(t, n), seal(t, m), n)
				continue
			}
			best := m
			if h > g {
				best = n
			}
			newest(t, seal(t, m), seal(t, n), best)
			newest(t, seal(t, n), seal(t, m), meta.Meta{})
		}
	}
}

func TestNewestOfNone(t *testing.T) {
	empty := make([]byte, api.Size)
	bad := seal(t, meta.Meta{Gen: 4, Node: 1, Edge: 1})
	bad[100]++
	none := [][]byte{nil, {}, empty, summed(empty), bytes.Repeat([]byte{0xff}, api.Size), bad, bad[:511]}
	for _, m := range spoilt() {
		none = append(none, paged(m, odd(m.Gen)))
	}
	zero, one := meta.Meta{Gen: 2, Node: 3, Edge: 4}, meta.Meta{Gen: 1, Root: 9, Node: 2, Edge: 2}
	for _, x := range none {
		for _, y := range none {
			newest(t, x, y, meta.Meta{})
		}
		newest(t, seal(t, zero), x, zero)
		newest(t, x, seal(t, one), one)
	}
}

// The root and the next numbers don't weigh.
func TestNewestIsByTheGenAlone(t *testing.T) {
	small, great := meta.Meta{Gen: 6, Node: 1, Edge: 1}, meta.Meta{Gen: 5, Root: api.MaxSectors - 1, Node: top, Edge: top}
	newest(t, seal(t, small), seal(t, great), small)
	small.Gen, great.Gen = 7, 6
	newest(t, seal(t, great), seal(t, small), small)
}

// P8.4
func TestSealedIsOpened(t *testing.T) {
	r := rand.New(rand.NewSource(10))
	for _, g := range right {
		for range 50 {
			m := some(r, g)
			opens(t, seal(t, m), odd(g), m)
		}
	}
	for range 2000 {
		m := meta.Meta{Gen: 1 + r.Intn(top), Root: 2 + r.Intn(api.MaxSectors-2), Node: 1 + r.Intn(top), Edge: 1 + r.Intn(top)}
		opens(t, seal(t, m), odd(m.Gen), m)
	}
}

// torn tells what is found where only the first bytes of a page were written over another.
func torn(page, under []byte, n int) []byte {
	return append(bytes.Clone(page[:n]), under[n:]...)
}

// gens tells generations, each with one above it whose page has the same place.
func gens(r *rand.Rand) [][2]int {
	var l [][2]int
	for _, g := range right {
		for _, d := range []int{2, 4, 254, 256, 1 << 16, 1 << 32, 2 * (1 + r.Intn(1<<40))} {
			if g+d <= top {
				l = append(l, [2]int{g, g + d})
			}
		}
	}
	return l
}

// Where a page is written in part, the one ahead of it is the newest, till all that tells the new one is there.
func TestTornPageIsNotTheNewest(t *testing.T) {
	r := rand.New(rand.NewSource(11))
	for _, p := range gens(r) {
		old, ahead, next := some(r, p[0]), some(r, p[1]-1), some(r, p[1])
		place := func(b []byte) (x, y []byte) {
			if odd(next.Gen) == 0 {
				return b, seal(t, ahead)
			}
			return seal(t, ahead), b
		}
		whole := seal(t, next)
		for _, under := range [][]byte{make([]byte, api.Size), seal(t, old)} {
			for n := range api.Size + 1 {
				b := torn(whole, under, n)
				best := ahead
				if bytes.Equal(b, whole) {
					best = next
				}
				x, y := place(b)
				newest(t, x, y, best)
			}
		}
	}
}

// Even where the sum of what was written in part were right, nothing is told but the one or the other.
func TestTornPageNeedsNoSum(t *testing.T) {
	r := rand.New(rand.NewSource(12))
	for _, p := range gens(r) {
		old, next := some(r, p[0]), some(r, p[1])
		whole := seal(t, next)
		for _, under := range [][]byte{make([]byte, api.Size), seal(t, old)} {
			for n := range atSum + 1 {
				b := summed(torn(whole, under, n))
				switch {
				case bytes.Equal(b, whole):
					opens(t, b, odd(next.Gen), next)
				case bytes.Equal(b, under):
					opens(t, b, odd(old.Gen), old)
				default:
					refuses(t, b, odd(next.Gen), api.ErrForm)
				}
			}
		}
	}
}

// A Meta is never laid over the one ahead of it.
func TestPlacesTakeTurns(t *testing.T) {
	var disk [2][]byte
	var last meta.Meta
	for gen := 1; gen <= 600; gen++ {
		m := meta.Meta{Gen: gen, Root: 2 + gen, Node: gen, Edge: 1 + gen/2}
		b, no, e := meta.Seal(m)
		if e != api.OK || no < 0 || no > 1 {
			t.Fatal(gen, no, int(e))
		}
		disk[no] = bytes.Repeat([]byte{0xff}, api.Size)
		newest(t, disk[0], disk[1], last)
		disk[no] = b
		newest(t, disk[0], disk[1], m)
		last = m
	}
}

// Rule 4: what is handed in is not changed and not kept, what is handed out is new memory.
func TestMemory(t *testing.T) {
	m := meta.Meta{Gen: 3, Root: 5, Node: 7, Edge: 9}
	one, other := seal(t, m), seal(t, m)
	spoil(one)
	opens(t, other, 1, m)
	opens(t, seal(t, m), 1, m)
	room := append(bytes.Clone(other), "behind"...)
	was := bytes.Clone(room)
	zero := seal(t, meta.Meta{Gen: 4, Node: 1, Edge: 1})
	for range 3 {
		opens(t, room[:api.Size], 1, m)
		newest(t, zero, room[:api.Size], meta.Meta{Gen: 4, Node: 1, Edge: 1})
		newest(t, nil, room[:api.Size], m)
		if !bytes.Equal(room, was) {
			t.Fatal("changed")
		}
	}
	spoil(room)
	refuses(t, room[:api.Size], 1, api.ErrSum)
	newest(t, nil, room[:api.Size], meta.Meta{})
	opens(t, other, 1, m)
}

// spoil writes over bytes, their spare room too.
func spoil(b []byte) {
	b = b[:cap(b)]
	for i := range b {
		b[i] = '!'
	}
}
