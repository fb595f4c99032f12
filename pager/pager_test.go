package pager_test

import (
	"bytes"
	"math"
	"slices"
	"testing"

	"cobweb/api"
	"cobweb/meta"
	"cobweb/page"
	"cobweb/pager"
	"cobweb/sector"
)

const (
	maxInt = math.MaxInt
	minInt = math.MinInt
	top    = 1 << 60 // the last of all generations
	room   = 493
)

// no holds an error against the one that must be told.
func no(t *testing.T, what string, e, want api.Errno) {
	t.Helper()
	if e != want {
		t.Errorf("%s: error %d, not %d", what, int(e), int(want))
	}
}

// disk makes one of so many sectors, and format one that is formatted, too.
func disk(t *testing.T, n int) *sector.Disk {
	t.Helper()
	d, e := sector.New(n)
	if e != api.OK {
		t.Fatal("New", n, int(e))
	}
	return d
}

func format(t *testing.T, n int) *sector.Disk {
	t.Helper()
	d := disk(t, n)
	if e := pager.Format(d); e != api.OK {
		t.Fatal("Format", n, int(e))
	}
	return d
}

func open(t *testing.T, d *sector.Disk) *pager.Pager {
	t.Helper()
	p, e := pager.Open(d)
	if e != api.OK || p == nil {
		t.Fatal("Open", int(e))
	}
	return p
}

// begin opens a disk of so many pages, which was formatted.
func begin(t *testing.T, pages int) (*sector.Disk, *pager.Pager) {
	t.Helper()
	d := format(t, 2+pages)
	return d, open(t, d)
}

// lays lays texts, and holds the pages' numbers against the right ones.
func lays(t *testing.T, p *pager.Pager, text string, want ...int) {
	t.Helper()
	for _, w := range want {
		if got, e := p.Lay(7, []byte(text)); got != w || e != api.OK {
			t.Errorf("Lay %q: %d, error %d; not %d", text, got, int(e), w)
		}
	}
}

// refused holds Lay's error against the right one.
func refused(t *testing.T, p *pager.Pager, in []byte, want api.Errno) {
	t.Helper()
	if got, e := p.Lay(7, in); got != 0 || e != want {
		t.Errorf("Lay: %d, error %d; not %d", got, int(e), int(want))
	}
}

func drop(t *testing.T, p *pager.Pager, pages ...int) {
	t.Helper()
	for _, k := range pages {
		if e := p.Drop(k); e != api.OK {
			t.Error("Drop", k, int(e))
		}
	}
}

func commit(t *testing.T, p *pager.Pager, root int) {
	t.Helper()
	m := p.Meta()
	if e := p.Commit(root, m.Node, m.Edge); e != api.OK {
		t.Fatal("Commit", root, int(e))
	}
	isMeta(t, p, meta.Meta{Gen: m.Gen + 1, Root: root, Node: m.Node, Edge: m.Edge})
}

func isMeta(t *testing.T, p *pager.Pager, want meta.Meta) {
	t.Helper()
	if m := p.Meta(); m != want {
		t.Errorf("Meta %v, not %v", m, want)
	}
}

// counts holds how many pages are free, wait and are in use against numbers.
func counts(t *testing.T, p *pager.Pager, free, waiting, used int) {
	t.Helper()
	if p.Free() != free || p.Waiting() != waiting || p.Used() != used {
		t.Errorf("Free %d Waiting %d Used %d; not %d %d %d", p.Free(), p.Waiting(), p.Used(), free, waiting, used)
	}
}

// ops holds what a disk was asked for against numbers.
func ops(t *testing.T, d *sector.Disk, many, waiting int) {
	t.Helper()
	if d.Ops() != many || d.Waiting() != waiting {
		t.Errorf("Ops %d Waiting %d; not %d %d", d.Ops(), d.Waiting(), many, waiting)
	}
}

func reads(t *testing.T, p *pager.Pager, k int, kind byte, text string) {
	t.Helper()
	if got, in, e := p.Read(k); got != kind || string(in) != text || e != api.OK {
		t.Errorf("Read %d: %d %q, error %d; not %d %q", k, got, in, int(e), kind, text)
	}
}

// unread holds Read's error against the right one.
func unread(t *testing.T, p *pager.Pager, k int, want api.Errno) {
	t.Helper()
	if kind, in, e := p.Read(k); kind != 0 || len(in) != 0 || e != want {
		t.Errorf("Read %d: %d %q, error %d; not %d", k, kind, in, int(e), int(want))
	}
}

func sectorIs(t *testing.T, d *sector.Disk, k int, want []byte) {
	t.Helper()
	full := append(bytes.Clone(want), make([]byte, api.Size-len(want))...)
	if b, e := d.Read(k); !bytes.Equal(b, full) || e != api.OK {
		t.Errorf("sector %d: %x, error %d; not %x", k, b, int(e), full)
	}
}

// sealed tells a right Meta's page; hand writes it to a disk, and lets it last.
func sealed(t *testing.T, m meta.Meta) []byte {
	t.Helper()
	b, _, e := meta.Seal(m)
	if e != api.OK {
		t.Fatal("Seal", m, int(e))
	}
	return b
}

func hand(t *testing.T, d *sector.Disk, metas ...meta.Meta) {
	t.Helper()
	for _, m := range metas {
		if e := d.Write(m.Gen%2, sealed(t, m)); e != api.OK {
			t.Fatal("Write", m, int(e))
		}
	}
	d.Flush()
}

func crash(t *testing.T, d *sector.Disk, keep ...int) *sector.Disk {
	t.Helper()
	c, e := d.Crash(keep)
	if e != api.OK {
		t.Fatal("Crash", int(e))
	}
	return c
}

var (
	one = meta.Meta{Gen: 1, Node: 1, Edge: 1}
	two = meta.Meta{Gen: 2, Node: 1, Edge: 1}
)

// P10.1
func TestFormat(t *testing.T) {
	for _, n := range []int{4, 5, 100, api.MaxSectors} {
		d := format(t, n)
		ops(t, d, 3, 0)
		for _, d := range []*sector.Disk{d, crash(t, d)} {
			sectorIs(t, d, 0, sealed(t, two))
			sectorIs(t, d, 1, sealed(t, one))
			for k := 2; k < n; k++ {
				sectorIs(t, d, k, nil)
			}
		}
	}
}

func TestFormatRefuses(t *testing.T) {
	for _, d := range []*sector.Disk{nil, {}} {
		no(t, "Format", pager.Format(d), api.ErrNil)
	}
	for n := 1; n < 4; n++ {
		d := disk(t, n)
		no(t, "Format", pager.Format(d), api.ErrArg)
		d.Cut(0)
		no(t, "Format", pager.Format(d), api.ErrArg)
		ops(t, d, 0, 0)
		for k := range n {
			sectorIs(t, d, k, nil)
		}
	}
}

// The Meta of Gen 1 is written ahead of the other one, and they are flushed behind both.
func TestFormatIsCut(t *testing.T) {
	for n, want := range [][2]*meta.Meta{{nil, nil}, {nil, &one}, {&two, &one}} {
		d := disk(t, 4)
		d.Cut(n)
		no(t, "Format", pager.Format(d), api.ErrCut)
		ops(t, d, n, n)
		for k, m := range want {
			if m == nil {
				sectorIs(t, d, k, nil)
			} else {
				sectorIs(t, d, k, sealed(t, *m))
			}
		}
	}
	d := disk(t, 4)
	d.Cut(3)
	no(t, "Format", pager.Format(d), api.OK)
}

func TestFormatAnew(t *testing.T) {
	d := disk(t, 5)
	hand(t, d, meta.Meta{Gen: 9, Node: 5, Edge: 5}, meta.Meta{Gen: 10, Root: 3, Node: 5, Edge: 5})
	d.Write(3, []byte("old"))
	no(t, "Format", pager.Format(d), api.OK)
	isMeta(t, open(t, d), two)
	sectorIs(t, d, 3, []byte("old"))
}

// P10.2
func TestOpen(t *testing.T) {
	d := format(t, 10)
	p := open(t, d)
	isMeta(t, p, two)
	counts(t, p, 8, 0, 0)
	ops(t, d, 3, 0)
	lays(t, p, "", 2)
	for _, g := range []int{1, 2, 3, 4, 77, 78, top - 1, top} {
		m := meta.Meta{Gen: g, Root: 9, Node: 1 + g/2, Edge: 7}
		for _, elder := range []int{g - 1, g - 3} {
			d := disk(t, 10)
			hand(t, d, m)
			many := 2 + 2 // the other one is written, and flushed
			if elder > 0 {
				hand(t, d, meta.Meta{Gen: elder, Root: 0, Node: top, Edge: top})
				many = 4
			}
			p := open(t, d)
			isMeta(t, p, m)
			counts(t, p, 8, 0, 0)
			ops(t, d, many, 0)
		}
	}
}

func TestOpenRefuses(t *testing.T) {
	corrupt := func(d *sector.Disk, want api.Errno) {
		t.Helper()
		was, waits := d.Ops(), d.Waiting()
		if p, e := pager.Open(d); p != nil || e != want {
			t.Error(p, int(e), int(want))
		}
		ops(t, d, was, waits)
	}
	corrupt(nil, api.ErrNil)
	corrupt(&sector.Disk{}, api.ErrNil)
	for _, n := range []int{1, 2, 3, 4, api.MaxSectors} {
		corrupt(disk(t, n), api.ErrCorrupt)
	}
	d := disk(t, 4)
	for _, l := range [][2]meta.Meta{{one, two}, {{Gen: 3, Node: 1, Edge: 1}, two}} { // each in the place of the other
		d.Write(0, sealed(t, l[0]))
		d.Write(1, sealed(t, l[1]))
		corrupt(d, api.ErrCorrupt)
		d.Flush()
		corrupt(d, api.ErrCorrupt)
	}
	d.Write(0, bytes.Repeat([]byte{0xff}, api.Size))
	d.Write(1, nil)
	corrupt(d, api.ErrCorrupt)
	d.Cut(0)
	corrupt(d, api.ErrCorrupt)
}

// The newest one's Root counts alone, and the other one is looked at behind that.
func TestOpenOfARoot(t *testing.T) {
	for _, n := range []int{4, 5, 300, api.MaxSectors - 1} {
		for _, root := range []int{n, n + 1, api.MaxSectors - 1} {
			root = min(root, api.MaxSectors-1)
			for _, elder := range []meta.Meta{two, {Gen: 2, Root: 3, Node: 1, Edge: 1}} {
				d := disk(t, n)
				hand(t, d, elder, meta.Meta{Gen: 3, Root: root, Node: 1, Edge: 1})
				if p, e := pager.Open(d); p != nil || e != api.ErrCorrupt {
					t.Error(n, root, p, int(e))
				}
			}
			d := disk(t, n)
			hand(t, d, meta.Meta{Gen: 3, Root: root, Node: 1, Edge: 1})
			d.Write(0, []byte("junk"))
			if p, e := pager.Open(d); p != nil || e != api.ErrCorrupt {
				t.Error(n, root, p, int(e))
			}
			ops(t, d, 3, 1)
			sectorIs(t, d, 0, []byte("junk"))
			hand(t, d, meta.Meta{Gen: 4, Root: n - 1, Node: 1, Edge: 1})
			isMeta(t, open(t, d), meta.Meta{Gen: 4, Root: n - 1, Node: 1, Edge: 1})
		}
	}
}

// What is no Meta's is emptied, and lasts so; a sector that is empty is none, too.
func TestOpenEmptiesTheOther(t *testing.T) {
	torn := append(bytes.Clone(sealed(t, meta.Meta{Gen: 7, Node: 3, Edge: 3})[:30]), bytes.Repeat([]byte{1}, 482)...)
	for _, g := range []int{5, 6} {
		m := meta.Meta{Gen: g, Root: 3, Node: 2, Edge: 2}
		other, _ := page.Seal(1, 1-g%2, g+1, []byte("a page, and no Meta's"))
		for _, junk := range [][]byte{other, nil, []byte("x"), torn, bytes.Repeat([]byte{0xff}, api.Size), sealed(t, m)} {
			for n := range 4 {
				d := disk(t, 4)
				hand(t, d, m)
				d.Write(1-g%2, junk)
				d.Flush()
				d.Cut(n)
				p, e := pager.Open(d)
				if n < 2 {
					if p != nil || e != api.ErrCut || d.Waiting() != n {
						t.Error(g, n, p, int(e))
					}
					continue
				}
				if p == nil || e != api.OK {
					t.Fatal(g, n, int(e))
				}
				isMeta(t, p, m)
				ops(t, d, 6, 0)
				sectorIs(t, crash(t, d), 1-g%2, nil)
				sectorIs(t, d, g%2, sealed(t, m))
			}
		}
	}
}

// Where both are Metas', nothing is written, and so no cut is told.
func TestOpenOfACutDisk(t *testing.T) {
	d := format(t, 4)
	d.Cut(0)
	p := open(t, d)
	isMeta(t, p, two)
	refused(t, p, nil, api.ErrCut)
}

// Disks that Format refuses, but that have Metas all the same.
func TestOpenOfSmallDisks(t *testing.T) {
	d := disk(t, 1)
	hand(t, d, two)
	for range 2 {
		if p, e := pager.Open(d); p != nil || e != api.ErrArg { // there is no other sector to be written
			t.Error(p, int(e))
		}
		d.Cut(0)
	}
	for _, n := range []int{2, 3} {
		d := disk(t, n)
		hand(t, d, one, two)
		p := open(t, d)
		counts(t, p, n-2, 0, 0)
		if n == 3 {
			lays(t, p, "a", 2)
		}
		refused(t, p, nil, api.ErrFull)
		unread(t, p, n, api.ErrArg)
		no(t, "Drop", p.Drop(n), api.ErrArg)
		commit(t, p, 0)
	}
}

// P10.3
func TestKeep(t *testing.T) {
	_, p := begin(t, 6)
	list := []int{7, 2, 4, 99}
	no(t, "Keep", p.Keep(list[:3]), api.OK)
	if !slices.Equal(list, []int{7, 2, 4, 99}) {
		t.Error(list)
	}
	list[0], list[1], list[2] = 3, 3, 3
	counts(t, p, 3, 0, 3)
	lays(t, p, "new", 3, 5, 6)
	refused(t, p, nil, api.ErrFull)
	drop(t, p, 2, 4, 7)
	counts(t, p, 0, 3, 3)
}

func TestKeepTellsTheFirstError(t *testing.T) {
	for _, c := range []struct {
		pages []int
		e     api.Errno
		used  int
	}{
		{nil, api.OK, 0},
		{[]int{2, 3, 4, 5, 6, 7}, api.OK, 6},
		{[]int{1}, api.ErrArg, 0},
		{[]int{0, 2}, api.ErrArg, 0},
		{[]int{2, -1}, api.ErrArg, 1},
		{[]int{2, 3, 8, 3}, api.ErrArg, 2},
		{[]int{2, 3, 3, 8}, api.ErrThere, 2},
		{[]int{7, 7}, api.ErrThere, 1},
		{[]int{3, 5, 7, 3, 2}, api.ErrThere, 3},
		{[]int{maxInt}, api.ErrArg, 0},
		{[]int{4, minInt, 5}, api.ErrArg, 1},
		{[]int{5, api.MaxSectors}, api.ErrArg, 1},
	} {
		_, p := begin(t, 6)
		no(t, "Keep", p.Keep(c.pages), c.e)
		counts(t, p, 6-c.used, 0, c.used)
		no(t, "Keep", p.Keep(nil), api.ErrState)
		no(t, "Keep", p.Keep([]int{6, 6}), api.ErrState)
		counts(t, p, 6-c.used, 0, c.used)
		for _, k := range c.pages[:c.used] {
			drop(t, p, k)
		}
		counts(t, p, 6-c.used, c.used, 0)
	}
}

// A page that was laid ahead, whatever became of it, refuses a Keep; one that was not laid doesn't.
func TestKeepBehindALay(t *testing.T) {
	for _, then := range []func(p *pager.Pager){
		func(p *pager.Pager) {},
		func(p *pager.Pager) { drop(t, p, 2) },
		func(p *pager.Pager) { no(t, "Abort", p.Abort(), api.OK) },
		func(p *pager.Pager) { commit(t, p, 2) },
	} {
		_, p := begin(t, 6)
		lays(t, p, "a", 2)
		then(p)
		used := p.Used()
		for _, l := range [][]int{nil, {3}, {-1}} {
			no(t, "Keep", p.Keep(l), api.ErrState)
		}
		counts(t, p, 6-used, 0, used)
	}
	d, p := begin(t, 2)
	d.Cut(0)
	refused(t, p, nil, api.ErrCut)
	refused(t, p, make([]byte, room+1), api.ErrBig)
	d.Cut(-1)
	no(t, "Drop", p.Drop(2), api.ErrNone)
	no(t, "Abort", p.Abort(), api.OK)
	p.Pin()
	commit(t, p, 0)
	no(t, "Keep", p.Keep([]int{3, 2}), api.OK)
	counts(t, p, 0, 0, 2)
	refused(t, p, nil, api.ErrFull)
	no(t, "Abort", p.Abort(), api.OK)
	counts(t, p, 0, 0, 2)
}

// Also one that a Commit failed ahead of.
func TestKeepBehindAFailedCommit(t *testing.T) {
	d, p := begin(t, 2)
	d.Cut(0)
	no(t, "Commit", p.Commit(0, 1, 1), api.ErrCut)
	no(t, "Keep", p.Keep([]int{3}), api.OK)
	counts(t, p, 1, 0, 1)
}

// P10.4
func TestLay(t *testing.T) {
	d, p := begin(t, 4)
	for i, c := range []struct {
		kind byte
		in   []byte
	}{{0, nil}, {5, []byte("one")}, {255, bytes.Repeat([]byte{0xfe}, room)}, {1, make([]byte, room-1)}} {
		if k, e := p.Lay(c.kind, c.in); k != 2+i || e != api.OK {
			t.Fatal(k, int(e))
		}
		ops(t, d, 3+i+1, i+1) // it is written, and not flushed
		b, _ := page.Seal(c.kind, 2+i, 3, c.in)
		sectorIs(t, d, 2+i, b)
		sectorIs(t, crash(t, d), 2+i, nil)
		reads(t, p, 2+i, c.kind, string(c.in))
		counts(t, p, 3-i, 0, i+1)
	}
	refused(t, p, nil, api.ErrFull)
	refused(t, p, make([]byte, room), api.ErrFull)
	ops(t, d, 7, 4)
	isMeta(t, p, two)
}

// The next Gen is that behind what is committed.
func TestLayIsOfTheNextGen(t *testing.T) {
	d, p := begin(t, 9)
	for i := range 5 {
		lays(t, p, "a", 2+i)
		if _, gen, _, e := page.Open(read(t, d, 2+i), 2+i); gen != 3+i || e != api.OK {
			t.Error(i, gen, int(e))
		}
		commit(t, p, 2+i)
	}
}

func read(t *testing.T, d *sector.Disk, k int) []byte {
	t.Helper()
	b, e := d.Read(k)
	if e != api.OK {
		t.Fatal("Read", k, int(e))
	}
	return b
}

func TestLayRefuses(t *testing.T) {
	d, p := begin(t, 2)
	for _, n := range []int{room + 1, room + 2, api.Size, 1 << 16} {
		refused(t, p, make([]byte, n), api.ErrBig)
	}
	d.Cut(0)
	refused(t, p, make([]byte, room+1), api.ErrBig) // ahead of the cut
	refused(t, p, nil, api.ErrCut)
	refused(t, p, nil, api.ErrCut)
	counts(t, p, 2, 0, 0) // the page is free again
	unread(t, p, 2, api.ErrCorrupt)
	ops(t, d, 3, 0)
	d.Cut(1)
	lays(t, p, "a", 2)
	refused(t, p, nil, api.ErrCut)
	counts(t, p, 1, 0, 1)
	d.Cut(-1)
	lays(t, p, "b", 3)
	refused(t, p, make([]byte, room+1), api.ErrBig) // ahead of a full disk
	d.Cut(0)
	refused(t, p, nil, api.ErrFull) // ahead of the cut, too
	no(t, "Commit", p.Commit(2, 1, 1), api.ErrCut)
	refused(t, p, make([]byte, room+1), api.ErrState) // ahead of all
	refused(t, p, nil, api.ErrState)
}

// A page that could not be laid is none of the laid ones.
func TestLayOfTheDisksErrorIsNoneLaid(t *testing.T) {
	d, p := begin(t, 3)
	lays(t, p, "a", 2)
	commit(t, p, 2)
	d.Cut(0)
	refused(t, p, nil, api.ErrCut)
	d.Cut(-1)
	no(t, "Drop", p.Drop(3), api.ErrNone)
	no(t, "Abort", p.Abort(), api.OK)
	counts(t, p, 2, 0, 1)
	lays(t, p, "b", 3)
	commit(t, p, 3)
	drop(t, p, 3)
	counts(t, p, 1, 1, 1)
	for _, then := range []func(p *pager.Pager) int{
		func(p *pager.Pager) int { drop(t, p, 2); return 1 },
		func(p *pager.Pager) int { no(t, "Abort", p.Abort(), api.OK); return 0 },
	} {
		d, p := begin(t, 3)
		d.Cut(0)
		refused(t, p, nil, api.ErrCut)
		no(t, "Keep", p.Keep([]int{2}), api.OK)
		waits := then(p)
		counts(t, p, 2, waits, 1-waits)
	}
}

func TestLayTakesTheLeast(t *testing.T) {
	_, p := begin(t, 6)
	lays(t, p, "a", 2, 3, 4, 5, 6)
	drop(t, p, 5, 3)
	lays(t, p, "b", 3, 5, 7)
	drop(t, p, 2)
	lays(t, p, "c", 2)
	for k, s := range map[int]string{2: "c", 3: "b", 4: "a", 5: "b", 6: "a", 7: "b"} {
		reads(t, p, k, 7, s)
	}
}

// All of a great disk's pages are laid, and found.
func TestLayOfAFullDisk(t *testing.T) {
	const many = api.MaxSectors - 2
	d, p := begin(t, many)
	counts(t, p, many, 0, 0)
	for i := range many {
		if k, e := p.Lay(byte(i), []byte{byte(i >> 8)}); k != 2+i || e != api.OK {
			t.Fatal(i, k, int(e))
		}
	}
	counts(t, p, 0, 0, many)
	refused(t, p, nil, api.ErrFull)
	commit(t, p, api.MaxSectors-1)
	q := open(t, crash(t, d))
	isMeta(t, q, p.Meta())
	for i := range many {
		reads(t, q, 2+i, byte(i), string([]byte{byte(i >> 8)}))
	}
}

func TestRead(t *testing.T) {
	d, p := begin(t, 4)
	for _, k := range []int{minInt, -1, 0, 1, 6, 7, api.MaxSectors, maxInt} {
		unread(t, p, k, api.ErrArg)
	}
	for k := 2; k < 6; k++ {
		unread(t, p, k, api.ErrCorrupt)
	}
	lays(t, p, "a", 2, 3)
	drop(t, p, 3)
	reads(t, p, 3, 7, "a") // a free one is a page, too
	b, _ := page.Seal(9, 4, 99, []byte("by hand"))
	d.Write(4, b)
	reads(t, p, 4, 9, "by hand")
	d.Write(5, b) // the page of another number
	unread(t, p, 5, api.ErrCorrupt)
	for i := range b {
		c := bytes.Clone(b)
		c[i] ^= 4
		d.Write(4, c)
		unread(t, p, 4, api.ErrCorrupt)
	}
	d.Write(4, b)
	d.Cut(0)
	reads(t, p, 4, 9, "by hand")
	no(t, "Commit", p.Commit(2, 1, 1), api.ErrCut)
	reads(t, p, 2, 7, "a")
	unread(t, p, 1, api.ErrArg)
}

func TestDrop(t *testing.T) {
	_, p := begin(t, 6)
	no(t, "Keep", p.Keep([]int{6, 7}), api.OK)
	for _, k := range []int{minInt, -1, 0, 1, 8, api.MaxSectors, maxInt} {
		no(t, "Drop", p.Drop(k), api.ErrArg)
	}
	for k := 2; k < 6; k++ {
		no(t, "Drop", p.Drop(k), api.ErrNone)
	}
	lays(t, p, "a", 2, 3)
	drop(t, p, 2) // laid, and so free at once
	counts(t, p, 3, 0, 3)
	no(t, "Drop", p.Drop(2), api.ErrNone)
	drop(t, p, 7) // kept, and so it waits
	counts(t, p, 3, 1, 2)
	no(t, "Drop", p.Drop(7), api.ErrNone)
	lays(t, p, "b", 2, 4, 5)
	refused(t, p, nil, api.ErrFull)
	drop(t, p, 2)
	commit(t, p, 3)
	counts(t, p, 2, 0, 4)
	drop(t, p, 3, 6) // committed, and so they wait
	counts(t, p, 2, 2, 2)
	lays(t, p, "c", 2, 7)
	refused(t, p, nil, api.ErrFull)
	commit(t, p, 0)
	counts(t, p, 2, 0, 4)
	lays(t, p, "d", 3, 6)
}

// Behind a Commit that failed a page may be dropped, and nothing else that counts.
func TestDropBehindAFailedCommit(t *testing.T) {
	d, p := begin(t, 4)
	no(t, "Keep", p.Keep([]int{2}), api.OK)
	lays(t, p, "a", 3)
	d.Cut(0)
	no(t, "Commit", p.Commit(3, 1, 1), api.ErrCut)
	d.Cut(-1)
	drop(t, p, 2, 3)
	counts(t, p, 3, 1, 0)
	no(t, "Drop", p.Drop(2), api.ErrNone)
	no(t, "Drop", p.Drop(3), api.ErrNone)
	no(t, "Drop", p.Drop(1), api.ErrArg)
	refused(t, p, nil, api.ErrState)
}

// P10.5
func TestCommit(t *testing.T) {
	d, p := begin(t, 6)
	lays(t, p, "a", 2, 3)
	drop(t, p, 2)
	no(t, "Commit", p.Commit(3, 5, 9), api.OK)
	m := meta.Meta{Gen: 3, Root: 3, Node: 5, Edge: 9}
	isMeta(t, p, m)
	ops(t, d, 3+2+3, 0)
	sectorIs(t, crash(t, d), 1, sealed(t, m))
	sectorIs(t, d, 0, sealed(t, two))
	counts(t, p, 5, 0, 1)
	for i := range 5 { // nothing is to be done, and it counts all the same
		root := 3 * (i % 2)
		no(t, "Commit", p.Commit(root, 5+i, top), api.OK)
		m = meta.Meta{Gen: 4 + i, Root: root, Node: 5 + i, Edge: top}
		isMeta(t, p, m)
		ops(t, d, 8+3*(i+1), 0)
		sectorIs(t, d, i%2, sealed(t, m))
	}
	isMeta(t, open(t, crash(t, d)), m)
	counts(t, p, 5, 0, 1)
}

func TestCommitRefuses(t *testing.T) {
	d, p := begin(t, 6)
	no(t, "Keep", p.Keep([]int{6, 7}), api.OK)
	lays(t, p, "a", 2, 3)
	no(t, "Commit", p.Commit(2, 10, 20), api.OK)
	lays(t, p, "b", 4, 5)
	drop(t, p, 2, 7, 5)
	was, m := d.Ops(), p.Meta()
	for _, c := range [][3]int{
		{minInt, 10, 20}, {-1, 10, 20}, {1, 10, 20}, {8, 10, 20}, {api.MaxSectors, 10, 20}, {maxInt, 10, 20},
		{5, 10, 20}, {2, 10, 20}, {7, 10, 20}, // free, and waiting
		{3, 9, 20}, {3, 10, 19}, {3, 1, 1}, {3, 0, 20}, {3, 10, 0}, {3, -10, 20}, {3, 10, minInt}, {3, minInt, minInt},
		{3, top + 1, 20}, {3, 10, top + 1}, {3, maxInt, 20}, {3, 10, maxInt},
		{0, 9, 20}, {0, 10, top + 1}, {1, 9, 19},
	} {
		no(t, "Commit", p.Commit(c[0], c[1], c[2]), api.ErrArg)
		d.Cut(0)
		no(t, "Commit", p.Commit(c[0], c[1], c[2]), api.ErrArg) // ahead of the cut
		d.Cut(-1)
	}
	ops(t, d, was, 2)
	isMeta(t, p, m)
	counts(t, p, 1, 2, 3)
	lays(t, p, "c", 5) // it did not fail
	no(t, "Abort", p.Abort(), api.OK)
	counts(t, p, 2, 0, 4)
	no(t, "Commit", p.Commit(6, 10, 20), api.OK)
	no(t, "Commit", p.Commit(3, top, top), api.OK)
	isMeta(t, p, meta.Meta{Gen: 5, Root: 3, Node: top, Edge: top})
	no(t, "Commit", p.Commit(3, top, top-1), api.ErrArg)
}

// fails lets a Commit be cut behind so many operations.
func fails(t *testing.T, n int) (*sector.Disk, *pager.Pager) {
	t.Helper()
	d, p := begin(t, 6)
	lays(t, p, "a", 2, 3)
	commit(t, p, 2)
	lays(t, p, "b", 4)
	drop(t, p, 3)
	d.Cut(n)
	was := d.Ops()
	no(t, "Commit", p.Commit(4, 8, 8), api.ErrCut)
	if d.Ops() != was+n {
		t.Error(n, d.Ops()-was)
	}
	return d, p
}

// Where a Commit fails, the committed state is what it was, and nothing more is laid, committed or aborted, also on a whole disk.
func TestCommitFails(t *testing.T) {
	for n := range 3 {
		d, p := fails(t, n)
		m := meta.Meta{Gen: 3, Root: 2, Node: 1, Edge: 1}
		for _, cut := range []int{0, -1} {
			d.Cut(cut)
			isMeta(t, p, m)
			counts(t, p, 3, 1, 2)
			refused(t, p, nil, api.ErrState)
			refused(t, p, make([]byte, room+1), api.ErrState)
			no(t, "Commit", p.Commit(4, 8, 8), api.ErrState)
			no(t, "Commit", p.Commit(-1, 0, 0), api.ErrState)
			no(t, "Abort", p.Abort(), api.ErrState)
			no(t, "Keep", p.Keep(nil), api.ErrState)
			reads(t, p, 4, 7, "b")
			reads(t, p, 2, 7, "a")
			if g, e := p.Pin(); g != 3 || e != api.OK {
				t.Error(g, int(e))
			}
			no(t, "Unpin", p.Unpin(3), api.OK)
			no(t, "Unpin", p.Unpin(4), api.ErrNone)
			counts(t, p, 3, 1, 2)
		}
	}
}

// What was laid is flushed ahead of the Meta, which is written to the elder one's place.
func TestCommitsOperations(t *testing.T) {
	for n, want := range []struct {
		waits int
		metas [2]meta.Meta
	}{
		{1, [2]meta.Meta{two, {Gen: 3, Root: 2, Node: 1, Edge: 1}}},
		{0, [2]meta.Meta{two, {Gen: 3, Root: 2, Node: 1, Edge: 1}}},
		{1, [2]meta.Meta{{Gen: 4, Root: 4, Node: 8, Edge: 8}, {Gen: 3, Root: 2, Node: 1, Edge: 1}}},
	} {
		d, _ := fails(t, n)
		if d.Waiting() != want.waits {
			t.Error(n, d.Waiting())
		}
		for k, m := range want.metas {
			sectorIs(t, d, k, sealed(t, m))
		}
		b, _ := page.Seal(7, 4, 4, []byte("b"))
		if n == 0 {
			b = nil
		}
		sectorIs(t, crash(t, d), 4, b)
	}
}

func TestAbort(t *testing.T) {
	d, p := begin(t, 8)
	no(t, "Abort", p.Abort(), api.OK)
	lays(t, p, "a", 2, 3, 4, 5)
	no(t, "Commit", p.Commit(3, 4, 4), api.OK)
	m := p.Meta()
	for range 3 {
		was := d.Ops()
		lays(t, p, "b", 6, 7)
		drop(t, p, 3, 5, 6)
		lays(t, p, "c", 6, 8, 9)
		refused(t, p, nil, api.ErrFull)
		counts(t, p, 0, 2, 6)
		d.Cut(0)
		for range 2 { // it asks no disk, and behind it there is nothing to be aborted
			no(t, "Abort", p.Abort(), api.OK)
			counts(t, p, 4, 0, 4)
			isMeta(t, p, m)
		}
		d.Cut(-1)
		if d.Ops() != was+5 {
			t.Error(d.Ops() - was)
		}
		for k := 2; k < 6; k++ {
			reads(t, p, k, 7, "a")
		}
		for k := 6; k < 10; k++ {
			no(t, "Drop", p.Drop(k), api.ErrNone)
		}
	}
	lays(t, p, "d", 6)
	drop(t, p, 3)
	commit(t, p, 6)
	counts(t, p, 4, 0, 4)
	isMeta(t, p, meta.Meta{Gen: 4, Root: 6, Node: 4, Edge: 4})
}

// What was dropped ahead of the last Commit stays dropped, also where it waits.
func TestAbortOfWhatWaited(t *testing.T) {
	_, p := begin(t, 4)
	lays(t, p, "a", 2, 3)
	commit(t, p, 2)
	p.Pin()
	drop(t, p, 3)
	commit(t, p, 2)
	drop(t, p, 2)
	lays(t, p, "b", 4)
	counts(t, p, 1, 2, 1)
	no(t, "Abort", p.Abort(), api.OK)
	counts(t, p, 2, 1, 1)
	no(t, "Drop", p.Drop(3), api.ErrNone)
	lays(t, p, "b", 4, 5)
	refused(t, p, nil, api.ErrFull)
}

// Behind an Abort pages wait for the same next Gen, and what was laid ahead of it is no more laid.
func TestAbortThenCommit(t *testing.T) {
	_, p := begin(t, 4)
	lays(t, p, "a", 2)
	no(t, "Abort", p.Abort(), api.OK)
	lays(t, p, "b", 2, 3)
	commit(t, p, 2)
	drop(t, p, 3)
	no(t, "Abort", p.Abort(), api.OK)
	lays(t, p, "c", 4)
	commit(t, p, 2)
	drop(t, p, 4)
	counts(t, p, 1, 1, 2)
	reads(t, p, 3, 7, "b")
}

// The last of all generations has no next one.
func TestTheLastGen(t *testing.T) {
	d := disk(t, 4)
	hand(t, d, meta.Meta{Gen: top - 1, Node: 1, Edge: 1}, meta.Meta{Gen: top - 2, Node: 1, Edge: 1})
	p := open(t, d)
	lays(t, p, "a", 2)
	commit(t, p, 2)
	isMeta(t, p, meta.Meta{Gen: top, Root: 2, Node: 1, Edge: 1})
	refused(t, p, nil, api.ErrArg)
	no(t, "Commit", p.Commit(2, 1, 1), api.ErrArg)
	counts(t, p, 1, 0, 1)
	drop(t, p, 2)
	counts(t, p, 1, 1, 0)
	no(t, "Abort", p.Abort(), api.OK)
	counts(t, p, 1, 0, 1)
	if g, e := p.Pin(); g != top || e != api.OK {
		t.Error(g, int(e))
	}
	no(t, "Unpin", p.Unpin(top), api.OK)
	isMeta(t, open(t, crash(t, d)), p.Meta())
}

// P10.6
func pin(t *testing.T, p *pager.Pager, want int) {
	t.Helper()
	if g, e := p.Pin(); g != want || e != api.OK {
		t.Errorf("Pin: %d, error %d; not %d", g, int(e), want)
	}
}

func unpin(t *testing.T, p *pager.Pager, gen int, want api.Errno) {
	t.Helper()
	if e := p.Unpin(gen); e != want {
		t.Errorf("Unpin %d: error %d, not %d", gen, int(e), int(want))
	}
}

func TestUnpinRefuses(t *testing.T) {
	_, p := begin(t, 4)
	none := func(gens ...int) {
		t.Helper()
		for _, g := range append(gens, minInt, -1, 0, 1, top, maxInt) {
			unpin(t, p, g, api.ErrNone)
		}
	}
	none(2, 3)
	pin(t, p, 2)
	none(3)
	unpin(t, p, 2, api.OK)
	none(2, 3)
	pin(t, p, 2)
	pin(t, p, 2)
	commit(t, p, 0)
	none(3, 4)
	pin(t, p, 3)
	unpin(t, p, 2, api.OK)
	unpin(t, p, 3, api.OK)
	none(3)
	unpin(t, p, 2, api.OK)
	none(2, 3)
	for range 1000 {
		pin(t, p, 3)
	}
	for range 1000 {
		unpin(t, p, 3, api.OK)
	}
	none(3)
}

// turn lays one page for another, and commits that.
func turn(t *testing.T, p *pager.Pager, elder, next int) {
	t.Helper()
	lays(t, p, "a", next)
	drop(t, p, elder)
	commit(t, p, next)
}

// What waits is freed up to the least Gen that is pinned.
func TestPinnedPagesStay(t *testing.T) {
	_, p := begin(t, 8)
	lays(t, p, "a", 2)
	commit(t, p, 2) // Gen 3
	pin(t, p, 3)
	turn(t, p, 2, 3) // 4
	counts(t, p, 6, 1, 1)
	turn(t, p, 3, 4) // 5
	pin(t, p, 5)
	pin(t, p, 5)
	turn(t, p, 4, 5) // 6
	turn(t, p, 5, 6) // 7
	pin(t, p, 7)
	turn(t, p, 6, 7) // 8
	counts(t, p, 2, 5, 1)
	unpin(t, p, 5, api.OK)
	counts(t, p, 2, 5, 1)
	unpin(t, p, 3, api.OK) // the pages of 3 and 4 go
	counts(t, p, 4, 3, 1)
	unpin(t, p, 5, api.OK) // of 5 and 6
	counts(t, p, 6, 1, 1)
	pin(t, p, 8)
	turn(t, p, 7, 2) // 9
	counts(t, p, 5, 2, 1)
	unpin(t, p, 8, api.OK) // 7 is still pinned
	counts(t, p, 5, 2, 1)
	unpin(t, p, 7, api.OK)
	counts(t, p, 7, 0, 1)
	lays(t, p, "b", 3, 4, 5, 6, 7, 8, 9)
}

// What is dropped waits for the Commit, whatever is let go ahead of that.
func TestUnpinWithinATransaction(t *testing.T) {
	_, p := begin(t, 4)
	lays(t, p, "a", 2, 3)
	commit(t, p, 2)
	pin(t, p, 3)
	drop(t, p, 3)
	lays(t, p, "b", 4)
	counts(t, p, 1, 1, 2)
	unpin(t, p, 3, api.OK)
	counts(t, p, 1, 1, 2)
	pin(t, p, 3)
	commit(t, p, 4)
	counts(t, p, 1, 1, 2)
	reads(t, p, 3, 7, "a")
	unpin(t, p, 3, api.OK)
	counts(t, p, 2, 0, 2)
}

// Where the committed state is pinned, it is a pin as any other.
func TestPinOfTheCommitted(t *testing.T) {
	_, p := begin(t, 4)
	lays(t, p, "a", 2)
	commit(t, p, 2)
	pin(t, p, 3)
	no(t, "Abort", p.Abort(), api.OK)
	turn(t, p, 2, 3)
	pin(t, p, 4)
	unpin(t, p, 3, api.OK)
	counts(t, p, 3, 0, 1)
	turn(t, p, 3, 2)
	counts(t, p, 2, 1, 1)
	unpin(t, p, 4, api.OK)
	counts(t, p, 3, 0, 1)
}

// Nothing is pinned behind an Open.
func TestPinsAreThePagers(t *testing.T) {
	d, p := begin(t, 4)
	pin(t, p, 2)
	q := open(t, d)
	unpin(t, q, 2, api.ErrNone)
	unpin(t, p, 2, api.OK)
}

func TestNone(t *testing.T) {
	var missing *pager.Pager
	for _, p := range []*pager.Pager{missing, {}, new(pager.Pager)} {
		for _, k := range []int{minInt, -1, 0, 1, 2, api.MaxSectors, maxInt} {
			for _, l := range [][]int{nil, {k}, {k, k}} {
				no(t, "Keep", p.Keep(l), api.ErrNil)
			}
			unread(t, p, k, api.ErrNil)
			no(t, "Drop", p.Drop(k), api.ErrNil)
			no(t, "Commit", p.Commit(k, 1, 1), api.ErrNil)
			no(t, "Commit", p.Commit(0, k, k), api.ErrNil)
			no(t, "Unpin", p.Unpin(k), api.ErrNil)
		}
		for range 2 {
			refused(t, p, nil, api.ErrNil)
			refused(t, p, make([]byte, room+1), api.ErrNil)
			no(t, "Abort", p.Abort(), api.ErrNil)
			if g, e := p.Pin(); g != 0 || e != api.ErrNil {
				t.Error(g, int(e))
			}
			isMeta(t, p, meta.Meta{})
			counts(t, p, 0, 0, 0)
		}
	}
}

func TestExample(t *testing.T) {
	_, p := begin(t, 8)
	isMeta(t, p, meta.Meta{Gen: 2, Root: 0, Node: 1, Edge: 1})
	lays(t, p, "", 2)
}

// Rule 4: what is handed in is not changed and not kept, what is handed out is new memory.
func TestMemory(t *testing.T) {
	_, p := begin(t, 4)
	in := []byte("abcdef")
	if k, e := p.Lay(7, in[:3]); k != 2 || e != api.OK {
		t.Fatal(k, int(e))
	}
	if string(in) != "abcdef" {
		t.Errorf("%q", in)
	}
	in[0] = 'X'
	for range 2 {
		reads(t, p, 2, 7, "abc")
		_, b, _ := p.Read(2)
		for i := range b[:cap(b)] {
			b[:cap(b)][i] = 7
		}
	}
}
