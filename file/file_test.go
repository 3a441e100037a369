package file_test

import (
	"bytes"
	"encoding/binary"
	"math"
	"reflect"
	"slices"
	"testing"

	"hornbook/api"
	"hornbook/bitmap"
	"hornbook/disk"
	"hornbook/extent"
	"hornbook/file"
	"hornbook/itable"
	"hornbook/pool"
	"hornbook/restart"
	"hornbook/super"
	"hornbook/txn"
	"hornbook/wal"
)

// bench is a disk, a store on it, and a transaction on its way.
type bench struct {
	d *disk.Disk
	l *wal.Log
	p *pool.Pool
	s *txn.Store
	t uint64
}

// ok says that nothing was refused.
func ok(t *testing.T, l ...api.Errno) {
	t.Helper()
	for i, e := range l {
		if e != api.OK {
			t.Fatal(i, "told", e)
		}
	}
}

// noughts is a store on a disk of noughts.
func noughts(t *testing.T, sectors int, held bool) *bench {
	t.Helper()
	b := &bench{}
	var e [5]api.Errno
	var su api.Super
	b.d, e[0] = disk.New(sectors)
	su, e[1] = super.Make(sectors)
	b.l, _, e[2] = wal.Open(b.d, su, 0, 1)
	b.p, e[3] = pool.New(b.d, b.l, 8, held)
	b.s, e[4] = txn.New(b.d, su, api.Master{Epoch: 1, Seq: 1}, b.l, b.p)
	ok(t, e[:]...)
	b.begin(t)
	return b
}

// made is a store that is as at first, with these inodes.
func made(t *testing.T, sectors int, kinds ...api.InodeKind) *bench {
	t.Helper()
	b := noughts(t, sectors, false)
	su := b.s.Super()
	for g := range su.Groups {
		first, _, e := super.Group(su, g)
		p, f := bitmap.Start(su, g)
		ok(t, e, f, b.s.Update(b.t, first, 0, p[:]))
		b.commit(t)
	}
	for i, kind := range kinds {
		n, e := itable.Make(b.s, b.t, 0, kind)
		if n != i+1 || e != api.OK {
			t.Fatal(n, e)
		}
		b.commit(t)
	}
	ok(t, b.s.Room())
	return b
}

func (b *bench) begin(t *testing.T) {
	t.Helper()
	var e api.Errno
	b.t, e = b.s.Begin()
	ok(t, e)
}

// commit lets the log's room go: the next transaction is on its way.
func (b *bench) commit(t *testing.T) {
	t.Helper()
	ok(t, b.s.Commit(b.t))
	b.begin(t)
}

// looks are what can be told of a store without its being changed.
type looks struct {
	ways             []uint64
	master           api.Master
	end, lasts, tail uint64
	free             int
	dirty            []int
}

func (b *bench) look() looks {
	return looks{slices.Concat([]uint64{}, b.s.Ways()), b.s.Master(), b.l.End(), b.l.Lasts(), b.l.Tail(), b.l.Free(), slices.Concat([]int{}, b.p.Dirty())}
}

// call is a call, of a store and a transaction; beside an error what it tells otherwise is to be nought.
type call func(s *txn.Store, t uint64) (any, api.Errno)

// tells says what a call answers.
func (b *bench) tells(t *testing.T, do call, want any) {
	t.Helper()
	if got, e := do(b.s, b.t); !reflect.DeepEqual(got, want) || e != api.OK {
		t.Fatalf("told %.99q, %v, not %.99q", got, e, want)
	}
}

// refused says that a call is, by that error, and tells nothing else.
func refused(t *testing.T, s *txn.Store, n uint64, do call, want api.Errno) {
	t.Helper()
	if got, e := do(s, n); e != want || !reflect.ValueOf(got).IsZero() {
		t.Errorf("told %.99q, %v, not %v", got, e, want)
	}
}

// refuses says so, and that nothing changes by it.
func (b *bench) refuses(t *testing.T, n uint64, do call, want api.Errno) {
	t.Helper()
	was, sectors := b.look(), b.d.Copy()
	refused(t, b.s, n, do, want)
	if now := b.look(); !reflect.DeepEqual(was, now) || !b.d.Same(sectors) {
		t.Error("changed", was, now)
	}
}

// keeps says so, and that nothing is noted, though room may be made, and pages may go.
func (b *bench) keeps(t *testing.T, n uint64, do call, want api.Errno) {
	t.Helper()
	end, free := b.l.End(), b.l.Free()
	refused(t, b.s, n, do, want)
	if b.l.End() != end || b.l.Free() != free {
		t.Error("noted", end, b.l.End(), free, b.l.Free())
	}
}

// gone takes the power away.
func (b *bench) gone(t *testing.T) {
	t.Helper()
	b.d.Fuse(0)
	if e := b.d.Write(0, api.Sector{}); e != api.ErrDead {
		t.Fatal(e)
	}
}

// crowd lets all frames have these pages, all of them dirty, so that what is asked for next must write.
func (b *bench) crowd(t *testing.T, pages ...int) {
	t.Helper()
	ok(t, b.s.Room())
	for i := byte(1); len(b.p.Dirty()) < b.p.Frames() || b.p.Frames() < 8; i++ { // at first some go again
		for _, page := range pages {
			ok(t, b.s.Update(b.t, page, 200, []byte{i}))
		}
	}
	if got := b.p.Dirty(); !slices.Equal(got, pages) {
		t.Fatal(got)
	}
}

// read, write, cut, whole and holes are calls.

func read(i int, off int64, n int) call {
	return func(s *txn.Store, _ uint64) (any, api.Errno) { l, e := file.Read(s, i, off, n); return string(l), e }
}

func write(i int, off int64, l string) call {
	return func(s *txn.Store, t uint64) (any, api.Errno) { return nothing{}, file.Write(s, t, i, off, []byte(l)) }
}

func cut(i int, size int64) call {
	return func(s *txn.Store, t uint64) (any, api.Errno) { return nothing{}, file.Cut(s, t, i, size) }
}

func whole(i int) call {
	return func(s *txn.Store, _ uint64) (any, api.Errno) { l, e := file.Whole(s, i); return string(l), e }
}

func holes(i int) call {
	return func(s *txn.Store, _ uint64) (any, api.Errno) {
		l, e := file.Holes(s, i)
		return append([]int(nil), l...), e
	}
}

// nothing is what is told by what tells an error alone.
type nothing struct{}

// plain is a file, as a plain one: its bytes, and which blocks have sectors.
type plain struct {
	l   []byte
	has map[int]bool
}

func newPlain() *plain { return &plain{has: map[int]bool{}} }

// copied is another one like it.
func (f *plain) copied() *plain {
	g := &plain{l: slices.Clone(f.l), has: map[int]bool{}}
	for block := range f.has {
		g.has[block] = true
	}
	return g
}

func (f *plain) write(off int, l string) {
	if l == "" {
		return
	}
	if end := off + len(l); end > len(f.l) {
		f.l = append(f.l, make([]byte, end-len(f.l))...)
	}
	for k := range len(l) {
		f.l[off+k] = l[k]
		f.has[(off+k)/248] = true
	}
}

func (f *plain) cut(size int) {
	if size > len(f.l) {
		f.l = append(f.l, make([]byte, size-len(f.l))...)
	}
	f.l = f.l[:size]
	for block := range f.has {
		if 248*block >= size {
			delete(f.has, block)
		}
	}
}

func (f *plain) read(off, n int) string {
	if off >= len(f.l) {
		return ""
	}
	return string(f.l[off:min(off+n, len(f.l))])
}

func (f *plain) holes() []int {
	var l []int
	for block := 0; 248*block < len(f.l); block++ {
		if !f.has[block] {
			l = append(l, block)
		}
	}
	return l
}

// inode is one.
func (b *bench) inode(t *testing.T, i int) api.Inode {
	t.Helper()
	n, e := itable.Get(b.s, i)
	ok(t, e)
	return n
}

// is says that an inode's file is that one, and that its tree has no more.
func (b *bench) is(t *testing.T, i int, f *plain) {
	t.Helper()
	got, e := file.Whole(b.s, i)
	if string(got) != string(f.l) || e != api.OK {
		for k := range min(len(got), len(f.l)) {
			if got[k] != f.l[k] {
				t.Fatal("byte", k, "is", got[k], "not", f.l[k])
			}
		}
		t.Fatal(len(got), "bytes, not", len(f.l), e)
	}
	b.tells(t, holes(i), f.holes())
	n := b.inode(t, i)
	many, e := extent.Count(b.s, n.Root)
	if n.Size != int64(len(f.l)) || many != len(f.has) || e != api.OK {
		t.Fatal(n, many, len(f.has), e)
	}
}

// land are the payloads of all pages of groups.
func (b *bench) land(t *testing.T) []api.Page {
	t.Helper()
	var l []api.Page
	su := b.s.Super()
	for page := 3 + su.Log; page < su.Sectors; page++ {
		p, e := b.s.Read(page)
		if e == api.OK {
			l = append(l, p)
		}
	}
	return l
}

// stands says that all pages are as they were.
func (b *bench) stands(t *testing.T, was []api.Page) {
	t.Helper()
	if now := b.land(t); !slices.Equal(was, now) {
		t.Fatal("a page changed")
	}
}

// free is how many blocks are.
func (b *bench) free(t *testing.T) int {
	t.Helper()
	n, _, e := bitmap.Total(b.s)
	ok(t, e)
	return n
}

// text is so many bytes, of which no two beside each other are the same, and none is a nought.
func text(n, from int) string {
	l := make([]byte, n)
	for i := range l {
		l[i] = byte(1 + (from+7*i)%251)
	}
	return string(l)
}

// entry is one of a page of a tree.
type entry struct{ block, count, sector int }

// treePage is a page of a tree.
func treePage(level int, l ...entry) []byte {
	b := make([]byte, 248)
	b[0], b[1] = byte(level), byte(len(l))
	for i, x := range l {
		binary.LittleEndian.PutUint16(b[8+8*i:], uint16(x.block))
		binary.LittleEndian.PutUint16(b[10+8*i:], uint16(x.count))
		binary.LittleEndian.PutUint32(b[12+8*i:], uint32(x.sector))
	}
	return b
}

// puts lets a page have bytes.
func (b *bench) puts(t *testing.T, page int, l []byte) {
	t.Helper()
	ok(t, b.s.Update(b.t, page, 0, l))
	b.commit(t)
}

// takes uses all blocks up to one.
func (b *bench) takes(t *testing.T, g, last int) {
	t.Helper()
	for {
		got, e := bitmap.TakeBlock(b.s, b.t, g)
		ok(t, e)
		b.commit(t)
		if got == last {
			return
		}
	}
}

// sets lets an inode be that.
func (b *bench) sets(t *testing.T, i int, n api.Inode) {
	t.Helper()
	ok(t, itable.Set(b.s, b.t, i, n))
	b.commit(t)
}

func TestExamples(t *testing.T) {
	b := made(t, 64, api.InodeFile)
	b.tells(t, write(1, 250, "ab"), nothing{})
	b.tells(t, read(1, 248, 9), "\x00\x00ab")
	b.tells(t, holes(1), []int{0})
	b.tells(t, cut(1, 251), nothing{})
	b.tells(t, cut(1, 253), nothing{})
	b.tells(t, read(1, 250, 9), "a\x00\x00")
	b.keeps(t, b.t, write(1, api.MaxSize, "a"), api.ErrArg)
	for _, c := range []struct {
		off  int64
		n    int
		want int
	}{{0, 1, 6}, {247, 2, 7}, {0, 0, 0}} {
		if got := file.Needs(c.off, c.n); got != c.want {
			t.Error(c, got)
		}
	}
}

// P14.4: as many as the bytes lie in, and 5; what may not be needs none
func TestNeeds(t *testing.T) {
	for _, off := range []int64{0, 1, 100, 246, 247, 248, 249, 495, 496, 2000, api.MaxSize - 1984, api.MaxSize - 1983, api.MaxSize - 500, api.MaxSize - 248, api.MaxSize - 1, api.MaxSize} {
		for n := range 2000 {
			at := map[int64]bool{}
			for k := range int64(n) {
				at[(off+k)/248] = true
			}
			want := len(at) + 5
			if n == 0 || n > 1984 || off+int64(n) > 4096*248 {
				want = 0
			}
			if got := file.Needs(off, n); got != want {
				t.Fatal(off, n, got, want)
			}
		}
	}
	for _, n := range []int{math.MinInt, -1, 1985, 1 << 32, math.MaxInt} {
		if got := file.Needs(0, n); got != 0 {
			t.Error(n, got)
		}
	}
	for _, off := range []int64{math.MinInt64, math.MinInt64 + 1, -249, -248, -1, api.MaxSize, api.MaxSize + 1, 1 << 32, math.MaxInt64 - 1, math.MaxInt64} {
		for _, n := range []int{1, 2, 248, 249, 1984} {
			if got := file.Needs(off, n); got != 0 {
				t.Error(off, n, got)
			}
		}
	}
}

// gapped is a store with a file of 6 blocks, of which the first, third and sixth are holes, and the last byte that it has is 100 ahead of the sixth's end.
func gapped(t *testing.T, sectors int) (*bench, *plain) {
	t.Helper()
	b, f := made(t, sectors, api.InodeFile), newPlain()
	for _, block := range []int{1, 3, 4} {
		l := text(248, block)
		b.tells(t, write(1, int64(248*block), l), nothing{})
		b.commit(t)
		f.write(248*block, l)
	}
	b.tells(t, cut(1, 6*248-100), nothing{})
	f.cut(6*248 - 100)
	b.commit(t)
	return b, f
}

// P14.1: any part, about each block's bounds, and nothing behind the Size
func TestRead(t *testing.T) {
	b, f := gapped(t, 64)
	was := b.land(t)
	var offs []int
	for k := range 7 {
		for d := -2; d <= 2; d++ {
			offs = append(offs, max(248*k+d, 0))
		}
	}
	offs = append(offs, 1386, 1387, 1388, 1389, 1390, 2000, api.MaxSize-1, api.MaxSize)
	for _, off := range offs {
		for _, n := range []int{0, 1, 2, 3, 99, 247, 248, 249, 250, 496, 497, 1000, 1387, 1388, 1389, 1983, 1984} {
			b.tells(t, read(1, int64(off), n), f.read(off, n))
		}
	}
	b.is(t, 1, f)
	b.stands(t, was)
}

// P14.1: a file without a byte; one without a block, of each size about a block's bound; the greatest one
func TestSizes(t *testing.T) {
	b := made(t, 64, api.InodeFile, api.InodeDir)
	for _, size := range []int{0, 1, 247, 248, 249, 495, 496, 497, 1984, 1985, 5000, api.MaxSize - 249, api.MaxSize - 248, api.MaxSize - 1, api.MaxSize} {
		for i := 1; i <= 2; i++ {
			f := newPlain()
			f.cut(size)
			b.tells(t, cut(i, int64(size)), nothing{})
			b.is(t, i, f)
			for _, off := range []int{0, 1, max(size-2, 0), size, min(size+1, api.MaxSize)} {
				b.tells(t, read(i, int64(off), 1984), f.read(off, 1984))
			}
			b.commit(t)
		}
	}
	b.tells(t, write(1, api.MaxSize-1, "z"), nothing{})
	b.tells(t, read(1, api.MaxSize-3, 1984), "\x00\x00z")
	b.commit(t)
	l := text(300, 3)
	b.tells(t, write(1, api.MaxSize-300, l), nothing{})
	b.tells(t, read(1, api.MaxSize-301, 1984), "\x00"+l)
	got, e := file.Holes(b.s, 1)
	if len(got) != 4094 || got[4093] != 4093 || e != api.OK {
		t.Error(len(got), e)
	}
}

// P14.1: each block is found by its way: what lies in two leaves is there where the way goes
func TestFound(t *testing.T) {
	b := made(t, 91, api.InodeFile)
	b.puts(t, 60, treePage(1, entry{10, 0, 40}, entry{20, 0, 41}, entry{30, 0, 42}))
	b.puts(t, 40, treePage(0, entry{3, 1, 30}, entry{12, 15, 31}))
	b.puts(t, 41, treePage(0, entry{2, 1, 50}, entry{22, 1, 52}, entry{31, 1, 51}))
	b.puts(t, 42, treePage(0, entry{19, 2, 53}, entry{40, 2, 55}))
	at := map[int]int{3: 30, 22: 52, 40: 55, 41: 56}
	for k := range 8 {
		at[12+k] = 31 + k
	}
	want := make([]byte, 42*248)
	for block, sector := range at {
		l := text(248, block)
		b.puts(t, sector, []byte(l))
		copy(want[248*block:], l)
	}
	b.sets(t, 1, api.Inode{Kind: api.InodeFile, Size: int64(len(want)), Root: 60})
	b.tells(t, whole(1), string(want))
	for off := 0; off < len(want); off += 1984 {
		b.tells(t, read(1, int64(off), 1984), string(want[off:min(off+1984, len(want))]))
	}
	var none []int
	for block := range 42 {
		if at[block] == 0 {
			none = append(none, block)
		}
	}
	b.tells(t, holes(1), none)
}

// byHand writes as Write is to do, by the layers below.
func (b *bench) byHand(t *testing.T, i, off int, l string) {
	t.Helper()
	g := (i - 1) / 16
	for l != "" {
		n := b.inode(t, i)
		block, at := off/248, off%248
		size := min(248-at, len(l))
		sector, e := extent.Find(b.s, n.Root, block)
		ok(t, e)
		if sector == 0 {
			sector, e = bitmap.TakeBlock(b.s, b.t, g)
			ok(t, e, b.s.Update(b.t, sector, 0, make([]byte, 248)))
			n.Root, e = extent.Put(b.s, b.t, g, n.Root, block, sector)
			ok(t, e)
		}
		n.Size = max(n.Size, int64(off+size))
		ok(t, b.s.Update(b.t, sector, at, []byte(l[:size])), itable.Set(b.s, b.t, i, n))
		off, l = off+size, l[size:]
	}
}

// P14.2: each block is taken from the inode's group on, and then what its tree needs; all else stays; noughts are in what was used for other things
func TestWrite(t *testing.T) {
	type part struct {
		i, off, n int
	}
	for k, l := range [][]part{
		{{1, 0, 1}, {1, 0, 248}, {1, 247, 2}, {1, 248, 248}},
		{{1, 0, 1984}, {1, 1984, 1984}, {1, 1000, 1984}},
		{{1, 1, 1984}},
		{{1, 100, 10}, {1, 600, 10}, {1, 350, 10}, {1, 90, 600}},
		{{17, 247, 1}, {17, 246, 1}, {17, 248, 1}, {1, 5, 300}, {33, 5, 300}, {17, 500, 700}, {1, 500, 700}, {33, 600, 1}},
		{{16, 700, 1}, {32, 700, 1}, {48, 700, 1}},
		{{2, api.MaxSize - 1984, 1984}, {2, 0, 1}, {2, api.MaxSize - 1, 1}},
	} {
		a, b := made(t, 1400), made(t, 1400)
		su := a.s.Super()
		for _, x := range []*bench{a, b} {
			for page := 3 + su.Log; page < su.Sectors; page++ {
				if _, _, e := super.Block(su, page); e == api.OK {
					x.puts(t, page, bytes.Repeat([]byte{byte(page)}, 248))
				}
			}
			for _, w := range l {
				x.sets(t, w.i, api.Inode{Kind: api.InodeFile})
			}
		}
		files := map[int]*plain{}
		for n, w := range l {
			if files[w.i] == nil {
				files[w.i] = newPlain()
			}
			l := text(w.n, n)
			files[w.i].write(w.off, l)
			a.tells(t, write(w.i, int64(w.off), l), nothing{})
			b.byHand(t, w.i, w.off, l)
			a.commit(t)
			b.commit(t)
			if !slices.Equal(a.land(t), b.land(t)) {
				t.Fatal(k, n, "not as by hand")
			}
			for i, f := range files {
				a.is(t, i, f)
			}
		}
	}
}

// P14.2: the inode keeps all else that it has, whatever it is, and whether it is used or not
func TestInode(t *testing.T) {
	b := made(t, 64)
	for i, n := range []api.Inode{{Kind: api.InodeFile}, {Kind: api.InodeDir, Links: 250}, {Kind: api.InodeFile, Links: 3, Size: 700}} {
		b.sets(t, i+1, n)
		b.tells(t, write(i+1, 300, "ab"), nothing{})
		got := b.inode(t, i+1)
		if got.Root == 0 {
			t.Error(i)
		}
		n.Root, n.Size = got.Root, max(n.Size, 302)
		if got != n {
			t.Error(i, got)
		}
		b.commit(t)
		b.tells(t, cut(i+1, 100), nothing{})
		n.Root, n.Size = 0, 100
		if got := b.inode(t, i+1); got != n {
			t.Error(i, got)
		}
		b.commit(t)
	}
}

// P14.2: no bytes: nothing is done, wherever that is, and whoever asks
func TestWriteNothing(t *testing.T) {
	b, f := gapped(t, 64)
	was := b.land(t)
	for _, n := range []uint64{b.t, 0, b.t + 1, math.MaxUint64} {
		for _, off := range []int64{0, 1, 247, 248, 1387, 1388, 1389, 5000, api.MaxSize - 1, api.MaxSize} {
			look := b.look()
			for _, l := range [][]byte{nil, {}} {
				ok(t, file.Write(b.s, n, 1, off, l))
			}
			if now := b.look(); now.end != look.end || now.free != look.free {
				t.Error("noted")
			}
		}
	}
	b.stands(t, was)
	b.is(t, 1, f)
}

// P14.2: what is there already is not noted once more
func TestWriteSame(t *testing.T) {
	b, f := gapped(t, 64)
	look := b.look()
	b.tells(t, write(1, 250, f.read(250, 100)), nothing{})
	b.tells(t, write(1, 800, f.read(800, 400)), nothing{})
	b.tells(t, cut(1, 1388), nothing{})
	if now := b.look(); now.end != look.end || now.free != look.free {
		t.Error("noted")
	}
	b.is(t, 1, f)
}

// P14.3: from each size to each, about the bounds of blocks
func TestCut(t *testing.T) {
	var sizes []int
	for k := range 7 {
		for _, d := range []int{-1, 0, 1, 100} {
			sizes = append(sizes, max(248*k+d, 0))
		}
	}
	b, f := gapped(t, 64)
	for _, size := range sizes {
		for _, then := range []int{0, 1, 248, size, 1388, 2000} {
			g := f.copied()
			for _, x := range []int{size, then} {
				g.cut(x)
				b.tells(t, cut(1, int64(x)), nothing{})
				b.is(t, 1, g)
			}
			ok(t, b.s.Rollback(b.t))
			b.begin(t)
			b.is(t, 1, f)
		}
	}
}

// P14.3: what lies behind a size is noughts in the sector itself; a hole stays one
func TestCutNoughts(t *testing.T) {
	for _, size := range []int{249, 250, 400, 495, 496, 750, 991, 992, 993, 1239} {
		b, f := gapped(t, 64)
		free := b.free(t)
		sectors := map[int]int{}
		for block := range f.has {
			n := b.inode(t, 1)
			sector, e := extent.Find(b.s, n.Root, block)
			ok(t, e)
			sectors[block] = sector
		}
		b.tells(t, cut(1, int64(size)), nothing{})
		gone := 0
		for block, sector := range sectors {
			p, e := b.s.Read(sector)
			ok(t, e)
			want := make([]byte, 248)
			copy(want, text(248, block)[:max(min(size-248*block, 248), 0)])
			if 248*block >= size { // it keeps what it had
				gone++
				copy(want, text(248, block))
			}
			if string(p[:]) != string(want) {
				t.Error(size, block)
			}
		}
		if got := b.free(t); got != free+gone {
			t.Error(size, free, gone, got)
		}
	}
}

// odd is a store with a file that these calls do not make: with bytes behind the Size, and blocks behind it.
func odd(t *testing.T, size int64) *bench {
	t.Helper()
	b := made(t, 91, api.InodeFile)
	b.puts(t, 60, treePage(0, entry{0, 1, 30}, entry{2, 2, 31}, entry{4095, 1, 33}))
	for k, sector := range []int{30, 31, 32, 33} {
		b.puts(t, sector, []byte(text(248, k)))
	}
	b.takes(t, 0, 60)
	b.sets(t, 1, api.Inode{Kind: api.InodeFile, Size: size, Root: 60})
	return b
}

// P14.1 to P14.3: what a file has otherwise stays: it is seen when the Size goes up, and cut when it goes down
func TestOdd(t *testing.T) {
	first, third := text(248, 0), text(248, 1)
	b := odd(t, 100)
	b.tells(t, whole(1), first[:100])
	b.tells(t, holes(1), []int(nil))
	b.tells(t, read(1, 50, 1984), first[50:100])
	b.tells(t, cut(1, 600), nothing{})
	b.tells(t, whole(1), first+string(make([]byte, 248))+third[:104])
	b.tells(t, holes(1), []int{1})
	b.commit(t)
	b.tells(t, write(1, 700, "x"), nothing{})
	b.tells(t, read(1, 590, 1000), third[94:204]+"x")
	b.commit(t)
	free := b.free(t)
	b.tells(t, cut(1, 500), nothing{})
	b.tells(t, whole(1), first+string(make([]byte, 248))+third[:4])
	if got := b.free(t); got != free+2 { // of the blocks 3 and 4095
		t.Error(free, got)
	}
	b = odd(t, 100)
	free = b.free(t)
	b.tells(t, write(1, 100, "x"), nothing{})
	b.tells(t, cut(1, 248), nothing{})
	b.tells(t, whole(1), first[:100]+"x"+first[101:])
	b.commit(t)
	b.tells(t, cut(1, 1), nothing{})
	b.tells(t, cut(1, 248), nothing{})
	b.tells(t, whole(1), first[:1]+string(make([]byte, 247)))
	if got := b.free(t); got != free+3 {
		t.Error(free, got)
	}
	b = odd(t, 0) // it has blocks; a Cut to 0 is no less than it was
	b.tells(t, whole(1), "")
	b.tells(t, cut(1, 0), nothing{})
	b.tells(t, cut(1, 1), nothing{})
	b.tells(t, whole(1), first[:1])
	b.commit(t)
	b.tells(t, cut(1, 0), nothing{})
	if n := b.inode(t, 1); n.Root != 0 || b.free(t) != free+5 {
		t.Error(n, b.free(t))
	}
}

// P14.5: behind a Cut to 0 all is free, of a tree of any height
func TestCutFree(t *testing.T) {
	b := made(t, 2048, api.InodeFile)
	free := b.free(t)
	f := newPlain()
	for k := range 490 {
		block := 3 * k
		f.write(248*block+k%248, "x")
		b.tells(t, write(1, int64(248*block+k%248), "x"), nothing{})
		b.commit(t)
	}
	b.is(t, 1, f)
	p, e := b.s.Read(b.inode(t, 1).Root)
	if extent.Level(p) != 2 || e != api.OK {
		t.Fatal(extent.Level(p), e)
	}
	for _, size := range []int{248*1200 + 5, 248 * 600, 248*33 + 100, 1, 0} {
		for len(f.l) > size {
			next := max(len(f.l)-248*50, size)
			b.tells(t, cut(1, int64(next)), nothing{})
			f.cut(next)
			b.commit(t)
		}
		b.is(t, 1, f)
	}
	if got := b.free(t); got != free {
		t.Error(free, got)
	}
}

// sound are calls of the file that gapped makes.
func sound() []call {
	return []call{read(1, 248, 10), write(1, 0, "a"), write(1, 248, "aaa"), write(1, 1300, "aa"), cut(1, 0), cut(1, 300), cut(1, 2000), whole(1), holes(1)}
}

func TestNil(t *testing.T) {
	wrong := []call{read(-1, -1, -1), read(0, 0, 0), write(-1, -1, ""), write(0, 0, text(1985, 0)), cut(-1, -1), cut(0, 0), whole(-1), whole(0), holes(-1), holes(0)}
	for _, s := range []*txn.Store{nil, {}} {
		for _, do := range append(sound(), wrong...) {
			refused(t, s, 1, do, api.ErrNil)
		}
	}
}

// offs and sizes are what may not be, of a file that is.
func offs() []call {
	var l []call
	for _, off := range []int64{math.MinInt64, -1, api.MaxSize + 1, 1 << 32, 1<<32 + 248, math.MaxInt64} {
		l = append(l, read(1, off, 1), read(1, off, 0), read(1, off, -1), write(1, off, "a"), write(1, off, ""), cut(1, off))
	}
	for _, n := range []int{math.MinInt, -1, 1985, 1 << 32, 1<<32 + 1, math.MaxInt} {
		l = append(l, read(1, 0, n), read(1, api.MaxSize, n))
	}
	return append(l, write(1, 0, text(1985, 0)), write(1, 0, text(70000, 0)), write(1, api.MaxSize, "a"), write(1, api.MaxSize-1, "ab"), write(1, api.MaxSize-1983, text(1984, 0)), write(1, math.MaxInt64-1, "ab"))
}

// inodes are calls of inodes that there are not, and numbers those.
func inodes(numbers ...int) []call {
	var l []call
	for _, i := range numbers {
		l = append(l, read(i, 0, 1), read(i, 0, 0), write(i, 0, "a"), write(i, 0, ""), cut(i, 0), cut(i, 5), whole(i), holes(i), read(i, -1, 1), write(i, -1, "a"), cut(i, -1))
	}
	return l
}

// P14.1 to P14.3: what may not be, ahead of all that the store tells
func TestWrong(t *testing.T) {
	b, f := gapped(t, 91)
	no := inodes(math.MinInt, -1, 0, 33, 34, 1<<32, 1<<32+1, math.MaxInt)
	for _, do := range slices.Concat(inodes(2, 16, 17, 32), no, offs()) {
		b.keeps(t, b.t, do, api.ErrArg)
		b.keeps(t, 99999, do, api.ErrArg)
	}
	b.is(t, 1, f)
	b.sets(t, 1, api.Inode{Kind: api.InodeFile, Size: 700, Root: 60}) // a page that may not be
	for _, do := range offs() {
		b.keeps(t, b.t, do, api.ErrArg)
	}
	b.gone(t)
	for _, do := range append(no, offs()...) {
		b.refuses(t, b.t, do, api.ErrArg)
		b.refuses(t, 99999, do, api.ErrArg)
	}
}

// P14.1, P14.2: what may just be
func TestJust(t *testing.T) {
	b := made(t, 600, api.InodeFile)
	l := text(1984, 5)
	b.tells(t, write(1, api.MaxSize-1984, l), nothing{})
	b.tells(t, read(1, api.MaxSize-1984, 1984), l)
	b.tells(t, read(1, api.MaxSize, 1984), "")
	b.tells(t, write(1, api.MaxSize, ""), nothing{})
	b.tells(t, cut(1, api.MaxSize), nothing{})
	b.tells(t, cut(1, 0), nothing{})
	b.tells(t, read(1, 0, 0), "")
}

// P14.1 to P14.3: an inode whose bytes are none's, ahead of what else may not be
func TestBadInode(t *testing.T) {
	b := made(t, 91, api.InodeFile)
	page := 3 + b.s.Super().Log + 1
	sound1, e := b.s.Read(page)
	ok(t, e)
	for _, at := range []int{0, 1, 2, 10, 14, 61} { // kind, links, size, root, what is noughts
		ok(t, b.s.Update(b.t, page, at, []byte{sound1[at] + 251}))
		for _, do := range slices.Concat(sound(), offs()) {
			b.keeps(t, b.t, do, api.ErrBytes)
			b.keeps(t, 99999, do, api.ErrBytes)
		}
		for _, do := range inodes(2) {
			b.keeps(t, b.t, do, api.ErrArg)
		}
		ok(t, b.s.Rollback(b.t))
		b.begin(t)
	}
}

// branched is a store with a file whose tree has two leaves, at 40 (of the blocks below 10) and 41, below 60: the blocks 0, 1, 9, 10, 11 are in the sectors 30 to 34.
func branched(t *testing.T) (*bench, *plain) {
	t.Helper()
	b, f := made(t, 91, api.InodeFile), newPlain()
	b.puts(t, 60, treePage(1, entry{0, 0, 40}, entry{10, 0, 41}))
	b.puts(t, 40, treePage(0, entry{0, 2, 30}, entry{9, 1, 32}))
	b.puts(t, 41, treePage(0, entry{10, 2, 33}))
	for k, block := range []int{0, 1, 9, 10, 11} {
		b.puts(t, 30+k, []byte(text(248, k)))
		f.write(248*block, text(248, k))
	}
	b.takes(t, 0, 60)
	b.sets(t, 1, api.Inode{Kind: api.InodeFile, Size: 13 * 248, Root: 60})
	f.cut(13 * 248)
	b.is(t, 1, f)
	return b, f
}

// P14.1 to P14.3: a page of the tree that may not be is ErrBytes for what comes to it, and for nothing else
func TestSpoilt(t *testing.T) {
	calls := []struct {
		do            call
		first, second bool // the leaves that it comes to
	}{
		{read(1, 0, 1), true, false},
		{read(1, 2479, 1), true, false},
		{read(1, 700, 5), true, false},
		{read(1, 2480, 1), false, true},
		{read(1, 13*248-1, 9), false, true},
		{read(1, 2479, 2), true, true},
		{read(1, 2300, 500), true, true},
		{write(1, 0, "a"), true, false},
		{write(1, 600, "a"), true, false},
		{write(1, 2480, "a"), false, true},
		{write(1, 90000, "a"), false, true},
		{write(1, 2479, "ab"), true, true},
		{cut(1, 3000), false, true},
		{cut(1, 2700), false, true},
		{cut(1, 2481), false, true},
		{cut(1, 2480), true, true}, // one leaf is left: it is the root
		{cut(1, 2400), true, true},
		{cut(1, 100), true, true},
		{cut(1, 0), true, true},
		{whole(1), true, true},
		{holes(1), true, true},
		{read(1, 0, 0), false, false},
		{read(1, 13*248, 9), false, false},
		{read(1, 20000, 1984), false, false},
		{write(1, 0, ""), false, false},
		{write(1, 2480, ""), false, false},
		{cut(1, 13*248), false, false},
		{cut(1, 20000), false, false},
	}
	for _, page := range []int{40, 41, 60} {
		for at, x := range map[int]byte{0: 3, 1: 31, 2: 1, 14: 1, 247: 1} {
			b, _ := branched(t)
			ok(t, b.s.Update(b.t, page, at, []byte{x}))
			b.commit(t)
			was := b.land(t)
			for k, c := range calls {
				want := api.OK
				if c.first && page != 41 || c.second && page != 40 {
					want = api.ErrBytes
				}
				if got, e := c.do(b.s, b.t); e != want || e != api.OK && !reflect.ValueOf(got).IsZero() {
					t.Error(page, at, k, got, e, want)
				}
				ok(t, b.s.Rollback(b.t))
				b.begin(t)
			}
			b.stands(t, was)
		}
	}
}

// P14.3: where the Size ends at a block's end, no block ahead of it is looked for
func TestCutAtBound(t *testing.T) {
	b, _ := branched(t)
	b.puts(t, 60, treePage(1, entry{0, 0, 40}, entry{10, 0, 41}, entry{20, 0, 42}))
	b.puts(t, 42, treePage(0, entry{20, 1, 35}))
	b.puts(t, 41, make([]byte, 248))
	b.sets(t, 1, api.Inode{Kind: api.InodeFile, Size: 30 * 248, Root: 60})
	b.keeps(t, b.t, cut(1, 12*248), api.ErrBytes)
	refused(t, b.s, b.t, cut(1, 20*248-1), api.ErrBytes)
	ok(t, b.s.Rollback(b.t))
	b.begin(t)
	b.tells(t, cut(1, 20*248), nothing{})
	if n := b.inode(t, 1); n.Size != 20*248 || n.Root != 60 {
		t.Error(n)
	}
}

// P14.2, P14.3: transactions that there are not are told where the first change would be done: what is refused ahead of it is refused
func TestNone(t *testing.T) {
	b, f := branched(t)
	was := b.land(t)
	changes := []call{write(1, 0, "a"), write(1, 600, "a"), write(1, 2479, "ab"), write(1, 90000, "a"), cut(1, 0), cut(1, 100), cut(1, 2480), cut(1, 2481), cut(1, 3000), cut(1, 20000)}
	for _, n := range []uint64{0, b.t - 1, b.t + 1, math.MaxUint64} {
		for _, do := range changes {
			b.keeps(t, n, do, api.ErrNone)
		}
	}
	b.stands(t, was)
	b.is(t, 1, f)
	for _, do := range []call{read(1, 0, 100), whole(1), holes(1)} {
		if _, e := do(b.s, 99999); e != api.OK {
			t.Error(e)
		}
	}
	b.puts(t, 41, make([]byte, 248))
	for _, do := range []call{write(1, 2480, "a"), cut(1, 2700)} {
		b.keeps(t, 99999, do, api.ErrBytes)
	}
	for _, do := range []call{write(1, 2479, "ab"), cut(1, 20000)} {
		b.keeps(t, 99999, do, api.ErrNone)
	}
}

// P14.1 to P14.3: without power, whatever is in memory
func TestDead(t *testing.T) {
	for _, inMemory := range []bool{false, true} {
		b, f := gapped(t, 91)
		ok(t, b.s.Room())
		if inMemory {
			b.is(t, 1, f)
		}
		b.gone(t)
		for _, do := range sound() {
			b.refuses(t, b.t, do, api.ErrDead)
		}
	}
}

// fill lets all frames have these pages, all of them dirty, but the bytes as they were.
func (b *bench) fill(t *testing.T, pages ...int) {
	t.Helper()
	slices.Sort(pages)
	var was []api.Page
	for _, page := range pages {
		p, e := b.s.Read(page)
		ok(t, e)
		was = append(was, p)
	}
	b.crowd(t, pages...)
	for i, page := range pages {
		ok(t, b.s.Update(b.t, page, 0, was[i][:]))
	}
}

// P14.1 to P14.3: the power goes as room for a page is made: the inode's, one of the tree, a bitmap, a block
func TestDies(t *testing.T) {
	const bitmaps, inodes = 19, 20
	others := []int{70, 71, 72, 73, 74, 75, 76, 77}
	for k, c := range []struct {
		in []int // the pages in memory
		l  []call
	}{
		{nil, []call{read(1, 0, 1), read(1, 0, 0), write(1, 0, ""), write(1, 0, "a"), cut(1, 0), cut(1, 20000), whole(1), holes(1)}},
		{[]int{inodes}, []call{read(1, 0, 1), write(1, 0, "a"), write(1, 600, "a"), cut(1, 0), cut(1, 3000), whole(1), holes(1)}},
		{[]int{inodes, 60}, []call{read(1, 0, 1), write(1, 600, "a"), cut(1, 0), whole(1), holes(1)}},
		{[]int{inodes, 60, 40}, []call{read(1, 0, 1), read(1, 248, 1), read(1, 2479, 2), write(1, 0, "a"), write(1, 600, "a"), write(1, 2470, text(20, 0)), cut(1, 0), whole(1), holes(1)}},
		{[]int{inodes, 60, 41}, []call{read(1, 2480, 1), write(1, 2480, "a"), cut(1, 2481), cut(1, 2480)}},
		{[]int{inodes, 60, 40, 30}, []call{read(1, 200, 100), write(1, 200, text(100, 0)), whole(1)}},
		{[]int{inodes, 60, 40, bitmaps}, []call{write(1, 600, "a")}},
	} {
		for i, do := range c.l {
			b, _ := branched(t)
			b.fill(t, append(slices.Clone(c.in), others[len(c.in):]...)...)
			b.d.Fuse(0)
			refused(t, b.s, b.t, do, api.ErrDead)
			if !b.d.Dead() {
				t.Error("nothing was to be written", k, i)
			}
		}
	}
}

// P14.2: no block is free: of the bytes' own, or of the tree's; what was done stays, till it is changed back
func TestNoBlocks(t *testing.T) {
	for _, c := range []struct {
		left, root int // how many are free; whether there is a tree
		l          string
		done       int // how many blocks are written
	}{
		{0, 0, "a", 0}, {1, 0, "a", 0}, {2, 0, "a", 1}, {2, 0, text(300, 0), 1}, {3, 0, text(300, 0), 2}, {0, 1, "a", 0}, {1, 1, "a", 1}, {1, 1, text(300, 0), 1}, {2, 1, text(300, 0), 2},
	} {
		b := made(t, 64, api.InodeFile)
		if c.root > 0 {
			b.tells(t, write(1, 5000, "z"), nothing{})
			b.commit(t)
		}
		b.tells(t, cut(1, 6000), nothing{})
		b.commit(t)
		for b.free(t) > c.left {
			_, e := bitmap.TakeBlock(b.s, b.t, 0)
			ok(t, e)
			b.commit(t)
		}
		was := b.land(t)
		want := api.ErrFull
		if 248*c.done >= len(c.l) {
			want = api.OK
		}
		if e := file.Write(b.s, b.t, 1, 0, []byte(c.l)); e != want {
			t.Error(c, e)
		}
		got, e := file.Read(b.s, 1, 0, len(c.l))
		if done := min(248*c.done, len(c.l)); e != api.OK || string(got) != c.l[:done]+string(make([]byte, len(c.l)-done)) {
			t.Errorf("%v: %q: %v", c, got, e)
		}
		ok(t, b.s.Rollback(b.t))
		b.begin(t)
		b.stands(t, was)
		b.tells(t, write(1, 0, ""), nothing{})
		b.tells(t, cut(1, 0), nothing{})
	}
}

// P14.2: the block, and then the tree's, from the inode's group on, round to the first one
func TestGroups(t *testing.T) {
	for _, c := range []struct {
		i            int
		used         []int // the groups that are
		sector, root int
	}{
		{1, nil, 24, 25}, {16, nil, 24, 25}, {17, nil, 88, 89}, {32, nil, 88, 89},
		{1, []int{0}, 88, 89}, {17, []int{1}, 24, 25},
	} {
		b := made(t, 91)
		b.sets(t, c.i, api.Inode{Kind: api.InodeFile})
		for _, g := range c.used {
			b.puts(t, 19+64*g, bytes.Repeat([]byte{255}, 8))
		}
		b.tells(t, write(c.i, 10, "a"), nothing{})
		n := b.inode(t, c.i)
		sector, e := extent.Find(b.s, n.Root, 0)
		if sector != c.sector || n.Root != c.root || e != api.OK {
			t.Error(c, sector, n, e)
		}
	}
	b := made(t, 91)
	b.sets(t, 17, api.Inode{Kind: api.InodeFile})
	b.puts(t, 83, []byte{0x7f}) // one block is left there
	b.tells(t, write(17, 10, "a"), nothing{})
	if n := b.inode(t, 17); n.Root != 24 {
		t.Error(n)
	}
}

// P14.2, P14.3: the log's room does not do, wherever that is; held, no room is made
func TestLogFull(t *testing.T) {
	for _, held := range []bool{false, true} {
		b := noughts(t, 600, held)
		su := b.s.Super()
		for g := range su.Groups {
			first, _, _ := super.Group(su, g)
			p, _ := bitmap.Start(su, g)
			ok(t, b.s.Update(b.t, first, 0, p[:]))
		}
		i, e := itable.Make(b.s, b.t, 0, api.InodeFile)
		ok(t, e)
		f := newPlain()
		for _, off := range []int{500, 1000, 3000} {
			b.tells(t, write(i, int64(off), text(100, off)), nothing{})
			f.write(off, text(100, off))
		}
		b.commit(t)
		was := b.land(t)
		for _, do := range []call{write(i, 0, text(700, 3)), write(i, 560, text(20, 3)), cut(i, 0), cut(i, 500), cut(i, 550), cut(i, 560), cut(i, 20000)} {
			b.tells(t, do, nothing{})
			then := b.land(t)
			ok(t, b.s.Rollback(b.t))
			b.begin(t)
			for short := 0; ; short += 13 {
				kept := b.l.Free() - short
				ok(t, b.l.Reserve(kept))
				_, e := do(b.s, b.t)
				b.l.Release(kept)
				if e == api.OK {
					b.stands(t, then)
				}
				ok(t, b.s.Rollback(b.t))
				b.begin(t)
				b.stands(t, was)
				if !held {
					ok(t, b.s.Room())
				}
				if e == api.OK || held && b.l.Free() < 3000 {
					break
				}
				if e != api.ErrFull {
					t.Fatal(short, e)
				}
			}
		}
		b.is(t, i, f)
	}
}

// P14.2, P14.3, and that all is done in the transaction: changed back, all is as it was; committed, it lasts
func TestTransaction(t *testing.T) {
	d, _ := disk.New(600)
	su, _ := super.Make(600)
	ok(t, restart.Make(d, su))
	open := func() *bench {
		t.Helper()
		s, _, e := restart.Find(d, 8)
		ok(t, e, restart.Settle(s))
		b := &bench{d: d, l: s.Log(), p: s.Pool(), s: s}
		b.begin(t)
		return b
	}
	b, f := open(), newPlain()
	for g := range su.Groups {
		first, _, e := super.Group(su, g)
		p, u := bitmap.Start(su, g)
		ok(t, e, u, b.s.Update(b.t, first, 0, p[:]))
		b.commit(t)
	}
	b.sets(t, 20, api.Inode{Kind: api.InodeFile})
	b.tells(t, write(20, 400, text(900, 1)), nothing{})
	f.write(400, text(900, 1))
	b.commit(t)
	several := func(f *plain) {
		t.Helper()
		b.tells(t, write(20, 1200, text(1984, 2)), nothing{})
		f.write(1200, text(1984, 2))
		b.tells(t, cut(20, 500), nothing{})
		f.cut(500)
		b.tells(t, write(20, 30, text(800, 3)), nothing{})
		f.write(30, text(800, 3))
		b.tells(t, cut(20, 3000), nothing{})
		f.cut(3000)
	}
	was := b.land(t)
	several(f.copied())
	ok(t, b.s.Rollback(b.t))
	b.stands(t, was)
	b.is(t, 20, f)
	b.begin(t)
	several(f.copied())
	ok(t, b.s.Sync())
	d = d.Crash(nil)
	b = open()
	b.is(t, 20, f)
	b.stands(t, was)
	several(f)
	ok(t, b.s.Commit(b.t), b.s.Sync())
	d = d.Crash(nil)
	b = open()
	b.is(t, 20, f)
}

// P14.1, P14.2: what is handed in, and what is answered, is apart from the file
func TestApart(t *testing.T) {
	b, f := gapped(t, 64)
	l := []byte(text(600, 9))
	handed := slices.Clone(l)
	ok(t, file.Write(b.s, b.t, 1, 100, handed))
	if !slices.Equal(l, handed) {
		t.Error("what was handed in is other bytes")
	}
	clear(handed)
	f.write(100, string(l))
	b.is(t, 1, f)
	got, e := file.Read(b.s, 1, 0, 1000)
	all, e2 := file.Whole(b.s, 1)
	none, e3 := file.Holes(b.s, 1)
	ok(t, e, e2, e3)
	clear(got)
	clear(all)
	clear(none)
	b.is(t, 1, f)
}

// fullPage is a page of a tree with all entries that it can have: from a block on, so many apart, all in one sector.
func fullPage(level, from, apart, sector int) []entry {
	var l []entry
	for k := range 30 {
		l = append(l, entry{from + k*apart, 1 - level, sector})
	}
	return l
}

// P14.4, P14.5: no more than Needs says, also where each page on the way is full
func TestNeedsHolds(t *testing.T) {
	root := fullPage(1, 0, 120, 300)
	root[0].sector, root[1].sector = 201, 202
	first, second := fullPage(1, 0, 1, 300), fullPage(1, 120, 100, 300)
	first[0].sector, first[29].sector, second[0].sector = 300, 201, 202
	for k, c := range []struct {
		pages map[int][]byte
		holes int // of the blocks from 117 to 125
		more  int
	}{
		{map[int][]byte{201: treePage(0, fullPage(0, 0, 4, 250)...), 202: treePage(0, fullPage(0, 120, 4, 250)...), 200: treePage(1, root...)}, 7, 4},
		{map[int][]byte{201: treePage(0, fullPage(0, 30, 3, 250)...), 202: treePage(0, fullPage(0, 121, 3, 250)...), 203: treePage(1, first...), 204: treePage(1, second...), 200: treePage(2, entry{0, 0, 203}, entry{120, 0, 204})}, 6, 4},
	} {
		b := made(t, 1400, api.InodeFile)
		for at, l := range c.pages {
			b.puts(t, at, l)
		}
		b.sets(t, 1, api.Inode{Kind: api.InodeFile, Size: 248 * 200, Root: 200})
		b.takes(t, 0, 301)
		free := b.free(t)
		b.tells(t, write(1, 248*117+1, text(1984, 0)), nothing{})
		if took := free - b.free(t); took != c.holes+c.more || took > file.Needs(248*117+1, 1984) {
			t.Error(k, took)
		}
	}
}
