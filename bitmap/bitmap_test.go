package bitmap_test

import (
	"encoding/binary"
	"math"
	"reflect"
	"slices"
	"testing"

	"hornbook/api"
	"hornbook/bitmap"
	"hornbook/disk"
	"hornbook/pool"
	"hornbook/restart"
	"hornbook/super"
	"hornbook/txn"
	"hornbook/wal"
)

// table is what is used, by another way than the program's: of each group where it begins, how many sectors it has, and a number for its sectors, and one for its inodes.
type table struct {
	first, size []int
	sectors     []uint64
	inodes      []uint16
}

// start is what is used at first on a disk of so many sectors.
func start(sectors int) *table {
	m := &table{}
	for at := 3 + min(max(sectors/8, 16), 256); sectors-at >= 8; at += 64 {
		size := min(64, sectors-at)
		m.first = append(m.first, at)
		m.size = append(m.size, size)
		m.sectors = append(m.sectors, 31|^(1<<size-1)) // of 64 the shift leaves nought
		m.inodes = append(m.inodes, 0)
	}
	return m
}

// page is a group's bitmap page.
func (m *table) page(g int) api.Page {
	var p api.Page
	binary.LittleEndian.PutUint64(p[:], m.sectors[g])
	binary.LittleEndian.PutUint16(p[8:], m.inodes[g])
	return p
}

// bench is a disk, a store on it, and a transaction on its way.
type bench struct {
	d  *disk.Disk
	su api.Super
	l  *wal.Log
	p  *pool.Pool
	s  *txn.Store
	t  uint64
}

// ok says that nothing was refused.
func ok(t *testing.T, l ...api.Errno) {
	t.Helper()
	for i, e := range l {
		if e != api.OK {
			t.Fatal(i, "told", e)
		}
	}
}

// noughts is a store on a disk of noughts.
func noughts(t *testing.T, sectors int, held bool) *bench {
	t.Helper()
	b := &bench{}
	var e [5]api.Errno
	b.d, e[0] = disk.New(sectors)
	b.su, e[1] = super.Make(sectors)
	b.l, _, e[2] = wal.Open(b.d, b.su, 0, 1)
	b.p, e[3] = pool.New(b.d, b.l, 8, held)
	b.s, e[4] = txn.New(b.d, b.su, api.Master{Epoch: 1, Seq: 1}, b.l, b.p)
	ok(t, e[:]...)
	b.begin(t)
	return b
}

// made is a store whose bitmaps are as at first.
func made(t *testing.T, sectors int) *bench {
	t.Helper()
	b := noughts(t, sectors, false)
	b.lay(t, start(sectors))
	return b
}

func (b *bench) begin(t *testing.T) {
	t.Helper()
	var e api.Errno
	b.t, e = b.s.Begin()
	ok(t, e)
}

// commit lets the log's room go: the next transaction is on its way.
func (b *bench) commit(t *testing.T) {
	t.Helper()
	ok(t, b.s.Commit(b.t))
	b.begin(t)
}

// put lets a page begin so.
func (b *bench) put(t *testing.T, page int, text []byte) {
	t.Helper()
	ok(t, b.s.Update(b.t, page, 0, text))
	b.commit(t)
}

// lay lays bitmaps; no page is dirty then.
func (b *bench) lay(t *testing.T, m *table) {
	t.Helper()
	for g, first := range m.first {
		p := m.page(g)
		b.put(t, first, p[:])
	}
	ok(t, b.s.Room())
}

// is says that all pages of groups are as the table says, and all others of them noughts.
func (b *bench) is(t *testing.T, m *table) {
	t.Helper()
	for g, first := range m.first {
		for at := range m.size[g] {
			var want api.Page
			if at == 0 {
				want = m.page(g)
			}
			if p, e := b.s.Read(first + at); p != want || e != api.OK {
				t.Fatalf("group %d, place %d: %x, not %x: %v", g, at, p[:12], want[:12], e)
			}
		}
	}
}

// looks are what can be told of a store without its being changed.
type looks struct {
	ways             []uint64
	master           api.Master
	end, lasts, tail uint64
	free             int
	dirty            []int
}

func (b *bench) look() looks {
	return looks{slices.Concat([]uint64{}, b.s.Ways()), b.s.Master(), b.l.End(), b.l.Lasts(), b.l.Tail(), b.l.Free(), slices.Concat([]int{}, b.p.Dirty())}
}

// call is a call, of a store and a transaction; beside an error what it tells otherwise is to be nought.
type call func(s *txn.Store, t uint64) (any, api.Errno)

func takeBlock(g int) call {
	return func(s *txn.Store, t uint64) (any, api.Errno) { n, e := bitmap.TakeBlock(s, t, g); return n, e }
}

func takeInode(g int) call {
	return func(s *txn.Store, t uint64) (any, api.Errno) { n, e := bitmap.TakeInode(s, t, g); return n, e }
}

func freeBlock(i int) call {
	return func(s *txn.Store, t uint64) (any, api.Errno) { return 0, bitmap.FreeBlock(s, t, i) }
}

func freeInode(i int) call {
	return func(s *txn.Store, t uint64) (any, api.Errno) { return 0, bitmap.FreeInode(s, t, i) }
}

func used(i int) call {
	return func(s *txn.Store, _ uint64) (any, api.Errno) { is, e := bitmap.Used(s, i); return is, e }
}

func has(i int) call {
	return func(s *txn.Store, _ uint64) (any, api.Errno) { is, e := bitmap.Has(s, i); return is, e }
}

func freeOf(g int) call {
	return func(s *txn.Store, _ uint64) (any, api.Errno) {
		b, i, e := bitmap.Free(s, g)
		return [2]int{b, i}, e
	}
}

func total() call {
	return func(s *txn.Store, _ uint64) (any, api.Errno) {
		b, i, e := bitmap.Total(s)
		return [2]int{b, i}, e
	}
}

// tells says what a call answers.
func (b *bench) tells(t *testing.T, do call, want any) {
	t.Helper()
	if got, e := do(b.s, b.t); got != want || e != api.OK {
		t.Errorf("told %v, %v, not %v", got, e, want)
	}
}

// refused says that a call is, by that error, and tells nothing else.
func refused(t *testing.T, s *txn.Store, n uint64, do call, want api.Errno) {
	t.Helper()
	if got, e := do(s, n); e != want || !reflect.ValueOf(got).IsZero() {
		t.Errorf("told %v, %v, not %v", got, e, want)
	}
}

// refuses says so, and that nothing changes by it.
func (b *bench) refuses(t *testing.T, n uint64, do call, want api.Errno) {
	t.Helper()
	was, sectors := b.look(), b.d.Copy()
	refused(t, b.s, n, do, want)
	if now := b.look(); !reflect.DeepEqual(was, now) || !b.d.Same(sectors) {
		t.Error("changed", was, now)
	}
}

// gone takes the power away.
func (b *bench) gone(t *testing.T) {
	t.Helper()
	b.d.Fuse(0)
	if e := b.d.Write(0, api.Sector{}); e != api.ErrDead {
		t.Fatal(e)
	}
}

func TestExamples(t *testing.T) {
	b := made(t, 64)
	b.tells(t, takeBlock(0), 24)
	b.tells(t, takeBlock(0), 25)
	b.tells(t, freeBlock(24), 0)
	b.refuses(t, b.t, freeBlock(24), api.ErrState)
	b.refuses(t, b.t, takeBlock(1), api.ErrArg)
	b = made(t, 64)
	b.tells(t, takeBlock(0), 24)
	b.tells(t, takeInode(0), 1)
	b.tells(t, freeOf(0), [2]int{39, 15})
	b.refuses(t, b.t, freeBlock(19), api.ErrArg)
}

// P11.1: of each layout, each group
func TestStart(t *testing.T) {
	short, whole := 0, 0
	for n := api.MinSectors; n <= api.MaxSectors; n++ {
		su, e := super.Make(n)
		ok(t, e)
		m := start(n)
		if len(m.first) != su.Groups {
			t.Fatal(n, su.Groups)
		}
		for g := range m.first {
			if p, e := bitmap.Start(su, g); p != m.page(g) || e != api.OK {
				t.Fatalf("%d sectors, group %d: %x, not %x: %v", n, g, p[:12], m.sectors[g], e)
			}
		}
		last := m.size[len(m.size)-1]
		if last == 8 {
			short++
		}
		if last == 64 {
			whole++
		}
	}
	if short == 0 || whole == 0 {
		t.Error("edges were not asked", short, whole)
	}
}

// P11.1: bytes that are told are the caller's words
func TestStartBytes(t *testing.T) {
	su, _ := super.Make(91) // a group of 64 sectors, and one of 8
	for g, want := range []api.Page{{31}, {31, 255, 255, 255, 255, 255, 255, 255}} {
		if p, e := bitmap.Start(su, g); p != want || e != api.OK {
			t.Error(g, p, e)
		}
	}
	su, _ = super.Make(64) // 45 sectors
	if p, e := bitmap.Start(su, 0); p != (api.Page{31, 0, 0, 0, 0, 0xe0, 255, 255}) || e != api.OK {
		t.Error(p, e)
	}
}

// P11.1: ErrArg
func TestStartRefused(t *testing.T) {
	su, _ := super.Make(200)
	for _, x := range []struct {
		su api.Super
		g  int
	}{
		{su, -1}, {su, 3}, {su, 4}, {su, math.MaxInt}, {su, math.MinInt},
		{api.Super{}, 0}, {api.Super{Sectors: 200, Log: 25, Groups: 2}, 0}, {api.Super{Sectors: 200, Log: 24, Groups: 3}, 0},
		{api.Super{Sectors: 63, Log: 16, Groups: 1}, 0}, {api.Super{Sectors: 4097, Log: 256, Groups: 60}, 0},
	} {
		if p, e := bitmap.Start(x.su, x.g); p != (api.Page{}) || e != api.ErrArg {
			t.Error(x, e)
		}
	}
}

// sound is a call of each kind, on any layout whose group g there is, with something used in it that is the group's last block and inode.
func sound(m *table, g int) []call {
	block, inode := m.first[g]+m.size[g]-1, 16*g+16
	return []call{
		takeBlock(g), takeInode(g), freeBlock(block), freeInode(inode),
		used(block), has(inode), freeOf(g), total(),
	}
}

// P11.2 to P11.4: a nil store, and a zero one, ahead of all
func TestNil(t *testing.T) {
	odd := []call{takeBlock(-1), takeInode(99), freeBlock(-1), freeInode(0), used(0), has(-1), freeOf(-1)}
	for _, s := range []*txn.Store{nil, {}} {
		for _, do := range append(sound(start(64), 0), odd...) {
			refused(t, s, 0, do, api.ErrNil)
			refused(t, s, 1, do, api.ErrNil)
		}
	}
}

// P11.2 to P11.4: ErrArg, ahead of layer 8's
func TestArgs(t *testing.T) {
	for _, n := range []int{64, 90, 91, 200, 4096} {
		b := made(t, n)
		m := start(n)
		many := len(m.first)
		end := m.first[many-1] + m.size[many-1] // 90: sectors left over stand behind it
		calls := []call{}
		for _, g := range []int{-1, many, many + 1, math.MaxInt, math.MinInt} {
			calls = append(calls, takeBlock(g), takeInode(g), freeOf(g))
		}
		for _, i := range []int{-1, 0, 16*many + 1, math.MaxInt, math.MinInt} {
			calls = append(calls, freeInode(i), has(i))
		}
		bad := []int{-1, 0, 1, 2, 3, m.first[0] - 1, end, n, n + 1, math.MaxInt, math.MinInt}
		for _, first := range m.first {
			bad = append(bad, first, first+1, first+2, first+3, first+4)
		}
		for _, i := range bad {
			calls = append(calls, freeBlock(i), used(i))
		}
		for _, do := range calls {
			b.refuses(t, b.t, do, api.ErrArg)
			b.refuses(t, 99, do, api.ErrArg)
		}
		b.gone(t)
		for _, do := range calls {
			b.refuses(t, b.t, do, api.ErrArg)
			b.refuses(t, 99, do, api.ErrArg)
		}
	}
}

// P11.2, P11.3: a transaction that there is not, ahead of what the bitmap says, and of the power
func TestNone(t *testing.T) {
	b := made(t, 91)
	b.tells(t, takeBlock(1), 88)
	b.tells(t, takeInode(1), 17)
	b.commit(t)
	free := []call{takeBlock(0), takeBlock(1), takeInode(0), takeInode(1), freeBlock(88), freeBlock(24), freeInode(17), freeInode(1)}
	all := func() {
		t.Helper()
		for _, do := range free {
			for _, n := range []uint64{0, b.t - 1, b.t + 1, math.MaxUint64} {
				b.refuses(t, n, do, api.ErrNone)
			}
		}
	}
	all()
	b.gone(t)
	all()
	b = noughts(t, 91, false)
	m := start(91)
	for g := range m.first {
		m.sectors[g], m.inodes[g] = math.MaxUint64, math.MaxUint16
	}
	b.lay(t, m)
	all() // nothing is free
	for _, do := range []call{takeBlock(0), takeBlock(1), takeInode(0), takeInode(1)} {
		b.refuses(t, b.t, do, api.ErrFull)
	}
}

// P11.2: from a group on, each one's least free one, round behind the last one, till nothing is free
func TestTake(t *testing.T) {
	for _, n := range []int{64, 83, 91, 200, 300} {
		many := len(start(n).first)
		for from := range many {
			b, m := made(t, n), start(n)
			for k := range many {
				g := (from + k) % many
				for at := 5; at < m.size[g]; at++ {
					b.tells(t, takeBlock(from), m.first[g]+at)
					b.commit(t)
					m.sectors[g] |= 1 << at
				}
				for i := range 16 {
					b.tells(t, takeInode(from), 16*g+i+1)
					b.commit(t)
					m.inodes[g] |= 1 << i
				}
				b.is(t, m)
			}
			for g := range many {
				b.refuses(t, b.t, takeBlock(g), api.ErrFull)
				b.refuses(t, b.t, takeInode(g), api.ErrFull)
				b.tells(t, freeOf(g), [2]int{0, 0})
			}
			b.tells(t, total(), [2]int{0, 0})
			b.is(t, m)
		}
	}
}

// P11.2: the least one, also if it was let go again
func TestLeast(t *testing.T) {
	b := made(t, 200)
	for _, want := range []int{33, 34, 35, 36} {
		b.tells(t, takeBlock(0), want)
	}
	for _, want := range []int{17, 18, 19} {
		b.tells(t, takeInode(1), want)
	}
	b.tells(t, freeBlock(36), 0)
	b.tells(t, freeBlock(34), 0)
	b.tells(t, freeInode(18), 0)
	b.tells(t, takeBlock(2), 161) // what is free in a group behind is not asked
	b.tells(t, takeInode(2), 33)
	b.tells(t, takeBlock(0), 34)
	b.tells(t, takeBlock(0), 36)
	b.tells(t, takeBlock(0), 37)
	b.tells(t, takeInode(1), 18)
	b.tells(t, takeInode(1), 20)
	b.tells(t, takeInode(0), 1)
}

// P11.3: free is ErrState; each one is let go just once, and taken again
func TestFree(t *testing.T) {
	b, m := noughts(t, 91, false), start(91)
	for g := range m.first {
		m.sectors[g], m.inodes[g] = math.MaxUint64, math.MaxUint16
	}
	b.lay(t, m)
	for g, first := range m.first {
		for at := 5; at < m.size[g]; at++ {
			b.tells(t, freeBlock(first+at), 0)
			b.refuses(t, b.t, freeBlock(first+at), api.ErrState)
			m.sectors[g] &^= 1 << at
			b.is(t, m)
			b.tells(t, takeBlock(g), first+at)
			b.commit(t)
			m.sectors[g] |= 1 << at
			b.is(t, m)
		}
		for i := range 16 {
			b.tells(t, freeInode(16*g+i+1), 0)
			b.refuses(t, b.t, freeInode(16*g+i+1), api.ErrState)
			m.inodes[g] &^= 1 << i
			b.is(t, m)
			b.tells(t, takeInode(g), 16*g+i+1)
			b.commit(t)
			m.inodes[g] |= 1 << i
			b.is(t, m)
		}
	}
}

// P11.2 to P11.4: what the bitmap says of others is not asked, and stays
func TestOthers(t *testing.T) {
	b := noughts(t, 64, false) // a group's first five sectors, and those that it has not, are free
	b.tells(t, freeOf(0), [2]int{40, 16})
	b.tells(t, total(), [2]int{40, 16})
	b.tells(t, takeBlock(0), 24)
	b.put(t, 19, []byte{0xe0, 255, 255, 255, 255, 0x1f, 0, 0, 255, 255})
	b.refuses(t, b.t, takeBlock(0), api.ErrFull)
	b.refuses(t, b.t, takeInode(0), api.ErrFull)
	b.tells(t, freeOf(0), [2]int{0, 0})

	var p api.Page // what should be noughts is not
	for i := 10; i < len(p); i++ {
		p[i] = byte(i) | 1
	}
	b.put(t, 19, p[:])
	b.tells(t, total(), [2]int{40, 16})
	for i := range 16 {
		b.tells(t, takeInode(0), i+1)
	}
	b.refuses(t, b.t, takeInode(0), api.ErrFull)
	b.tells(t, takeBlock(0), 24)
	b.tells(t, freeInode(16), 0)
	p[0], p[8], p[9] = 0x20, 255, 127
	if now, e := b.s.Read(19); now != p || e != api.OK {
		t.Error(now, e)
	}
}

// P11.4: just what was taken is used, and the rest is free; looking changes nothing
func TestLooks(t *testing.T) {
	for _, n := range []int{64, 91, 200, 600} {
		b, m := noughts(t, n, false), start(n)
		for g := range m.first {
			for at := 5; at < m.size[g]; at++ {
				m.sectors[g] |= uint64((at*at+g)%3&1) << at
			}
			m.inodes[g] = uint16(0x9a35 * (g + 1))
		}
		b.lay(t, m)
		was := b.look()
		blocks, inodes := 0, 0
		for g, first := range m.first {
			ofBlocks, ofInodes := 0, 0
			for at := 5; at < m.size[g]; at++ {
				is := m.sectors[g]>>at&1 == 1
				b.tells(t, used(first+at), is)
				if !is {
					ofBlocks++
				}
			}
			for i := range 16 {
				is := m.inodes[g]>>i&1 == 1
				b.tells(t, has(16*g+i+1), is)
				if !is {
					ofInodes++
				}
			}
			b.tells(t, freeOf(g), [2]int{ofBlocks, ofInodes})
			blocks, inodes = blocks+ofBlocks, inodes+ofInodes
		}
		b.tells(t, total(), [2]int{blocks, inodes})
		if now := b.look(); !reflect.DeepEqual(was, now) {
			t.Error(n, "changed", was, now)
		}
		b.is(t, m)
	}
}

// P11.4: at first
func TestTotal(t *testing.T) {
	for _, n := range []int{64, 83, 90, 91, 200, 4096} {
		b, m := made(t, n), start(n)
		blocks := 0
		for g, size := range m.size {
			b.tells(t, freeOf(g), [2]int{size - 5, 16})
			blocks += size - 5
		}
		b.tells(t, total(), [2]int{blocks, 16 * len(m.first)})
	}
}

// P11.2 to P11.4: without power
func TestDead(t *testing.T) {
	for _, inMemory := range []bool{false, true} {
		b, m := made(t, 200), start(200)
		b.tells(t, takeBlock(1), 97)
		b.commit(t)
		for g := range m.first {
			if inMemory {
				b.tells(t, freeOf(g), [2]int{[]int{59, 58, 39}[g], 16})
			}
		}
		b.gone(t)
		for g := range m.first {
			for _, do := range sound(m, g) {
				b.refuses(t, b.t, do, api.ErrDead)
			}
		}
		b.refuses(t, b.t, freeBlock(97), api.ErrDead) // it is used
		b.refuses(t, b.t, freeBlock(98), api.ErrDead) // it is free
	}
}

// crowd lets all frames have these pages, all of them dirty, so that what is asked for next must write.
func (b *bench) crowd(t *testing.T, pages ...int) {
	t.Helper()
	ok(t, b.s.Room())
	for i := byte(1); len(b.p.Dirty()) < b.p.Frames() || b.p.Frames() < 8; i++ { // at first some go again
		for _, page := range pages {
			ok(t, b.s.Update(b.t, page, 200, []byte{i}))
		}
	}
	if got := b.p.Dirty(); !slices.Equal(got, pages) {
		t.Fatal(got)
	}
}

// P11.2 to P11.4: the power goes as room for a bitmap page is made, be it the first one that is asked for or another one
func TestDies(t *testing.T) {
	for g := range 3 {
		for _, do := range append(sound(start(200), g), takeBlock((g+1)%3), takeInode((g+1)%3)) {
			b, m := made(t, 200), start(200)
			for k := range m.first {
				if k != g { // so that the search comes to it
					m.sectors[k], m.inodes[k] = math.MaxUint64, math.MaxUint16
				}
			}
			b.lay(t, m)
			b.crowd(t, 35, 36, 37, 38, 39, 40, 41, 42)
			b.d.Fuse(0)
			refused(t, b.s, b.t, do, api.ErrDead)
			if !b.d.Dead() {
				t.Error(g, "nothing was to be written")
			}
		}
	}
	for i, do := range []call{takeBlock(0), takeInode(0), takeBlock(1), takeInode(1), total(), total()} { // what is in memory is asked first
		b, m := made(t, 200), start(200)
		if i < 5 { // the last one has counted something by then
			m.sectors[0], m.inodes[0] = math.MaxUint64, math.MaxUint16
			m.sectors[1], m.inodes[1] = math.MaxUint64, math.MaxUint16
		}
		b.lay(t, m)
		b.crowd(t, 28, 35, 36, 37, 38, 39, 40, 92)
		b.d.Fuse(0)
		refused(t, b.s, b.t, do, api.ErrDead)
		if !b.d.Dead() {
			t.Error("nothing was to be written")
		}
	}
}

// P11.2, P11.3: the log's room does not do, behind what the bitmap says; held, no room is made
func TestLogFull(t *testing.T) {
	for _, held := range []bool{false, true} {
		b, m := noughts(t, 91, held), start(91)
		m.inodes[0], m.sectors[0] = math.MaxUint16, math.MaxUint64
		for g, first := range m.first {
			p := m.page(g)
			ok(t, b.s.Update(b.t, first, 0, p[:]))
		}
		ok(t, b.l.Reserve(b.l.Free()-72)) // a byte less than an update and its RecBack need
		full := b.keeps
		if held {
			full = b.refuses
		}
		for _, do := range []call{takeBlock(0), takeBlock(1), takeInode(0), takeInode(1), freeBlock(24), freeInode(16)} {
			full(t, b.t, do, api.ErrFull)
		}
		b.refuses(t, b.t, freeBlock(90), api.ErrState)
		b.refuses(t, b.t, freeInode(17), api.ErrState)
		b.refuses(t, 99, freeBlock(24), api.ErrNone)
		b.is(t, m)
		b.l.Release(1)
		for _, do := range []struct {
			call call
			want int
		}{{takeBlock(0), 88}, {takeInode(0), 17}, {freeBlock(24), 0}, {freeInode(16), 0}} {
			b.tells(t, do.call, do.want)
			full(t, b.t, takeBlock(0), api.ErrFull)
			b.l.Release(73)
		}
		m.sectors[1] |= 1 << 5
		m.inodes[1] |= 1
		m.sectors[0] &^= 1 << 5
		m.inodes[0] &^= 1 << 15
		b.is(t, m)
	}
}

// keeps says that a call is refused, and notes nothing, though room is made for it.
func (b *bench) keeps(t *testing.T, n uint64, do call, want api.Errno) {
	t.Helper()
	end, free := b.l.End(), b.l.Free()
	refused(t, b.s, n, do, want)
	if b.l.End() != end || b.l.Free() != free {
		t.Error("noted", end, b.l.End(), free, b.l.Free())
	}
}

// P11.2: room is made in the log, where it does not do
func TestRoomMade(t *testing.T) {
	b, m := made(t, 91), start(91)
	ok(t, b.l.Reserve(b.l.Free()-339)) // what is left does, wherever in its sector the tail comes to be
	seq := b.s.Master().Seq
	for i := range 16 {
		b.tells(t, takeBlock(0), 24+i)
		b.commit(t)
		b.tells(t, takeInode(0), 1+i)
		b.commit(t)
		m.sectors[0] |= 32 << i
		m.inodes[0] |= 1 << i
	}
	b.is(t, m)
	if b.s.Master().Seq == seq {
		t.Error("no room was made")
	}
}

// P11.5, and that all is done in the transaction: changed back, all is as it was; committed, it lasts
func TestTransaction(t *testing.T) {
	d, _ := disk.New(91)
	su, _ := super.Make(91)
	ok(t, restart.Make(d, su))
	open := func() *bench {
		t.Helper()
		s, _, e := restart.Find(d, 8)
		ok(t, e, restart.Settle(s))
		b := &bench{d: d, su: su, l: s.Log(), p: s.Pool(), s: s}
		b.begin(t)
		return b
	}
	b, m := open(), start(91)
	b.lay(t, m)
	several := func() {
		t.Helper()
		b.tells(t, takeBlock(0), 24)
		b.tells(t, takeBlock(1), 88)
		b.tells(t, takeInode(1), 17)
		b.tells(t, takeInode(1), 18)
		b.tells(t, takeBlock(1), 89)
		b.tells(t, freeBlock(88), 0)
		b.tells(t, freeInode(17), 0)
	}
	several()
	ok(t, b.s.Rollback(b.t))
	b.is(t, m)
	b.begin(t)
	several()
	ok(t, b.s.Sync())
	d = d.Crash(nil)
	b = open()
	b.is(t, m)
	several()
	ok(t, b.s.Commit(b.t), b.s.Sync())
	d = d.Crash(nil)
	b = open()
	m.sectors[0] |= 1 << 5
	m.sectors[1] |= 1 << 6
	m.inodes[1] |= 2
	b.is(t, m)
}
