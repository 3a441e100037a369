package itable_test

import (
	"encoding/binary"
	"math"
	"reflect"
	"slices"
	"testing"

	"hornbook/api"
	"hornbook/disk"
	"hornbook/itable"
	"hornbook/pool"
	"hornbook/restart"
	"hornbook/super"
	"hornbook/txn"
	"hornbook/wal"
)

// raw are the bytes of an inode, as they lie in a page.
type raw [62]byte

// table is what lies in the groups, by another way than the program's: where each group begins, how many sectors it has, and, of each inode, whether it is used, and its bytes.
type table struct {
	sectors     int
	first, size []int
	used        []bool
	raw         []raw
}

// start is what lies there at first, on a disk of so many sectors.
func start(sectors int) *table {
	m := &table{sectors: sectors}
	for at := 3 + min(max(sectors/8, 16), 256); sectors-at >= 8; at += 64 {
		m.first = append(m.first, at)
		m.size = append(m.size, min(64, sectors-at))
		m.used = append(m.used, make([]bool, 16)...)
		m.raw = append(m.raw, make([]raw, 16)...)
	}
	return m
}

// laid are an inode's bytes; each field is cut to what it has.
func laid(n api.Inode) raw {
	var b raw
	b[0] = byte(n.Kind)
	binary.LittleEndian.PutUint16(b[1:], uint16(n.Links))
	binary.LittleEndian.PutUint64(b[3:], uint64(n.Size))
	binary.LittleEndian.PutUint32(b[11:], uint32(n.Root))
	return b
}

// read is what stands in an inode's bytes, be it one that may be or not.
func read(b raw) api.Inode {
	return api.Inode{
		Kind:  api.InodeKind(b[0]),
		Links: int(binary.LittleEndian.Uint16(b[1:])),
		Size:  int64(binary.LittleEndian.Uint64(b[3:])),
		Root:  int(binary.LittleEndian.Uint32(b[11:])),
	}
}

// block: is a sector some group's block?
func (m *table) block(sector int) bool {
	for g, first := range m.first {
		if sector >= first+5 && sector < first+m.size[g] {
			return true
		}
	}
	return false
}

// may: may an inode be?
func (m *table) may(n api.Inode) bool {
	if n.Kind == 0 {
		return n.Links == 0 && n.Size == 0 && n.Root == 0
	}
	return (n.Kind == 1 || n.Kind == 2) &&
		0 <= n.Links && n.Links <= 250 &&
		0 <= n.Size && n.Size <= 4096*248 &&
		(n.Root == 0 || m.block(n.Root))
}

// of is what Of and Get are to tell of bytes.
func (m *table) of(b raw) (api.Inode, api.Errno) {
	for _, x := range b[15:] {
		if x != 0 {
			return api.Inode{}, api.ErrBytes
		}
	}
	if n := read(b); m.may(n) {
		return n, api.OK
	}
	return api.Inode{}, api.ErrBytes
}

// page is a group's page: its bitmap, one of inodes, or a block, of noughts.
func (m *table) page(g, at int) api.Page {
	var p api.Page
	switch {
	case at == 0:
		binary.LittleEndian.PutUint64(p[:], 31|^(1<<m.size[g]-1)) // of 64 the shift leaves nought
		for k := range 16 {
			if m.used[16*g+k] {
				p[8+k/8] |= 1 << (k % 8)
			}
		}
	case at < 5:
		for k := range 4 {
			b := m.raw[16*g+4*(at-1)+k]
			copy(p[62*k:], b[:])
		}
	}
	return p
}

// bench is a disk, a store on it, and a transaction on its way.
type bench struct {
	d *disk.Disk
	l *wal.Log
	p *pool.Pool
	s *txn.Store
	t uint64
}

// ok says that nothing was refused.
func ok(t *testing.T, l ...api.Errno) {
	t.Helper()
	for i, e := range l {
		if e != api.OK {
			t.Fatal(i, "told", e)
		}
	}
}

// noughts is a store on a disk of noughts.
func noughts(t *testing.T, sectors int, held bool) *bench {
	t.Helper()
	b := &bench{}
	var e [5]api.Errno
	var su api.Super
	b.d, e[0] = disk.New(sectors)
	su, e[1] = super.Make(sectors)
	b.l, _, e[2] = wal.Open(b.d, su, 0, 1)
	b.p, e[3] = pool.New(b.d, b.l, 8, held)
	b.s, e[4] = txn.New(b.d, su, api.Master{Epoch: 1, Seq: 1}, b.l, b.p)
	ok(t, e[:]...)
	b.begin(t)
	return b
}

// made is a store that is as at first.
func made(t *testing.T, sectors int) *bench {
	t.Helper()
	b := noughts(t, sectors, false)
	b.lay(t, start(sectors))
	return b
}

func (b *bench) begin(t *testing.T) {
	t.Helper()
	var e api.Errno
	b.t, e = b.s.Begin()
	ok(t, e)
}

// commit lets the log's room go: the next transaction is on its way.
func (b *bench) commit(t *testing.T) {
	t.Helper()
	ok(t, b.s.Commit(b.t))
	b.begin(t)
}

// lay lets all pages be as the table says; none is dirty then.
func (b *bench) lay(t *testing.T, m *table) {
	t.Helper()
	for g, first := range m.first {
		for at := range 5 {
			p := m.page(g, at)
			ok(t, b.s.Update(b.t, first+at, 0, p[:]))
			b.commit(t)
		}
	}
	ok(t, b.s.Room())
}

// is says that all pages of groups are as the table says.
func (b *bench) is(t *testing.T, m *table) {
	t.Helper()
	for g, first := range m.first {
		for at := range m.size[g] {
			want := m.page(g, at)
			if p, e := b.s.Read(first + at); p != want || e != api.OK {
				t.Fatalf("group %d, place %d: %x, not %x: %v", g, at, p, want, e)
			}
		}
	}
}

// looks are what can be told of a store without its being changed.
type looks struct {
	ways             []uint64
	master           api.Master
	end, lasts, tail uint64
	free             int
	dirty            []int
}

func (b *bench) look() looks {
	return looks{slices.Concat([]uint64{}, b.s.Ways()), b.s.Master(), b.l.End(), b.l.Lasts(), b.l.Tail(), b.l.Free(), slices.Concat([]int{}, b.p.Dirty())}
}

// call is a call, of a store and a transaction; beside an error what it tells otherwise is to be nought.
type call func(s *txn.Store, t uint64) (any, api.Errno)

func get(i int) call {
	return func(s *txn.Store, _ uint64) (any, api.Errno) { n, e := itable.Get(s, i); return n, e }
}

func set(i int, n api.Inode) call {
	return func(s *txn.Store, t uint64) (any, api.Errno) { return 0, itable.Set(s, t, i, n) }
}

func makes(g int, k api.InodeKind) call {
	return func(s *txn.Store, t uint64) (any, api.Errno) { i, e := itable.Make(s, t, g, k); return i, e }
}

func drop(i int) call {
	return func(s *txn.Store, t uint64) (any, api.Errno) { return 0, itable.Drop(s, t, i) }
}

// tells says what a call answers.
func (b *bench) tells(t *testing.T, do call, want any) {
	t.Helper()
	if got, e := do(b.s, b.t); got != want || e != api.OK {
		t.Errorf("told %v, %v, not %v", got, e, want)
	}
}

// refused says that a call is, by that error, and tells nothing else.
func refused(t *testing.T, s *txn.Store, n uint64, do call, want api.Errno) {
	t.Helper()
	if got, e := do(s, n); e != want || !reflect.ValueOf(got).IsZero() {
		t.Errorf("told %v, %v, not %v", got, e, want)
	}
}

// refuses says so, and that nothing changes by it.
func (b *bench) refuses(t *testing.T, n uint64, do call, want api.Errno) {
	t.Helper()
	was, sectors := b.look(), b.d.Copy()
	refused(t, b.s, n, do, want)
	if now := b.look(); !reflect.DeepEqual(was, now) || !b.d.Same(sectors) {
		t.Error("changed", was, now)
	}
}

// keeps says so, and that nothing is noted, though room may be made, and pages may go.
func (b *bench) keeps(t *testing.T, n uint64, do call, want api.Errno) {
	t.Helper()
	end, free := b.l.End(), b.l.Free()
	refused(t, b.s, n, do, want)
	if b.l.End() != end || b.l.Free() != free {
		t.Error("noted", end, b.l.End(), free, b.l.Free())
	}
}

// gone takes the power away.
func (b *bench) gone(t *testing.T) {
	t.Helper()
	b.d.Fuse(0)
	if e := b.d.Write(0, api.Sector{}); e != api.ErrDead {
		t.Fatal(e)
	}
}

// told are the inodes that All goes over, with their numbers.
type told struct {
	i int
	n api.Inode
}

func all(s *txn.Store) []told {
	l := []told{}
	for i, n := range itable.All(s) {
		l = append(l, told{i, n})
	}
	return l
}

// goes says which ones All goes over.
func (b *bench) goes(t *testing.T, want ...told) {
	t.Helper()
	if got := all(b.s); !slices.Equal(got, want) {
		t.Errorf("told %v, not %v", got, want)
	}
}

// layouts that may not be.
var wrong = []api.Super{
	{}, {Sectors: 63, Log: 16, Groups: 1}, {Sectors: 4097, Log: 256, Groups: 60}, {Sectors: 200, Log: 24, Groups: 3},
	{Sectors: 200, Log: 25, Groups: 2}, {Sectors: -1}, {Sectors: math.MaxInt, Log: 256, Groups: 60}, {Sectors: math.MinInt},
}

// edges are inodes about each bound of each field, on a layout.
func (m *table) edges() []api.Inode {
	kinds := []api.InodeKind{math.MinInt, -1, 0, 1, 2, 3, 256, 257, math.MaxInt}
	links := []int{math.MinInt, -1, 0, 1, 249, 250, 251, 1 << 16, 1<<16 + 1, math.MaxInt}
	sizes := []int64{math.MinInt64, -1, 0, 1, 247, 248, 300, 1015807, 1015808, 1015809, 1 << 32, math.MaxInt64}
	last := len(m.first) - 1
	end := m.first[last] + m.size[last]
	roots := []int{math.MinInt, -1, 0, 1, m.first[0] + 4, m.first[0] + 5, end - 1, end, m.sectors, 1 << 32, 1<<32 + m.first[0] + 5, math.MaxInt}
	var l []api.Inode
	for _, k := range kinds {
		for _, n := range links {
			for _, size := range sizes {
				for _, root := range roots {
					l = append(l, api.Inode{Kind: k, Links: n, Size: size, Root: root})
				}
			}
		}
	}
	return l
}

func TestExamples(t *testing.T) {
	b := itable.Bytes(api.Inode{Kind: api.InodeFile, Links: 1, Size: 300, Root: 24})
	if want := (raw{0: 1, 1: 1, 2: 0, 3: 44, 4: 1, 11: 24}); b != want {
		t.Error(b)
	}
	store := made(t, 64)
	store.tells(t, makes(0, api.InodeDir), 1)
	store.tells(t, get(1), api.Inode{Kind: api.InodeDir})
	store.refuses(t, store.t, set(1, api.Inode{Kind: api.InodeFile, Root: 19}), api.ErrArg)
	store.refuses(t, store.t, get(0), api.ErrArg)
}

// P12.1: each bound of each field
func TestMay(t *testing.T) {
	for _, n := range []int{64, 90, 91, 200, 4096} {
		su, _ := super.Make(n)
		m := start(n)
		may := 0
		for _, x := range m.edges() {
			want := m.may(x)
			if want {
				may++
			}
			if is := itable.May(su, x); is != want {
				t.Fatal(n, x, is)
			}
		}
		if may != 1+2*4*7*3 {
			t.Error("edges were not asked", n, may)
		}
	}
}

// P12.1: on each layout each sector is a root, or none
func TestRoots(t *testing.T) {
	for n := api.MinSectors; n <= api.MaxSectors; n += 1 + n/97 {
		su, _ := super.Make(n)
		m := start(n)
		blocks := map[int]bool{0: true}
		for g, first := range m.first {
			for at := 5; at < m.size[g]; at++ {
				blocks[first+at] = true
			}
		}
		for root := -2; root < n+66; root++ {
			for _, k := range []api.InodeKind{api.InodeFile, api.InodeDir} {
				x := api.Inode{Kind: k, Links: 1, Size: 9, Root: root}
				if is := itable.May(su, x); is != blocks[root] {
					t.Fatal(n, root, is)
				}
				got, e := itable.Of(su, laid(x))
				if root >= 0 && blocks[root] && (got != x || e != api.OK) || !blocks[root] && (got != api.Inode{} || e != api.ErrBytes) {
					t.Fatal(n, root, got, e)
				}
			}
		}
	}
}

// P12.1: on a layout that may not be none may be, and bytes are none's, whatever they are
func TestLayouts(t *testing.T) {
	for _, su := range wrong {
		for _, n := range []api.Inode{{}, {Kind: api.InodeFile}, {Kind: api.InodeDir, Links: 1, Size: 248, Root: 45}, {Kind: 3}} {
			if itable.May(su, n) {
				t.Error(su, n)
			}
			if x, e := itable.Of(su, laid(n)); x != (api.Inode{}) || e != api.ErrArg {
				t.Error(su, n, x, e)
			}
		}
	}
}

// P12.1, P12.4: the bytes of one that may be, and what they are
func TestBytes(t *testing.T) {
	for _, n := range []int{64, 91, 4096} {
		su, _ := super.Make(n)
		m := start(n)
		for _, x := range m.edges() {
			b := itable.Bytes(x) // of one that may not be: whatever they are
			if !m.may(x) {
				continue
			}
			if b != laid(x) {
				t.Fatal(x, b)
			}
			if got, e := itable.Of(su, b); got != x || e != api.OK {
				t.Fatal(x, got, e)
			}
		}
	}
	many := itable.Bytes(api.Inode{Kind: api.InodeDir, Links: 250, Size: 1015808, Root: 4095})
	if want := (raw{2, 250, 0, 0, 0x80, 15, 0, 0, 0, 0, 0, 255, 15, 0, 0}); many != want {
		t.Error(many)
	}
	if b := itable.Bytes(api.Inode{}); b != (raw{}) {
		t.Error(b)
	}
}

// P12.1: bytes that are none's: fields about each bound, and each bit turned
func TestOf(t *testing.T) {
	for _, n := range []int{64, 91, 200, 4096} {
		su, _ := super.Make(n)
		m := start(n)
		is, none := 0, 0
		holds := func(b raw) {
			t.Helper()
			want, why := m.of(b)
			if got, e := itable.Of(su, b); got != want || e != why {
				t.Fatalf("%d: %x: told %v, %v, not %v, %v", n, b, got, e, want, why)
			}
			if why == api.OK {
				is++
			} else {
				none++
			}
		}
		for _, x := range m.edges() {
			holds(laid(x))
		}
		root := m.first[0] + 5
		for _, x := range []api.Inode{{}, {Kind: 1}, {Kind: 2}, {Kind: 1, Links: 3, Size: 1000, Root: root}, {Kind: 2, Links: 250, Size: 1015808, Root: root + 33}} {
			for bit := range 8 * 62 {
				b := laid(x)
				b[bit/8] ^= 1 << (bit % 8)
				holds(b)
			}
		}
		for k := range 256 {
			holds(raw{0: byte(k)})
			holds(raw{0: byte(k), 1: 1})
			holds(raw{0: 1, 61: byte(k)})
			holds(raw{0: 1, 15: byte(k)})
		}
		if is < 100 || none < 1000 {
			t.Error("edges were not asked", is, none)
		}
	}
}

// sound is a call of each kind, that nothing is wrong with on any layout.
func sound() []call {
	return []call{set(1, api.Inode{Kind: api.InodeFile, Links: 7}), set(1, api.Inode{}), makes(0, api.InodeFile), makes(0, api.InodeDir), drop(1), get(1)}
}

// P12.2, P12.3: a nil store, and a zero one, ahead of all
func TestNil(t *testing.T) {
	odd := []call{get(0), get(-1), set(0, api.Inode{}), set(1, api.Inode{Kind: 3}), makes(-1, api.InodeFile), makes(0, api.InodeNone), makes(0, 3), drop(0)}
	for _, s := range []*txn.Store{nil, {}} {
		for _, do := range append(sound(), odd...) {
			refused(t, s, 0, do, api.ErrNil)
			refused(t, s, 1, do, api.ErrNil)
		}
		if l := all(s); len(l) != 0 {
			t.Error(l)
		}
	}
}

// P12.2, P12.3: ErrArg, ahead of layer 8's and 11's
func TestArgs(t *testing.T) {
	for _, n := range []int{64, 90, 91, 200, 4096} {
		b := made(t, n)
		m := start(n)
		many := len(m.first)
		var calls []call
		for _, i := range []int{-1, 0, 16*many + 1, 16*many + 17, math.MaxInt, math.MinInt} {
			calls = append(calls, get(i), set(i, api.Inode{}), set(i, api.Inode{Kind: api.InodeFile}), set(i, api.Inode{Kind: 3}), drop(i))
		}
		for _, g := range []int{-1, many, many + 1, math.MaxInt, math.MinInt} {
			calls = append(calls, makes(g, api.InodeFile), makes(g, api.InodeDir), makes(g, api.InodeNone), makes(g, 3))
		}
		for _, k := range []api.InodeKind{math.MinInt, -1, 0, 3, 4, 256, 257, 258, math.MaxInt} {
			calls = append(calls, makes(0, k), makes(many-1, k))
		}
		end := m.first[many-1] + m.size[many-1]
		for _, x := range []api.Inode{
			{Kind: -1}, {Kind: 3}, {Links: 1}, {Size: 1}, {Root: m.first[0] + 5},
			{Kind: 1, Links: -1}, {Kind: 1, Links: 251}, {Kind: 2, Links: 65537},
			{Kind: 1, Size: -1}, {Kind: 2, Size: 1015809}, {Kind: 1, Size: math.MinInt64},
			{Kind: 1, Root: -1}, {Kind: 2, Root: m.first[0]}, {Kind: 1, Root: m.first[0] + 4}, {Kind: 1, Root: end}, {Kind: 2, Root: 3},
		} {
			calls = append(calls, set(1, x), set(16*many, x), set(0, x))
		}
		refuses := func() {
			t.Helper()
			for _, do := range calls {
				b.refuses(t, b.t, do, api.ErrArg)
				b.refuses(t, 99, do, api.ErrArg)
			}
		}
		refuses()
		b.is(t, m)
		b.gone(t)
		refuses()
	}
}

// P12.2, P12.3: a transaction that there is not, ahead of what the bitmap says, and of the power
func TestNone(t *testing.T) {
	b := made(t, 91)
	b.tells(t, makes(1, api.InodeFile), 17)
	b.commit(t)
	var calls []call
	for _, i := range []int{1, 17, 18, 32} { // one of them is used
		calls = append(calls, drop(i), set(i, api.Inode{}), set(i, api.Inode{Kind: api.InodeDir}))
	}
	for g := range 2 {
		calls = append(calls, makes(g, api.InodeFile), makes(g, api.InodeDir))
	}
	refuses := func() {
		t.Helper()
		for _, do := range calls {
			for _, n := range []uint64{0, b.t - 1, b.t + 1, math.MaxUint64} {
				b.refuses(t, n, do, api.ErrNone)
			}
		}
	}
	refuses()
	b.gone(t)
	refuses()
	b = noughts(t, 91, false)
	m := start(91)
	for k := range m.used {
		m.used[k] = true
	}
	b.lay(t, m)
	refuses() // none is free
	b.refuses(t, b.t, makes(0, api.InodeFile), api.ErrFull)
	b.refuses(t, b.t, makes(1, api.InodeDir), api.ErrFull)
	b.is(t, m)
}

// some is an inode that may be on each layout of so many sectors, or more; each number has another one.
func (m *table) some(i int) api.Inode {
	n := api.Inode{Kind: api.InodeKind(1 + i%2), Links: i * 7 % 251, Size: int64(i) * 1033 % 1015809}
	g := i % len(m.first)
	if i%3 != 0 {
		n.Root = m.first[g] + 5 + i%(m.size[g]-5)
	}
	return n
}

// P12.2, P12.4: each inode is got as it was set, others stay, and no bitmap is asked
func TestGetSet(t *testing.T) {
	for _, n := range []int{64, 90, 91, 200, 4096} {
		b, m := made(t, n), start(n)
		for k := range m.raw {
			b.tells(t, get(k+1), api.Inode{})
		}
		for k := range m.raw {
			i := (k*7)%len(m.raw) + 1 // 7 has no factor in common with how many there are
			x := m.some(i)
			b.tells(t, set(i, x), 0)
			b.tells(t, get(i), x)
			b.commit(t)
			m.raw[i-1] = laid(x)
			if n < 200 {
				b.is(t, m)
			}
		}
		for k := range m.raw {
			b.tells(t, get(k+1), m.some(k+1))
		}
		b.is(t, m)
		for k := range m.raw {
			b.tells(t, set(k+1, api.Inode{}), 0)
			b.commit(t)
		}
		b.is(t, start(n))
	}
}

// P12.2: just what may be is set
func TestSetEdges(t *testing.T) {
	b, m := made(t, 91), start(91)
	for _, x := range m.edges() {
		if !m.may(x) {
			refused(t, b.s, b.t, set(6, x), api.ErrArg)
			continue
		}
		b.tells(t, set(6, x), 0)
		b.tells(t, get(6), x)
		b.commit(t)
		m.raw[5] = laid(x)
	}
	b.is(t, m)
}

// P12.2: where nothing would be another one nothing is noted
func TestSetSame(t *testing.T) {
	b, m := made(t, 64), start(64)
	b.tells(t, set(3, m.some(3)), 0)
	b.commit(t)
	was := b.look()
	b.tells(t, set(3, m.some(3)), 0)
	b.tells(t, set(4, api.Inode{}), 0)
	if now := b.look(); !reflect.DeepEqual(was, now) {
		t.Error(was, now)
	}
}

// spoilt are bytes that are none's, and that no noughts stand among.
func spoilt() raw {
	var b raw
	for i := range b {
		b[i] = byte(200 + i)
	}
	return b
}

// P12.2, P12.3: bytes that are none's are not got; they are set, made and dropped over
func TestSpoilt(t *testing.T) {
	for i := 1; i <= 32; i++ {
		for _, bytes := range []raw{spoilt(), {61: 1}, {0: 3}, {1: 1}, {0: 1, 10: 128}, {0: 2, 1: 251}, {0: 1, 11: 19}} {
			b, m := noughts(t, 91, false), start(91)
			m.raw[i-1] = bytes
			for k := range m.used { // the only one that is free is the one that is spoilt
				m.used[k] = k != i-1
				if k != i-1 {
					m.raw[k] = laid(m.some(k + 1))
				}
			}
			b.lay(t, m)
			was := b.look()
			for k := range m.raw {
				if k == i-1 {
					refused(t, b.s, 0, get(i), api.ErrBytes)
					continue
				}
				b.tells(t, get(k+1), m.some(k+1))
			}
			if now := b.look(); !reflect.DeepEqual(was, now) {
				t.Error("changed", was, now)
			}
			b.keeps(t, b.t, drop(i), api.ErrState)
			b.is(t, m)
			b.tells(t, makes(0, api.InodeDir), i)
			m.used[i-1], m.raw[i-1] = true, raw{2}
			b.is(t, m)
			ok(t, b.s.Rollback(b.t))
			b.begin(t)
			b.tells(t, set(i, m.some(i)), 0)
			m.used[i-1], m.raw[i-1] = false, laid(m.some(i))
			b.is(t, m)
			m.used[i-1], m.raw[i-1] = true, bytes
			b.commit(t)
			b.lay(t, m)
			b.tells(t, drop(i), 0)
			m.used[i-1], m.raw[i-1] = false, raw{}
			b.is(t, m)
		}
	}
}

// P12.3: from a group on, each one's least free inode, round behind the last one, till none is free
func TestMake(t *testing.T) {
	for _, n := range []int{64, 91, 200, 300} {
		many := len(start(n).first)
		for from := range many {
			b, m := made(t, n), start(n)
			for k := range 16 * many {
				i := (16*from+k)%(16*many) + 1
				kind := api.InodeKind(1 + k%2)
				b.tells(t, makes(from, kind), i)
				b.tells(t, get(i), api.Inode{Kind: kind})
				b.commit(t)
				m.used[i-1], m.raw[i-1] = true, raw{byte(kind)}
				if k%5 == 0 {
					b.is(t, m)
				}
			}
			for g := range many {
				b.refuses(t, b.t, makes(g, api.InodeFile), api.ErrFull)
				b.refuses(t, b.t, makes(g, api.InodeDir), api.ErrFull)
			}
			b.is(t, m)
		}
	}
}

// P12.3: what is free is ErrState, and stays, whatever its bytes are; each is dropped just once, and made again
func TestDrop(t *testing.T) {
	b, m := noughts(t, 91, false), start(91)
	for k := range m.used {
		m.used[k], m.raw[k] = true, laid(m.some(k+1))
	}
	b.lay(t, m)
	for k := range m.used {
		b.tells(t, drop(k+1), 0)
		m.used[k], m.raw[k] = false, raw{}
		b.is(t, m)
		b.refuses(t, b.t, drop(k+1), api.ErrState)
		b.tells(t, get(k+1), api.Inode{})
		b.tells(t, set(k+1, m.some(k+1)), 0)
		b.refuses(t, b.t, drop(k+1), api.ErrState)
		b.commit(t)
		m.raw[k] = laid(m.some(k + 1))
		b.is(t, m)
		b.tells(t, makes(k/16, api.InodeFile), k+1)
		b.commit(t)
		m.used[k], m.raw[k] = true, raw{1}
		b.is(t, m)
	}
}

// P12.3: just the used ones, rising, of any kind; what is free is not asked
func TestAll(t *testing.T) {
	for _, n := range []int{64, 90, 91, 200, 600} {
		b, m := noughts(t, n, false), start(n)
		var want []told
		for k := range m.used {
			m.raw[k] = spoilt()
			if (k*k+k/3)%5 < 2 || k == len(m.used)-1 {
				x := m.some(k + 1)
				if k%4 == 1 {
					x = api.Inode{} // none, but used
				}
				m.used[k], m.raw[k] = true, laid(x)
				want = append(want, told{k + 1, x})
			}
		}
		b.goes(t) // on a disk of noughts
		b.lay(t, m)
		was := b.look()
		b.goes(t, want...)
		if now := b.look(); !reflect.DeepEqual(was, now) {
			t.Error("changed", was, now)
		}
		b.is(t, m)
	}
}

// P12.3: up to the first that is refused
func TestAllRefused(t *testing.T) {
	b, m := noughts(t, 91, false), start(91)
	for k := range m.used {
		m.used[k], m.raw[k] = true, laid(m.some(k+1))
	}
	var want []told
	for k := range m.used {
		was := m.raw[k]
		m.raw[k] = raw{61: 1}
		b.lay(t, m)
		b.goes(t, want...)
		m.raw[k] = was
		want = append(want, told{k + 1, m.some(k + 1)})
	}
	b.lay(t, m)
	b.goes(t, want...)
}

// P12.3: left at any time, gone through as often as one likes, as they are when it is called
func TestAllAgain(t *testing.T) {
	b := made(t, 91)
	var want []told
	for i := 1; i <= 20; i++ {
		b.tells(t, makes(0, api.InodeFile), i)
		want = append(want, told{i, api.Inode{Kind: api.InodeFile}})
		b.commit(t)
	}
	seq := itable.All(b.s)
	for leave := range 23 {
		var got []told
		for i, n := range seq {
			if len(got) == leave {
				break
			}
			got = append(got, told{i, n})
		}
		if !slices.Equal(got, want[:min(leave, 20)]) {
			t.Error(leave, got)
		}
	}
	b.tells(t, drop(4), 0)
	b.tells(t, set(9, api.Inode{Kind: api.InodeDir, Links: 9}), 0)
	b.tells(t, makes(1, api.InodeDir), 21)
	var got []told
	for i, n := range seq {
		got = append(got, told{i, n})
		if i == 2 { // while it is gone over
			b.tells(t, drop(3), 0)
		}
		for j := range seq { // and within
			if j != 1 {
				t.Error(j)
			}
			break
		}
	}
	if !slices.Equal(got, want) {
		t.Error(got)
	}
	now := slices.Concat(want[:2], want[4:], []told{{21, api.Inode{Kind: api.InodeDir}}})
	now[6].n = api.Inode{Kind: api.InodeDir, Links: 9}
	b.goes(t, now...)
	b.gone(t)
	b.goes(t)
	got = nil
	for i, n := range seq {
		got = append(got, told{i, n})
	}
	if !slices.Equal(got, want) {
		t.Error(got)
	}
}

// P12.2, P12.3: without power
func TestDead(t *testing.T) {
	for _, inMemory := range []bool{false, true} {
		b := made(t, 64)
		b.tells(t, makes(0, api.InodeFile), 1)
		b.commit(t)
		if inMemory {
			b.goes(t, told{1, api.Inode{Kind: api.InodeFile}})
		}
		b.gone(t)
		for _, do := range sound() {
			b.refuses(t, b.t, do, api.ErrDead)
		}
		b.refuses(t, b.t, drop(2), api.ErrDead) // it is free
		b.refuses(t, b.t, set(1, api.Inode{Kind: api.InodeFile}), api.ErrDead)
		b.goes(t)
	}
}

// crowd lets all frames have these pages, all of them dirty, so that what is asked for next must write.
func (b *bench) crowd(t *testing.T, pages ...int) {
	t.Helper()
	ok(t, b.s.Room())
	for i := byte(1); len(b.p.Dirty()) < b.p.Frames() || b.p.Frames() < 8; i++ { // at first some go again
		for _, page := range pages {
			ok(t, b.s.Update(b.t, page, 200, []byte{i}))
		}
	}
	if got := b.p.Dirty(); !slices.Equal(got, pages) {
		t.Fatal(got)
	}
}

// P12.2, P12.3: the power goes as room for a page is made, be it the first one that is asked for, or the other one
func TestDies(t *testing.T) {
	for _, first := range []bool{true, false} {
		calls := []call{makes(0, api.InodeFile), drop(3), get(1), set(1, api.Inode{}), set(1, api.Inode{Kind: 2})}
		pages := []int{19, 24, 25, 26, 27, 28, 29, 30} // the group's bitmap, but no page of its inodes
		if first {
			calls = append(calls, makes(1, api.InodeFile))
			pages = []int{24, 25, 26, 27, 28, 29, 30, 31}
		}
		for _, do := range calls {
			b, m := noughts(t, 91, false), start(91)
			for k := range m.used {
				m.used[k] = k < 3 || k > 15 // 4 is the first one that is free, also from the group 1 on
				m.raw[k] = laid(m.some(k + 1))
			}
			b.lay(t, m)
			b.crowd(t, pages...)
			b.d.Fuse(0)
			refused(t, b.s, b.t, do, api.ErrDead)
			if !b.d.Dead() {
				t.Error("nothing was to be written")
			}
		}
	}
}

// P12.3: the power goes as All is asked for: what is ahead is told
func TestAllDies(t *testing.T) {
	b, m := noughts(t, 91, false), start(91)
	var want []told
	for k := range m.used {
		m.used[k], m.raw[k] = true, laid(m.some(k+1))
		want = append(want, told{k + 1, m.some(k + 1)})
	}
	b.lay(t, m)
	b.crowd(t, 19, 24, 25, 26, 27, 28, 29, 30)
	b.d.Fuse(0)
	b.goes(t)
	for many := 1; many <= 4; many++ { // so many pages of inodes are in memory
		b := noughts(t, 91, false)
		b.lay(t, m)
		pages := []int{19, 24, 25, 26, 27, 28, 29, 30}
		copy(pages[1:], []int{20, 21, 22, 23}[:many])
		b.fill(t, m, pages...)
		b.d.Fuse(0)
		if got := all(b.s); !slices.Equal(got, want[:4*many]) {
			t.Error(many, got)
		}
		if !b.d.Dead() {
			t.Error(many, "nothing was to be written")
		}
	}
}

// fill lets all frames have these pages, all of them dirty, but those of inodes with the bytes that the table says.
func (b *bench) fill(t *testing.T, m *table, pages ...int) {
	t.Helper()
	b.crowd(t, pages...)
	for _, page := range pages {
		if page > 19 && page < 24 {
			p := m.page(0, page-19)
			ok(t, b.s.Update(b.t, page, 0, p[:]))
		}
	}
}

// P12.2: the log's room does not do; held, no room is made
func TestLogFull(t *testing.T) {
	for _, held := range []bool{false, true} {
		b, m := noughts(t, 91, held), start(91)
		for g, first := range m.first {
			p := m.page(g, 0)
			ok(t, b.s.Update(b.t, first, 0, p[:]))
		}
		full := b.keeps
		if held {
			full = b.refuses
		}
		wide := api.Inode{Kind: 1, Links: 2, Size: 3, Root: 24} // up to the byte 11: of 12
		ok(t, b.l.Reserve(b.l.Free()-105))                      // a byte less than an update of 12, and its RecBack, need
		full(t, b.t, set(5, wide), api.ErrFull)
		full(t, 99, set(5, wide), api.ErrNone)
		full(t, b.t, set(5, api.Inode{Kind: 3}), api.ErrArg)
		b.is(t, m)
		b.l.Release(1)
		b.tells(t, set(5, wide), 0)
		m.raw[4] = laid(wide)
		b.is(t, m)
		ok(t, b.l.Reserve(b.l.Free()))
		full(t, b.t, makes(0, api.InodeFile), api.ErrFull)
		full(t, b.t, set(5, api.Inode{}), api.ErrFull)
		full(t, b.t, drop(5), api.ErrState)
		b.tells(t, set(5, wide), 0) // nothing would be another one
		b.is(t, m)
	}
}

// P12.3: where the log's room does for the bitmap alone, it is told, and who asked rolls back
func TestLogFullBetween(t *testing.T) {
	for _, held := range []bool{false, true} {
		b, m := noughts(t, 91, held), start(91)
		m.used[1], m.raw[1] = true, raw{2}
		b.lay(t, m)
		for _, do := range []call{makes(0, api.InodeFile), drop(2)} {
			for _, short := range []int{0, 35, 36, 72, 107, 108, 109, 180} {
				kept := b.l.Free() - short // the first change of a transaction needs 108, another one 73
				ok(t, b.l.Reserve(kept))
				refused(t, b.s, b.t, do, api.ErrFull)
				b.l.Release(kept)
				ok(t, b.s.Rollback(b.t))
				b.begin(t)
				b.is(t, m)
				ok(t, b.s.Room())
			}
		}
		ok(t, b.l.Reserve(b.l.Free()-181))
		b.tells(t, makes(0, api.InodeFile), 1)
		m.used[0], m.raw[0] = true, raw{1}
		b.is(t, m)
	}
}

// P12.2 to P12.4, and that all is done in the transaction: changed back, all is as it was; committed, it lasts
func TestTransaction(t *testing.T) {
	d, _ := disk.New(91)
	su, _ := super.Make(91)
	ok(t, restart.Make(d, su))
	open := func() *bench {
		t.Helper()
		s, _, e := restart.Find(d, 8)
		ok(t, e, restart.Settle(s))
		b := &bench{d: d, l: s.Log(), p: s.Pool(), s: s}
		b.begin(t)
		return b
	}
	b, m := open(), start(91)
	m.used[3], m.raw[3] = true, laid(m.some(4))
	b.lay(t, m)
	several := func() {
		t.Helper()
		b.tells(t, makes(0, api.InodeFile), 1)
		b.tells(t, makes(1, api.InodeDir), 17)
		b.tells(t, set(17, m.some(17)), 0)
		b.tells(t, set(1, m.some(1)), 0)
		b.tells(t, drop(4), 0)
		b.tells(t, makes(0, api.InodeFile), 2)
		b.tells(t, drop(1), 0)
	}
	several()
	ok(t, b.s.Rollback(b.t))
	b.is(t, m)
	b.begin(t)
	several()
	ok(t, b.s.Sync())
	d = d.Crash(nil)
	b = open()
	b.is(t, m)
	several()
	ok(t, b.s.Commit(b.t), b.s.Sync())
	d = d.Crash(nil)
	b = open()
	m.used[1], m.raw[1] = true, raw{1}
	m.used[16], m.raw[16] = true, laid(m.some(17))
	m.used[3], m.raw[3] = false, raw{}
	b.is(t, m)
	b.goes(t, told{2, api.Inode{Kind: api.InodeFile}}, told{17, m.some(17)})
}
