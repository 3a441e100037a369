package extent_test

import (
	"encoding/binary"
	"maps"
	"math"
	"reflect"
	"slices"
	"testing"

	"hornbook/api"
	"hornbook/bitmap"
	"hornbook/disk"
	"hornbook/extent"
	"hornbook/pool"
	"hornbook/restart"
	"hornbook/super"
	"hornbook/txn"
	"hornbook/wal"
)

// page is one of a tree, by another way than the program's: a leaf with its extents, or another one with those below it, and with the Blocks from which on they are.
type page struct {
	at, level int
	l         []api.Extent
	from      []int
	below     []*page
}

// land is what lies in the groups: which blocks are used, and the payload of each.
type land struct {
	sectors     int
	first, size []int
	used        map[int]bool
	raw         map[int]api.Page
	full        bool // nothing was free
}

// start is what lies there at first, on a disk of so many sectors.
func start(sectors int) *land {
	m := &land{sectors: sectors, used: map[int]bool{}, raw: map[int]api.Page{}}
	for at := 3 + min(max(sectors/8, 16), 256); sectors-at >= 8; at += 64 {
		m.first = append(m.first, at)
		m.size = append(m.size, min(64, sectors-at))
	}
	return m
}

// blocks are all of them.
func (m *land) blocks() []int {
	var l []int
	for g, first := range m.first {
		for k := 5; k < m.size[g]; k++ {
			l = append(l, first+k)
		}
	}
	return l
}

// take takes a block from a group on.
func (m *land) take(g int) int {
	for k := range m.first {
		at := (g + k) % len(m.first)
		for k := 5; k < m.size[at]; k++ {
			if sector := m.first[at] + k; !m.used[sector] {
				m.used[sector] = true
				return sector
			}
		}
	}
	m.full = true
	return 0
}

// many is how many entries a page has.
func (p *page) many() int { return len(p.l) + len(p.below) }

// low is a page's least Block.
func (p *page) low() int {
	if p.level == 0 {
		return p.l[0].Block
	}
	return p.from[0]
}

// bytes are a page's.
func (p *page) bytes() api.Page {
	var b api.Page
	b[0], b[1] = byte(p.level), byte(p.many())
	for i, x := range p.l {
		binary.LittleEndian.PutUint16(b[8+8*i:], uint16(x.Block))
		binary.LittleEndian.PutUint16(b[10+8*i:], uint16(x.Count))
		binary.LittleEndian.PutUint32(b[12+8*i:], uint32(x.Sector))
	}
	for i, q := range p.below {
		binary.LittleEndian.PutUint16(b[8+8*i:], uint16(p.from[i]))
		binary.LittleEndian.PutUint32(b[12+8*i:], uint32(q.at))
	}
	return b
}

// draw lets the land have a page's bytes.
func (m *land) draw(p *page) { m.raw[p.at] = p.bytes() }

// drawn draws a page, and all below it, and has them used.
func (m *land) drawn(p *page) *page {
	m.used[p.at] = true
	m.draw(p)
	for _, q := range p.below {
		m.drawn(q)
	}
	return p
}

// toward is which of those below the way goes to.
func (p *page) toward(block int) int {
	k := 0
	for i, from := range p.from {
		if from <= block {
			k = i
		}
	}
	return k
}

// add is a leaf's extents with one more block.
func add(l []api.Extent, block, sector int) []api.Extent {
	l = append(slices.Clone(l), api.Extent{Block: block, Count: 1, Sector: sector})
	slices.SortFunc(l, func(a, b api.Extent) int { return a.Block - b.Block })
	for i := len(l) - 1; i > 0; i-- {
		a, b := l[i-1], l[i]
		if (block == a.Block || block == b.Block) && a.Block+a.Count == b.Block && a.Sector+a.Count == b.Sector {
			l[i-1].Count += b.Count
			l = slices.Delete(l, i, i+1)
		}
	}
	return l
}

// put puts a block under a page; a page that is new beside it.
func (m *land) put(p *page, g, block, sector int) *page {
	if p.level == 0 {
		p.l = add(p.l, block, sector)
	} else {
		k := p.toward(block)
		if q := m.put(p.below[k], g, block, sector); q != nil {
			p.from = slices.Insert(p.from, k+1, q.low())
			p.below = slices.Insert(p.below, k+1, q)
		}
	}
	if p.many() <= 30 || m.full {
		m.draw(p)
		return nil
	}
	q := &page{at: m.take(g), level: p.level}
	if p.level == 0 {
		p.l, q.l = p.l[:15], slices.Clone(p.l[15:])
	} else {
		p.from, q.from = p.from[:15], slices.Clone(p.from[15:])
		p.below, q.below = p.below[:15], slices.Clone(p.below[15:])
	}
	m.draw(p)
	m.draw(q)
	return q
}

// puts is what Put is to do to a tree.
func (m *land) puts(root *page, g, block, sector int) *page {
	if root == nil {
		root = &page{at: m.take(g), l: []api.Extent{{Block: block, Count: 1, Sector: sector}}}
		m.draw(root)
		return root
	}
	if q := m.put(root, g, block, sector); q != nil && !m.full {
		root = &page{at: m.take(g), level: root.level + 1, from: []int{0, q.low()}, below: []*page{root, q}}
		m.draw(root)
	}
	return root
}

// cut cuts what is under a page, and adds what is let go to a list; is nothing left?
func (m *land) cut(p *page, block int, gone *[]int) bool {
	var l []api.Extent
	for _, x := range p.l {
		y := x
		y.Count = 0
		for k := range x.Count {
			if x.Block+k < block {
				y.Count++
			} else {
				delete(m.used, x.Sector+k)
				*gone = append(*gone, x.Sector+k)
			}
		}
		if y.Count > 0 {
			l = append(l, y)
		}
	}
	var from []int
	var below []*page
	for i, q := range p.below {
		if i < p.toward(block) || !m.cut(q, block, gone) {
			from, below = append(from, p.from[i]), append(below, q)
		}
	}
	p.l, p.from, p.below = l, from, below
	if p.many() == 0 {
		delete(m.used, p.at)
		return true
	}
	m.draw(p)
	return false
}

// cuts is what Cut is to do to a tree.
func (m *land) cuts(root *page, block int) (*page, []int) {
	var gone []int
	if root == nil || m.cut(root, block, &gone) {
		return nil, gone
	}
	for root.level > 0 && root.many() == 1 {
		delete(m.used, root.at)
		root = root.below[0]
	}
	return root, gone
}

// number is a root's.
func number(root *page) int {
	if root == nil {
		return 0
	}
	return root.at
}

// under are a tree's extents, and its pages.
func under(p *page) (l []api.Extent, pages []int) {
	if p == nil {
		return nil, nil
	}
	l, pages = slices.Clone(p.l), []int{p.at}
	for _, q := range p.below {
		m, others := under(q)
		l, pages = append(l, m...), append(pages, others...)
	}
	return l, pages
}

// spread is which sector each block has.
func spread(l []api.Extent) map[int]int {
	m := map[int]int{}
	for _, x := range l {
		for k := range x.Count {
			m[x.Block+k] = x.Sector + k
		}
	}
	return m
}

// page is a group's page.
func (m *land) page(g, at int) api.Page {
	if at > 0 {
		return m.raw[m.first[g]+at]
	}
	var p api.Page
	for k := range 64 {
		if k < 5 || k >= m.size[g] || m.used[m.first[g]+k] {
			p[k/8] |= 1 << (k % 8)
		}
	}
	return p
}

// bench is a disk, a store on it, and a transaction on its way.
type bench struct {
	d *disk.Disk
	l *wal.Log
	p *pool.Pool
	s *txn.Store
	t uint64
}

// ok says that nothing was refused.
func ok(t *testing.T, l ...api.Errno) {
	t.Helper()
	for i, e := range l {
		if e != api.OK {
			t.Fatal(i, "told", e)
		}
	}
}

// noughts is a store on a disk of noughts.
func noughts(t *testing.T, sectors int, held bool) *bench {
	t.Helper()
	b := &bench{}
	var e [5]api.Errno
	var su api.Super
	b.d, e[0] = disk.New(sectors)
	su, e[1] = super.Make(sectors)
	b.l, _, e[2] = wal.Open(b.d, su, 0, 1)
	b.p, e[3] = pool.New(b.d, b.l, 8, held)
	b.s, e[4] = txn.New(b.d, su, api.Master{Epoch: 1, Seq: 1}, b.l, b.p)
	ok(t, e[:]...)
	b.begin(t)
	return b
}

// made is a store that is as at first.
func made(t *testing.T, sectors int) *bench {
	t.Helper()
	b := noughts(t, sectors, false)
	b.lay(t, start(sectors))
	return b
}

func (b *bench) begin(t *testing.T) {
	t.Helper()
	var e api.Errno
	b.t, e = b.s.Begin()
	ok(t, e)
}

// commit lets the log's room go: the next transaction is on its way.
func (b *bench) commit(t *testing.T) {
	t.Helper()
	ok(t, b.s.Commit(b.t))
	b.begin(t)
}

// lay lets all pages be as the land says; none is dirty then.
func (b *bench) lay(t *testing.T, m *land) {
	t.Helper()
	for g, first := range m.first {
		for at := range m.size[g] {
			p := m.page(g, at)
			ok(t, b.s.Update(b.t, first+at, 0, p[:]))
			b.commit(t)
		}
	}
	ok(t, b.s.Room())
}

// is says that all pages of groups are as the land says.
func (b *bench) is(t *testing.T, m *land) {
	t.Helper()
	for g, first := range m.first {
		for at := range m.size[g] {
			want := m.page(g, at)
			if p, e := b.s.Read(first + at); p != want || e != api.OK {
				t.Fatalf("group %d, place %d: %x, not %x: %v", g, at, p, want, e)
			}
		}
	}
}

// looks are what can be told of a store without its being changed.
type looks struct {
	ways             []uint64
	master           api.Master
	end, lasts, tail uint64
	free             int
	dirty            []int
}

func (b *bench) look() looks {
	return looks{slices.Concat([]uint64{}, b.s.Ways()), b.s.Master(), b.l.End(), b.l.Lasts(), b.l.Tail(), b.l.Free(), slices.Concat([]int{}, b.p.Dirty())}
}

// call is a call, of a store and a transaction; beside an error what it tells otherwise is to be nought.
type call func(s *txn.Store, t uint64) (any, api.Errno)

func find(root, block int) call {
	return func(s *txn.Store, _ uint64) (any, api.Errno) { n, e := extent.Find(s, root, block); return n, e }
}

func put(g, root, block, sector int) call {
	return func(s *txn.Store, t uint64) (any, api.Errno) {
		n, e := extent.Put(s, t, g, root, block, sector)
		return n, e
	}
}

// rest is what a Cut tells.
type rest struct {
	root int
	gone []int
}

func cut(root, block int) call {
	return func(s *txn.Store, t uint64) (any, api.Errno) {
		n, l, e := extent.Cut(s, t, root, block)
		return rest{n, append([]int(nil), l...)}, e
	}
}

func all(root int) call {
	return func(s *txn.Store, _ uint64) (any, api.Errno) {
		l, e := extent.All(s, root)
		return append([]api.Extent(nil), l...), e
	}
}

func pages(root int) call {
	return func(s *txn.Store, _ uint64) (any, api.Errno) {
		l, e := extent.Pages(s, root)
		return append([]int(nil), l...), e
	}
}

func count(root int) call {
	return func(s *txn.Store, _ uint64) (any, api.Errno) { n, e := extent.Count(s, root); return n, e }
}

// tells says what a call answers.
func (b *bench) tells(t *testing.T, do call, want any) {
	t.Helper()
	if got, e := do(b.s, b.t); !reflect.DeepEqual(got, want) || e != api.OK {
		t.Fatalf("told %v, %v, not %v", got, e, want)
	}
}

// refused says that a call is, by that error, and tells nothing else.
func refused(t *testing.T, s *txn.Store, n uint64, do call, want api.Errno) {
	t.Helper()
	if got, e := do(s, n); e != want || !reflect.ValueOf(got).IsZero() {
		t.Errorf("told %v, %v, not %v", got, e, want)
	}
}

// refuses says so, and that nothing changes by it.
func (b *bench) refuses(t *testing.T, n uint64, do call, want api.Errno) {
	t.Helper()
	was, sectors := b.look(), b.d.Copy()
	refused(t, b.s, n, do, want)
	if now := b.look(); !reflect.DeepEqual(was, now) || !b.d.Same(sectors) {
		t.Error("changed", was, now)
	}
}

// keeps says so, and that nothing is noted, though room may be made, and pages may go.
func (b *bench) keeps(t *testing.T, n uint64, do call, want api.Errno) {
	t.Helper()
	end, free := b.l.End(), b.l.Free()
	refused(t, b.s, n, do, want)
	if b.l.End() != end || b.l.Free() != free {
		t.Error("noted", end, b.l.End(), free, b.l.Free())
	}
}

// gone takes the power away.
func (b *bench) gone(t *testing.T) {
	t.Helper()
	b.d.Fuse(0)
	if e := b.d.Write(0, api.Sector{}); e != api.ErrDead {
		t.Fatal(e)
	}
}

// crowd lets all frames have these pages, all of them dirty, so that what is asked for next must write.
func (b *bench) crowd(t *testing.T, pages ...int) {
	t.Helper()
	ok(t, b.s.Room())
	for i := byte(1); len(b.p.Dirty()) < b.p.Frames() || b.p.Frames() < 8; i++ { // at first some go again
		for _, page := range pages {
			ok(t, b.s.Update(b.t, page, 200, []byte{i}))
		}
	}
	if got := b.p.Dirty(); !slices.Equal(got, pages) {
		t.Fatal(got)
	}
}

// leaf is a leaf at a place.
func leaf(at int, l ...api.Extent) *page { return &page{at: at, l: l} }

// above is a page above others, from whose Blocks on they are.
func above(at, level int, from []int, below ...*page) *page {
	return &page{at: at, level: level, from: from, below: below}
}

// laid is a store with trees, with the sectors used that they lead to, and the land that it has.
func laid(t *testing.T, sectors int, roots ...*page) (*bench, *land) {
	t.Helper()
	b, m := noughts(t, sectors, false), start(sectors)
	for _, root := range roots {
		l, _ := under(m.drawn(root))
		for _, sector := range spread(l) {
			m.used[sector] = true
		}
	}
	b.lay(t, m)
	return b, m
}

// has says that a tree tells just these extents and pages.
func (b *bench) has(t *testing.T, root *page) {
	t.Helper()
	l, at := under(root)
	b.tells(t, all(number(root)), l)
	b.tells(t, pages(number(root)), at)
	many := 0
	for _, x := range l {
		many += x.Count
	}
	b.tells(t, count(number(root)), many)
}

// finds says that just the blocks of a tree's extents are found.
func (b *bench) finds(t *testing.T, root *page) {
	t.Helper()
	l, _ := under(root)
	where := spread(l)
	for block := range 4096 {
		b.tells(t, find(number(root), block), where[block])
	}
}

func TestExamples(t *testing.T) {
	b := made(t, 64)
	for want := 19 + 5; want < 32; want++ {
		d, e := bitmap.TakeBlock(b.s, b.t, 0)
		if d != want || e != api.OK {
			t.Fatal(d, e)
		}
	}
	b.commit(t)
	b.tells(t, put(0, 0, 5, 30), 32)
	b.tells(t, find(32, 5), 30)
	b.tells(t, find(32, 6), 0)
	b.tells(t, put(0, 32, 6, 31), 32)
	b.tells(t, all(32), []api.Extent{{Block: 5, Count: 2, Sector: 30}})
	b.keeps(t, b.t, put(0, 32, 6, 40), api.ErrState)
	b.tells(t, cut(32, 6), rest{32, []int{31}})
	b.tells(t, cut(32, 0), rest{0, []int{30}})
}

// levelOf is what Level is to tell.
func levelOf(b api.Page) int {
	n, last := int(b[1]), -1
	if b[0] > 2 || n == 0 || n > 30 || string(b[2:8]) != "\x00\x00\x00\x00\x00\x00" {
		return -1
	}
	for i, x := range b[8:] {
		if x != 0 && i >= 8*n {
			return -1
		}
	}
	for i := range n {
		block := int(binary.LittleEndian.Uint16(b[8+8*i:]))
		many := int(binary.LittleEndian.Uint16(b[10+8*i:]))
		if (many == 0) == (b[0] == 0) || block <= last || block+max(many, 1) > 4096 {
			return -1
		}
		last = block + max(many, 1) - 1
	}
	return int(b[0])
}

// samples are pages of all levels, about each bound.
func samples() []api.Page {
	full, branch := leaf(0), above(0, 1, nil)
	for i := range 30 {
		full.l = append(full.l, api.Extent{Block: 100 * i, Count: 1 + i, Sector: i * i * i * 1000})
		branch.from = append(branch.from, 130*i)
		branch.below = append(branch.below, leaf(i*i*70000))
	}
	return []api.Page{
		leaf(0, api.Extent{Count: 1}).bytes(),
		leaf(0, api.Extent{Block: 0, Count: 4096, Sector: math.MaxUint32}).bytes(),
		leaf(0, api.Extent{Block: 1, Count: 2, Sector: 24}, api.Extent{Block: 3, Count: 2, Sector: 24}, api.Extent{Block: 258, Count: 257, Sector: 24}, api.Extent{Block: 4095, Count: 1}).bytes(),
		full.bytes(),
		above(0, 1, []int{4095}, leaf(0)).bytes(),
		above(0, 2, []int{0, 1, 256, 300}, leaf(5), leaf(5), leaf(math.MaxUint32), leaf(0)).bytes(),
		branch.bytes(),
	}
}

// P13.1: a page's level, by itself; each byte of sound pages is each other one
func TestLevel(t *testing.T) {
	for i, want := range []int{0, 0, 0, 0, 1, 2, 1} {
		p := samples()[i]
		if got := extent.Level(p); got != want {
			t.Fatal(i, got)
		}
		for at := range p {
			was := p[at]
			for x := range 256 {
				p[at] = byte(x)
				if got, want := extent.Level(p), levelOf(p); got != want {
					t.Fatal(i, at, x, got, want)
				}
			}
			p[at] = was
		}
	}
}

// P13.1: what may not be, and what may just be
func TestLevelEdges(t *testing.T) {
	x := func(block, count int) api.Extent { return api.Extent{Block: block, Count: count, Sector: 30} }
	for i, c := range []struct {
		p    *page
		want int
	}{
		{leaf(0), -1},
		{above(0, 1, nil), -1},
		{leaf(0, x(0, 0)), -1},
		{leaf(0, x(4095, 1)), 0},
		{leaf(0, x(4095, 2)), -1},
		{leaf(0, x(4096, 1)), -1},
		{leaf(0, x(0, 4097)), -1},
		{leaf(0, x(5, 3), x(8, 1)), 0},
		{leaf(0, x(5, 3), x(7, 1)), -1},
		{leaf(0, x(5, 3), x(5, 3)), -1},
		{leaf(0, x(5, 3), x(1, 1)), -1},
		{leaf(0, x(1, 65535)), -1},
		{leaf(0, x(65535, 1)), -1},
		{above(0, 1, []int{4095}, leaf(9)), 1},
		{above(0, 1, []int{4096}, leaf(9)), -1},
		{above(0, 1, []int{7, 8}, leaf(9), leaf(9)), 1},
		{above(0, 1, []int{7, 7}, leaf(9), leaf(9)), -1},
		{above(0, 1, []int{7, 6}, leaf(9), leaf(9)), -1},
		{above(0, 2, []int{7}, leaf(9)), 2},
		{above(0, 3, []int{7}, leaf(9)), -1},
		{above(0, 255, []int{7}, leaf(9)), -1},
		{above(0, 0, []int{7}, leaf(9)), -1},
		{&page{level: 1, l: []api.Extent{x(0, 1)}}, -1},
	} {
		if got := extent.Level(c.p.bytes()); got != c.want {
			t.Error(i, got, c.want)
		}
	}
	if got := extent.Level(api.Page{}); got != -1 {
		t.Error(got)
	}
	p := samples()[3]
	p[1] = 31
	if got := extent.Level(p); got != -1 {
		t.Error(got)
	}
}

// small is a tree of all levels, on a disk of 91 sectors: four leaves, at 40 to 43, below 50 and 51, below 60.
func small() *page {
	return above(60, 2, []int{0, 20},
		above(50, 1, []int{0, 10}, leaf(40, api.Extent{Block: 1, Count: 2, Sector: 30}), leaf(41, api.Extent{Block: 11, Count: 2, Sector: 32})),
		above(51, 1, []int{20, 30}, leaf(42, api.Extent{Block: 21, Count: 2, Sector: 34}), leaf(43, api.Extent{Block: 31, Count: 2, Sector: 36})),
	)
}

// P13.1, P13.4: each block of a tree, and none else
func TestFind(t *testing.T) {
	b, m := laid(t, 91, small())
	was := b.look()
	b.finds(t, small())
	b.has(t, small())
	b.finds(t, nil)
	b.has(t, nil)
	for _, at := range []int{40, 51} { // within
		root := small().below[1]
		if at == 40 {
			root = small().below[0].below[0]
		}
		b.finds(t, root)
		b.has(t, root)
	}
	if now := b.look(); now.end != was.end || now.free != was.free {
		t.Error("noted", was, now)
	}
	b.is(t, m)
}

// P13.1: the way goes to the last entry whose Block is at most the block, or to the first one, wherever the block lies
func TestFindWay(t *testing.T) {
	x := func(block, count, sector int) api.Extent {
		return api.Extent{Block: block, Count: count, Sector: sector}
	}
	root := above(60, 1, []int{10, 20, 30}, leaf(40, x(3, 1, 30), x(12, 15, 31)), leaf(41, x(2, 1, 50), x(22, 1, 52), x(31, 1, 51)), leaf(42, x(19, 2, 53), x(40, 2, 55)))
	b, _ := laid(t, 91, root)
	for block, want := range map[int]int{0: 0, 2: 0, 3: 30, 9: 0, 12: 31, 19: 38, 20: 0, 21: 0, 22: 52, 26: 0, 29: 0, 30: 0, 31: 0, 40: 55, 41: 56, 42: 0, 4095: 0} {
		b.tells(t, find(60, block), want)
	}
	b.has(t, root) // in the tree's order
}

// P13.4: a page that two lead to is told twice
func TestShared(t *testing.T) {
	x := leaf(40, api.Extent{Block: 5, Count: 2, Sector: 30})
	middle := above(50, 1, []int{0, 10}, x, x)
	root := above(60, 2, []int{0, 20, 30}, middle, middle, middle)
	b, m := laid(t, 91, root)
	b.has(t, root)
	b.is(t, m)
}

// spoilt are trees, each with a page that may not be at a place.
func (m *land) spoilt(at int) []api.Page {
	p := m.raw[at]
	change := func(at int, x byte) api.Page {
		q := p
		q[at] = x
		return q
	}
	l := []api.Page{{}, change(2, 1), change(247, 1), change(1, 31), change(0, 3), change(0, 255), change(1, 0), change(1, p[1]+1), change(13, 1), change(15, 1), change(9, 255)}
	for _, sector := range []byte{0, 1, 18, 19, 23, 83, 87, 91, 92} { // no block: the first entry's, the last one's
		l = append(l, change(12, sector), change(12+8*(int(p[1])-1), sector))
	}
	if p[0] == 0 {
		l = append(l, change(10, 0), change(12, 82), change(12, 22), change(10, 200)) // two sectors from 82 on, but 83 is a bitmap
		across := change(12, 82)                                                      // up to 88, another group's first block
		across[10] = 7
		l = append(l, across)
	} else {
		l = append(l, change(10, 1), change(11, 1))
	}
	return l
}

// P13.1 to P13.4: a page that may not be is ErrBytes for what comes to it, and for nothing else
func TestSpoilt(t *testing.T) {
	ways := map[int][]int{ // of each page the blocks whose way goes by it
		60: {0, 5, 10, 11, 19, 20, 29, 30, 4095}, 50: {0, 5, 10, 11, 19}, 51: {20, 29, 30, 4095},
		40: {0, 5}, 41: {10, 11, 19}, 42: {20, 29}, 43: {30, 4095},
	}
	cuts := map[int][]int{ // and the blocks from which on a Cut comes to it
		60: {0, 5, 11, 13, 20, 21, 22, 30, 31, 4096}, 50: {0, 5, 11, 13, 20, 21}, 51: {0, 5, 11, 13, 20, 21, 22, 30, 31, 4096},
		40: {0, 5, 11}, 41: {0, 5, 11, 13}, 42: {0, 5, 11, 13, 20, 21, 22}, 43: {0, 5, 11, 13, 20, 21, 22, 30, 31, 4096},
	}
	for page, blocks := range ways {
		b, m := laid(t, 91, small())
		sound := m.raw[page]
		for i, p := range m.spoilt(page) {
			if p == sound {
				t.Fatal(page, i)
			}
			ok(t, b.s.Update(b.t, page, 0, p[:]))
			b.commit(t)
			for _, do := range []call{all(60), pages(60), count(60)} {
				b.keeps(t, b.t, do, api.ErrBytes)
			}
			for _, block := range ways[60] {
				for _, do := range []call{find(60, block), put(0, 60, block, 80)} {
					want := api.OK
					if slices.Contains(blocks, block) {
						b.keeps(t, b.t, do, api.ErrBytes)
						b.keeps(t, 99, do, api.ErrBytes)
						want = api.ErrBytes
					}
					if _, e := do(b.s, b.t); e != want && e != api.ErrState {
						t.Fatal(page, i, block, e)
					}
				}
				ok(t, b.s.Rollback(b.t))
				b.begin(t)
			}
			for _, block := range cuts[60] {
				want := api.OK
				if slices.Contains(cuts[page], block) {
					want = api.ErrBytes
				}
				if got, e := cut(60, block)(b.s, b.t); e != want || e != api.OK && !reflect.ValueOf(got).IsZero() {
					t.Fatal(page, i, block, got, e)
				}
				ok(t, b.s.Rollback(b.t))
				b.begin(t)
			}
		}
	}
}

// P13.1 to P13.4: a page that is sound, but of another level than it is to be
func TestOtherLevel(t *testing.T) {
	for page, block := range map[int]int{40: 0, 41: 10, 42: 20, 43: 30, 50: 0, 51: 20} {
		for level := range 3 {
			other := leaf(page, api.Extent{Block: 1, Count: 1, Sector: 70})
			if level > 0 {
				other = above(page, level, []int{1}, leaf(40))
			}
			if level == 0 && page < 50 || level == 1 && page >= 50 {
				continue
			}
			b, m := laid(t, 91, small())
			m.draw(other)
			b.lay(t, m)
			for _, do := range []call{all(60), pages(60), count(60), find(60, block), put(0, 60, block, 80)} {
				b.keeps(t, b.t, do, api.ErrBytes)
			}
			refused(t, b.s, b.t, cut(60, 0), api.ErrBytes)
		}
	}
}

// puts says that a block is put, and does so in the land.
func (b *bench) puts(t *testing.T, m *land, root *page, g, block, sector int) *page {
	t.Helper()
	was := number(root)
	root = m.puts(root, g, block, sector)
	b.tells(t, put(g, was, block, sector), root.at)
	b.tells(t, find(root.at, block), sector)
	return root
}

// cuts says that blocks are cut, and does so in the land.
func (b *bench) cuts(t *testing.T, m *land, root *page, block int) *page {
	t.Helper()
	was := number(root)
	root, gone := m.cuts(root, block)
	b.tells(t, cut(was, block), rest{number(root), gone})
	return root
}

// takes says which block is taken.
func (b *bench) takes(t *testing.T, g, want int) {
	t.Helper()
	if got, e := bitmap.TakeBlock(b.s, b.t, g); got != want || e != api.OK {
		t.Fatal(got, e, want)
	}
}

// P13.2: what a block joins, in a leaf
func TestPutJoins(t *testing.T) {
	x := func(block, count, sector int) api.Extent {
		return api.Extent{Block: block, Count: count, Sector: sector}
	}
	for i, c := range []struct {
		l             []api.Extent
		block, sector int
		want          []api.Extent
	}{
		{[]api.Extent{x(5, 2, 30)}, 7, 32, []api.Extent{x(5, 3, 30)}},
		{[]api.Extent{x(5, 2, 30)}, 4, 29, []api.Extent{x(4, 3, 29)}},
		{[]api.Extent{x(5, 2, 30), x(8, 3, 33)}, 7, 32, []api.Extent{x(5, 6, 30)}},
		{[]api.Extent{x(5, 2, 30), x(8, 3, 34)}, 7, 32, []api.Extent{x(5, 3, 30), x(8, 3, 34)}},
		{[]api.Extent{x(5, 2, 30), x(8, 3, 33)}, 7, 40, []api.Extent{x(5, 2, 30), x(7, 1, 40), x(8, 3, 33)}},
		{[]api.Extent{x(5, 2, 30), x(8, 3, 41)}, 7, 40, []api.Extent{x(5, 2, 30), x(7, 4, 40)}},
		{[]api.Extent{x(5, 2, 30)}, 7, 31, []api.Extent{x(5, 2, 30), x(7, 1, 31)}},
		{[]api.Extent{x(5, 2, 30)}, 7, 33, []api.Extent{x(5, 2, 30), x(7, 1, 33)}},
		{[]api.Extent{x(5, 2, 30)}, 8, 32, []api.Extent{x(5, 2, 30), x(8, 1, 32)}},
		{[]api.Extent{x(5, 2, 30)}, 4, 30, []api.Extent{x(4, 1, 30), x(5, 2, 30)}},
		{[]api.Extent{x(5, 2, 30)}, 3, 29, []api.Extent{x(3, 1, 29), x(5, 2, 30)}},
		{[]api.Extent{x(5, 2, 30)}, 3, 28, []api.Extent{x(3, 1, 28), x(5, 2, 30)}},
		{[]api.Extent{x(5, 1, 82)}, 6, 83 + 5, []api.Extent{x(5, 1, 82), x(6, 1, 88)}}, // the next block, of another group
		{[]api.Extent{x(5, 1, 88)}, 4, 82, []api.Extent{x(4, 1, 82), x(5, 1, 88)}},
		{[]api.Extent{x(4, 1, 29), x(5, 2, 30), x(9, 1, 33), x(10, 1, 34)}, 7, 32, []api.Extent{x(4, 1, 29), x(5, 3, 30), x(9, 1, 33), x(10, 1, 34)}}, // the others stay apart
		{[]api.Extent{x(0, 1, 24)}, 4095, 90, []api.Extent{x(0, 1, 24), x(4095, 1, 90)}},
		{[]api.Extent{x(4094, 1, 24)}, 4095, 25, []api.Extent{x(4094, 2, 24)}},
		{[]api.Extent{x(1, 1, 25)}, 0, 24, []api.Extent{x(0, 2, 24)}},
	} {
		b, m := laid(t, 91, leaf(60, c.l...))
		root := b.puts(t, m, leaf(60, c.l...), 0, c.block, c.sector)
		if !slices.Equal(root.l, c.want) {
			t.Error(i, root.l)
		}
		b.has(t, root)
		b.finds(t, root)
		b.is(t, m)
	}
}

// P13.2: nothing joins what is in another leaf
func TestPutApart(t *testing.T) {
	b, m := laid(t, 91, small())
	root := b.puts(t, m, small(), 0, 9, 70)
	root = b.puts(t, m, root, 1, 10, 71)
	root = b.puts(t, m, root, 0, 20, 74)
	root = b.puts(t, m, root, 0, 19, 73)
	b.has(t, root)
	b.is(t, m)
	if l, _ := under(root); len(l) != 8 {
		t.Error(l)
	}
}

// P13.2: each block that has an extent is refused, ahead of a transaction that there is not
func TestPutTwice(t *testing.T) {
	b, m := laid(t, 91, small())
	for _, block := range []int{1, 2, 11, 12, 21, 22, 31, 32} {
		b.keeps(t, b.t, put(0, 60, block, 80), api.ErrState)
		b.keeps(t, 99, put(1, 60, block, 30), api.ErrState)
	}
	b.keeps(t, 99, put(0, 60, 3, 80), api.ErrNone)
	b.keeps(t, 99, put(0, 0, 3, 80), api.ErrNone)
	b.is(t, m)
}

// P13.2: a tree grows, page by page: rising, falling, from both ends, from within; each new page from a group on
func TestPutGrows(t *testing.T) {
	for way := range 4 {
		b, m := made(t, 1400), start(1400)
		var root *page
		sectors := m.blocks()
		for i := range 950 {
			block := []int{2 * i, 4095 - 3*i, 2*i*(1-i%2*2) + i%2*4095, i * 1003 % 4001}[way]
			sector := sectors[(i*7)%len(sectors)]
			root = b.puts(t, m, root, i%len(m.first), block, sector)
			b.commit(t)
			if i%19 == 0 || i > 940 {
				b.is(t, m)
				b.has(t, root)
			}
		}
		b.finds(t, root)
		if root.level != 2 {
			t.Error(way, root.level)
		}
	}
}

// P13.2: the first split, byte by byte
func TestPutSplit(t *testing.T) {
	b := made(t, 91)
	var first, other, above api.Page
	first[1], other[1], above[0], above[1] = 15, 16, 1, 2
	root := 0
	for i := range 31 {
		if i < 15 {
			copy(first[8+8*i:], []byte{byte(2 * i), 0, 1, 0, 70})
		} else {
			copy(other[8+8*(i-15):], []byte{byte(2 * i), 0, 1, 0, 70})
		}
		n, e := extent.Put(b.s, b.t, 0, root, 2*i, 70)
		ok(t, e)
		root = n
		b.commit(t)
	}
	copy(above[8:], []byte{0, 0, 0, 0, 24, 0, 0, 0, 30, 0, 0, 0, 25})
	b.tells(t, pages(26), []int{26, 24, 25})
	for sector, want := range map[int]api.Page{24: first, 25: other, 26: above} {
		if p, e := b.s.Read(sector); p != want || e != api.OK || root != 26 {
			t.Error(root, sector, p, e)
		}
	}
}

// bushy is a tree of level 2 whose pages on the way to the block 4095 have so many entries; its sectors are blocks of a disk of 600, from 78+5 on.
func bushy(root, middle, last int) *page {
	var l []api.Extent
	for i := range last {
		l = append(l, api.Extent{Block: 4000 + 2*i, Count: 1, Sector: 90})
	}
	m := above(85, 1, nil)
	for i := range middle {
		m.from = append(m.from, 3900+i)
		m.below = append(m.below, leaf(84, api.Extent{Block: 4000, Count: 1, Sector: 90}))
	}
	m.below[middle-1] = leaf(86, l...)
	r := above(87, 2, nil)
	for i := range root {
		r.from = append(r.from, i)
		r.below = append(r.below, above(88, 1, []int{0}, leaf(89, api.Extent{Count: 1, Sector: 90})))
	}
	r.below[root-1] = m
	return r
}

// P13.2: splits of a leaf, of what is above it, and of a root, but not of one of the level 2
func TestPutLevels(t *testing.T) {
	for _, many := range [][3]int{{29, 30, 30}, {30, 29, 30}, {30, 30, 29}, {1, 30, 30}, {30, 1, 30}, {30, 30, 30}} {
		root := bushy(many[0], many[1], many[2])
		b, m := laid(t, 600, root)
		if many == [3]int{30, 30, 30} {
			for g := range m.first {
				refused(t, b.s, b.t, put(g, root.at, 4095, 90), api.ErrFull)
				ok(t, b.s.Rollback(b.t))
				b.begin(t)
				b.is(t, m)
				b.keeps(t, 99, put(g, root.at, 4095, 90), api.ErrNone)
			}
			continue
		}
		b.puts(t, m, root, 1, 4095, 90)
		b.is(t, m)
	}
}

// P13.2: a page above that would not rise may not be
func TestPutMisfit(t *testing.T) {
	for _, from := range [][]int{{1000}, {10, 20}, {0, 5}, {0, 28}} {
		l := []api.Extent{}
		for i := range 30 {
			l = append(l, api.Extent{Block: 2 * i, Count: 1, Sector: 70})
		}
		root := above(60, 1, from, leaf(61, l...), leaf(62, api.Extent{Block: 4095, Count: 1, Sector: 70}))
		root.below = root.below[:len(from)]
		b, m := laid(t, 91, root)
		refused(t, b.s, b.t, put(0, 60, 1, 80), api.ErrBytes)
		ok(t, b.s.Rollback(b.t))
		b.begin(t)
		b.is(t, m)
	}
}

// P13.2: too few blocks are free for the pages that are new
func TestPutNoBlocks(t *testing.T) {
	for _, c := range []struct {
		root *page
		new  int
	}{
		{nil, 1},
		{leaf(86, api.Extent{Block: 0, Count: 1, Sector: 90}), 0},
		{bushy(1, 1, 30).below[0].below[0], 2},
		{bushy(1, 30, 30).below[0], 3},
		{bushy(1, 29, 30), 1},
		{bushy(1, 30, 30), 2},
	} {
		for free := range c.new + 1 {
			m := start(600)
			if c.root != nil {
				m.drawn(c.root)
			}
			for i, sector := range m.blocks() {
				if i < 300 || i >= 300+free {
					m.used[sector] = true
				}
			}
			b := noughts(t, 600, false)
			b.lay(t, m)
			if free < c.new {
				refused(t, b.s, b.t, put(0, number(c.root), 4095, 90), api.ErrFull)
				ok(t, b.s.Rollback(b.t))
				b.begin(t)
			} else {
				b.puts(t, m, c.root, 0, 4095, 90)
			}
			b.is(t, m)
		}
	}
}

// grown is a tree that blocks were put in, every so many of them, in sectors that are used.
func grown(t *testing.T, sectors, many, every int) (*bench, *land, *page) {
	t.Helper()
	b, m := noughts(t, sectors, false), start(sectors)
	var root *page
	free := m.blocks()
	for i := range many {
		sector := free[len(free)-1-(i^1)] // each two in falling order
		m.used[sector] = true
		root = m.puts(root, 0, i*every, sector)
	}
	b.lay(t, m)
	return b, m, root
}

// copied is a tree that goes on apart.
func (p *page) copied() *page {
	if p == nil {
		return nil
	}
	q := &page{p.at, p.level, slices.Clone(p.l), slices.Clone(p.from), nil}
	for _, x := range p.below {
		q.below = append(q.below, x.copied())
	}
	return q
}

// copied is a land that goes on apart.
func (m *land) copied() *land {
	n := *m
	n.used, n.raw = maps.Clone(m.used), maps.Clone(m.raw)
	return &n
}

// P13.3: from each block on, of trees of all levels
func TestCut(t *testing.T) {
	for _, c := range [][3]int{{91, 9, 2}, {200, 31, 3}, {91, 30, 1}, {1400, 47, 2}, {1400, 200, 1}, {1400, 200, 2}} {
		b, was, tree := grown(t, c[0], c[1], c[2])
		for block := 0; block <= c[1]*c[2]+1; block += 1 + c[1]/40 {
			m, root := was.copied(), b.cuts(t, was.copied(), tree.copied(), block)
			b.has(t, root)
			gone, _ := m.cuts(tree.copied(), block)
			if number(gone) != number(root) {
				t.Error(number(gone), number(root))
			}
			b.is(t, m)
			ok(t, b.s.Rollback(b.t))
			b.begin(t)
			b.is(t, was)
		}
		m := was.copied()
		for block := c[1] * c[2]; block >= 0; block -= 7 * c[2] {
			tree = b.cuts(t, m, tree, block)
			b.commit(t)
			b.is(t, m)
			b.finds(t, tree)
		}
		tree = b.cuts(t, m, tree, 0)
		b.has(t, tree)
		if tree != nil || len(m.used) != 0 {
			t.Error(tree, m.used)
		}
		b.is(t, m)
	}
}

// P13.3: extents are cut within
func TestCutWithin(t *testing.T) {
	x := func(block, count, sector int) api.Extent {
		return api.Extent{Block: block, Count: count, Sector: sector}
	}
	tree := leaf(60, x(0, 3, 30), x(5, 1, 40), x(6, 4, 45), x(4090, 6, 24))
	for block, want := range map[int]rest{
		0:    {0, []int{30, 31, 32, 40, 45, 46, 47, 48, 24, 25, 26, 27, 28, 29}},
		1:    {60, []int{31, 32, 40, 45, 46, 47, 48, 24, 25, 26, 27, 28, 29}},
		3:    {60, []int{40, 45, 46, 47, 48, 24, 25, 26, 27, 28, 29}},
		9:    {60, []int{48, 24, 25, 26, 27, 28, 29}},
		10:   {60, []int{24, 25, 26, 27, 28, 29}},
		4095: {60, []int{29}},
		4096: {60, nil},
	} {
		b, m := laid(t, 91, tree)
		b.tells(t, cut(60, block), want)
		root, gone := m.cuts(tree.copied(), block)
		b.has(t, root)
		b.is(t, m)
		if !slices.Equal(gone, want.gone) {
			t.Error(gone)
		}
	}
}

// P13.3: what is ahead of the way stays, whatever blocks it has; what leads to it, too
func TestCutAhead(t *testing.T) {
	x := func(block, sector int) api.Extent { return api.Extent{Block: block, Count: 1, Sector: sector} }
	root := above(60, 1, []int{10, 20, 30}, leaf(40, x(3, 30), x(25, 31)), leaf(41, x(2, 50), x(22, 51)), leaf(42, x(19, 52), x(40, 53)))
	for _, c := range []struct {
		block int
		gone  []int
	}{
		{0, []int{30, 31, 50, 51, 52, 53}},
		{3, []int{30, 31, 51, 52, 53}},
		{9, []int{31, 51, 52, 53}},
		{10, []int{31, 51, 52, 53}},
		{19, []int{31, 51, 52, 53}},
		{20, []int{51, 53}},
		{29, []int{53}},
		{30, []int{53}},
		{40, []int{53}},
		{41, nil},
	} {
		b, m := laid(t, 91, root)
		tree, gone := m.cuts(root.copied(), c.block)
		b.tells(t, cut(60, c.block), rest{number(tree), c.gone})
		b.has(t, tree)
		b.is(t, m)
		if !slices.Equal(gone, c.gone) {
			t.Error(c.block, gone)
		}
	}
}

// P13.3: a root that leads to one page alone is let go, whatever that one's level is, and however deep that goes on; also where nothing else is cut
func TestCutShrinks(t *testing.T) {
	x := func(block, sector int) api.Extent { return api.Extent{Block: block, Count: 1, Sector: sector} }
	last := leaf(41, x(20, 50))
	low := leaf(42, x(1, 30))
	for i, c := range []struct {
		left, want *page
	}{
		{low, low},
		{above(44, 1, []int{0}, low), low},
		{above(44, 2, []int{0}, low), low},
		{above(44, 1, []int{0}, above(45, 2, []int{7}, above(46, 1, []int{0}, low))), low},
		{above(44, 2, []int{0, 9}, low, leaf(43, x(9, 31))), above(44, 2, []int{0, 9}, low, leaf(43, x(9, 31)))},
		{above(45, 1, []int{0}, above(44, 2, []int{0, 9}, low, low)), above(44, 2, []int{0, 9}, low, low)},
	} {
		for _, level := range []int{1, 2} {
			tail := last
			if level == 2 {
				tail = above(47, 1, []int{20}, last)
			}
			root := above(60, level, []int{0, 20}, c.left, tail)
			b, m := laid(t, 91, root)
			tree := b.cuts(t, m, root.copied(), 20)
			if number(tree) != c.want.at {
				t.Error(i, level, tree)
			}
			b.is(t, m)
		}
	}
	chain := above(60, 2, []int{0}, above(44, 1, []int{5}, low))
	b, m := laid(t, 91, chain)
	b.keeps(t, 99, cut(60, 4096), api.ErrNone)
	b.cuts(t, m, chain, 4096)
	b.is(t, m)
	b.tells(t, cut(42, 4096), rest{42, nil})
}

// P13.3: what is left of a root may not be, or leads round
func TestCutShrinksBad(t *testing.T) {
	tail := leaf(41, api.Extent{Block: 20, Count: 1, Sector: 50})
	for want, left := range map[api.Errno]*page{
		api.ErrBytes: leaf(42, api.Extent{Block: 5, Count: 1, Sector: 19}),
		api.ErrState: above(42, 1, []int{0}, leaf(42)),
	} {
		root := above(60, 1, []int{0, 20}, left, tail)
		b, m := laid(t, 91, root)
		m.draw(left)
		b.lay(t, m)
		refused(t, b.s, b.t, cut(60, 20), want)
		ok(t, b.s.Rollback(b.t))
		b.begin(t)
		b.is(t, m)
	}
	root := above(60, 1, []int{0, 20}, leaf(60), tail) // leads to itself
	b, m := laid(t, 91, tail)
	m.used[60] = true
	m.draw(root)
	b.lay(t, m)
	refused(t, b.s, b.t, cut(60, 20), api.ErrState)
	ok(t, b.s.Rollback(b.t))
	b.is(t, m)
}

// P13.3: sectors and pages that are free already
func TestCutFree(t *testing.T) {
	for _, free := range []int{30, 31, 32, 33, 34, 35, 36, 37, 40, 41, 42, 43, 50, 51, 60} {
		b, m := laid(t, 91, small())
		delete(m.used, free)
		b.lay(t, m)
		refused(t, b.s, b.t, cut(60, 0), api.ErrState)
		ok(t, b.s.Rollback(b.t))
		b.begin(t)
		b.is(t, m)
		if free != 37 { // where it is not let go
			b.tells(t, cut(60, 32), rest{60, []int{37}})
		}
	}
}

// P13.3: where nothing is changed no transaction is asked for, and nothing is noted
func TestCutNothing(t *testing.T) {
	b, m := laid(t, 91, small())
	was := b.look()
	for _, n := range []uint64{b.t, 0, 99, math.MaxUint64} {
		for _, c := range []struct{ root, block int }{{0, 0}, {0, 4096}, {60, 33}, {60, 4096}, {40, 3}, {50, 13}} {
			got, e := cut(c.root, c.block)(b.s, n)
			if want := (rest{c.root, nil}); !reflect.DeepEqual(got, want) || e != api.OK {
				t.Error(n, c, got, e)
			}
		}
		for _, c := range []struct{ root, block int }{{60, 0}, {60, 32}, {40, 2}, {40, 0}} {
			if n != b.t {
				b.keeps(t, n, cut(c.root, c.block), api.ErrNone)
			}
		}
	}
	if now := b.look(); now.end != was.end || now.free != was.free {
		t.Error("noted", was, now)
	}
	b.is(t, m)
}

// sound are calls of the tree small.
func sound() []call {
	return []call{find(60, 11), put(1, 60, 10, 80), put(0, 60, 3, 80), put(0, 0, 3, 80), cut(60, 0), cut(60, 12), cut(60, 32), all(60), pages(60), count(60)}
}

func TestNil(t *testing.T) {
	for _, s := range []*txn.Store{nil, {}} {
		for _, do := range append(sound(), find(-1, -1), find(0, 0), put(-1, -1, -1, -1), cut(-1, -1), cut(0, 0), all(-1), all(0), pages(-1), pages(0), count(-1), count(0)) {
			refused(t, s, 1, do, api.ErrNil)
		}
	}
}

// P13.1 to P13.4: what may not be, ahead of all that the store tells
func TestWrong(t *testing.T) {
	no := []int{math.MinInt, -1, 1, 18, 19, 23, 83, 87, 91, 92, 4096, 1 << 32, 1<<32 + 60, math.MaxInt}
	blocks := []int{math.MinInt, -1, 4096, 4097, 1 << 16, 1 << 32, math.MaxInt}
	var l []call
	for _, x := range no {
		l = append(l, find(x, 1), put(0, x, 10, 80), cut(x, 0), cut(x, 4096), all(x), pages(x), count(x), put(0, 60, 10, x), put(0, 0, 10, x))
	}
	l = append(l, put(0, 60, 10, 0))
	for _, x := range blocks {
		l = append(l, find(60, x), find(0, x), put(0, 60, x, 80), put(0, 0, x, 80))
		if x != 4096 {
			l = append(l, cut(60, x), cut(0, x))
		}
	}
	for _, g := range []int{math.MinInt, -1, 2, 3, 1 << 32, math.MaxInt} {
		l = append(l, put(g, 60, 10, 80), put(g, 0, 10, 80), put(g, 60, 1, 80))
	}
	b, _ := laid(t, 91, small())
	bad, m := laid(t, 91, small())
	m.raw[60] = api.Page{}
	bad.lay(t, m)
	for range 2 {
		for _, do := range l {
			b.refuses(t, b.t, do, api.ErrArg)
			b.refuses(t, 99, do, api.ErrArg)
			bad.refuses(t, bad.t, do, api.ErrArg)
		}
		b.gone(t)
	}
}

// P13.2, P13.3: transactions that there are not
func TestNone(t *testing.T) {
	b, m := laid(t, 91, small())
	calls := []call{put(1, 60, 10, 80), put(0, 60, 3, 80), put(0, 0, 3, 80), cut(60, 0), cut(60, 12), cut(60, 32)}
	for _, n := range []uint64{0, b.t - 1, b.t + 1, math.MaxUint64} {
		for _, do := range calls {
			b.keeps(t, n, do, api.ErrNone)
		}
	}
	b.is(t, m)
	for _, do := range []call{find(60, 11), all(60), pages(60), count(60)} {
		if _, e := do(b.s, 99); e != api.OK {
			t.Error(e)
		}
	}
}

// P13.1 to P13.4: without power
func TestDead(t *testing.T) {
	for _, inMemory := range []bool{false, true} {
		b, _ := laid(t, 91, small())
		if inMemory {
			b.has(t, small())
		}
		b.gone(t)
		for _, do := range append(sound(), put(0, 60, 11, 80)) {
			b.refuses(t, b.t, do, api.ErrDead)
		}
		b.refuses(t, 99, put(0, 0, 3, 80), api.ErrNone)
	}
}

// fill lets all frames have these pages, all of them dirty, but the bytes as the land says.
func (b *bench) fill(t *testing.T, m *land, pages ...int) {
	t.Helper()
	slices.Sort(pages)
	b.crowd(t, pages...)
	for _, page := range pages {
		p := m.raw[page]
		if page == m.first[0] {
			p = m.page(0, 0)
		}
		ok(t, b.s.Update(b.t, page, 0, p[:]))
	}
}

// P13.1 to P13.4: the power goes as room for a page is made, the first one of the tree or one further down, or a bitmap
func TestDies(t *testing.T) {
	others := []int{70, 71, 72, 73, 74, 75, 76, 77}
	for _, c := range []struct {
		in []int // the pages in memory
		l  []call
	}{
		{nil, append(sound(), put(0, 60, 11, 80))},
		{[]int{60}, append(sound(), put(0, 60, 11, 80))},
		{[]int{60, 50, 51}, append(sound(), put(0, 60, 11, 80))},
		{[]int{60, 50, 51, 40, 41, 42}, []call{all(60), pages(60), count(60), find(60, 31), cut(60, 0), cut(60, 30)}},
		{[]int{60, 50, 51, 40, 41, 42, 43}, []call{cut(60, 0), cut(60, 32)}},
	} {
		for i, do := range c.l {
			b, m := laid(t, 91, small())
			b.fill(t, m, append(slices.Clone(c.in), others[len(c.in):]...)...)
			b.d.Fuse(0)
			refused(t, b.s, b.t, do, api.ErrDead)
			if !b.d.Dead() {
				t.Error("nothing was to be written", c.in, i)
			}
		}
	}
}

// P13.2, P13.3: the log's room does not do, wherever that is; held, no room is made
func TestLogFull(t *testing.T) {
	for _, held := range []bool{false, true} {
		m := start(600)
		tree := bushy(29, 30, 30)
		m.drawn(tree)
		m.used[90] = true
		b := noughts(t, 600, held)
		for _, page := range []int{78, 84, 85, 86, 87, 88, 89} {
			p := m.page(0, page-78)
			ok(t, b.s.Update(b.t, page, 0, p[:]))
		}
		for g, first := range m.first {
			p := m.page(g, 0)
			ok(t, b.s.Update(b.t, first, 0, p[:]))
		}
		b.commit(t)
		for _, do := range []call{put(0, tree.at, 4095, 91), put(0, 0, 5, 91), put(0, 86, 4095, 91), cut(86, 4095), cut(86, 4058), cut(89, 0)} {
			for short := 0; ; short += 11 {
				kept := b.l.Free() - short
				ok(t, b.l.Reserve(kept))
				_, e := do(b.s, b.t)
				b.l.Release(kept)
				ok(t, b.s.Rollback(b.t))
				b.begin(t)
				b.is(t, m)
				if !held {
					ok(t, b.s.Room())
				}
				if e == api.OK {
					break
				}
				if e != api.ErrFull {
					t.Fatal(short, e)
				}
				if held && b.l.Free() < 6000 {
					break
				}
			}
		}
	}
}

// P13.2, P13.3, and that all is done in the transaction: changed back, all is as it was; committed, it lasts
func TestTransaction(t *testing.T) {
	d, _ := disk.New(600)
	su, _ := super.Make(600)
	ok(t, restart.Make(d, su))
	open := func() *bench {
		t.Helper()
		s, _, e := restart.Find(d, 8)
		ok(t, e, restart.Settle(s))
		b := &bench{d: d, l: s.Log(), p: s.Pool(), s: s}
		b.begin(t)
		return b
	}
	b, m := open(), start(600)
	tree := bushy(29, 30, 30)
	m.drawn(tree)
	m.used[90] = true
	b.lay(t, m)
	several := func(m *land, tree *page) *page {
		t.Helper()
		tree = b.puts(t, m, tree, 2, 4095, 100)
		m.used[100] = true
		taken, e := bitmap.TakeBlock(b.s, b.t, 0)
		ok(t, e)
		for taken != 100 {
			taken, e = bitmap.TakeBlock(b.s, b.t, 0)
			ok(t, e)
			m.used[taken] = true
		}
		tree = b.puts(t, m, tree, 1, 4093, 99)
		tree = b.cuts(t, m, tree, 4094)
		return b.puts(t, m, tree, 0, 4094, 98)
	}
	several(m.copied(), tree.copied())
	ok(t, b.s.Rollback(b.t))
	b.is(t, m)
	b.begin(t)
	several(m.copied(), tree.copied())
	ok(t, b.s.Sync())
	d = d.Crash(nil)
	b = open()
	b.is(t, m)
	b.has(t, tree)
	tree = several(m, tree)
	ok(t, b.s.Commit(b.t), b.s.Sync())
	d = d.Crash(nil)
	b = open()
	b.has(t, tree)
}
