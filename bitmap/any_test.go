package bitmap_test

import (
	"math/bits"
	"math/rand"
	"testing"

	"hornbook/api"
)

// round is the groups from one on, and behind the last one those ahead of it.
func (m *table) round(g int) []int {
	var l []int
	for k := range m.first {
		l = append(l, (g+k)%len(m.first))
	}
	return l
}

// takeBlock is what TakeBlock is to tell.
func (m *table) takeBlock(from int) (int, api.Errno) {
	for _, g := range m.round(from) {
		asked := uint64(1)<<m.size[g] - 32 // of 64 the shift leaves nought: all but the first five
		if at := bits.TrailingZeros64(^m.sectors[g] & asked); at < 64 {
			m.sectors[g] |= 1 << at
			return m.first[g] + at, api.OK
		}
	}
	return 0, api.ErrFull
}

// takeInode is what TakeInode is to tell.
func (m *table) takeInode(from int) (int, api.Errno) {
	for _, g := range m.round(from) {
		if i := bits.TrailingZeros16(^m.inodes[g]); i < 16 {
			m.inodes[g] |= 1 << i
			return 16*g + i + 1, api.OK
		}
	}
	return 0, api.ErrFull
}

// freeBlock is what FreeBlock is to tell.
func (m *table) freeBlock(g, at int) api.Errno {
	if m.sectors[g]>>at&1 == 0 {
		return api.ErrState
	}
	m.sectors[g] -= 1 << at
	return api.OK
}

// freeInode is what FreeInode is to tell.
func (m *table) freeInode(g, i int) api.Errno {
	if m.inodes[g]>>i&1 == 0 {
		return api.ErrState
	}
	m.inodes[g] -= 1 << i
	return api.OK
}

// copy is one that goes on apart.
func (m *table) copy() *table {
	c := *m
	c.sectors = append([]uint64{}, m.sectors...)
	c.inodes = append([]uint16{}, m.inodes...)
	return &c
}

// step does one thing to both; it says whether it changed something.
func (m *table) step(t *testing.T, r *rand.Rand, b *bench, takes int) bool {
	t.Helper()
	g := r.Intn(len(m.first))
	at, i := 5+r.Intn(m.size[g]-5), r.Intn(16)
	var want int
	var e api.Errno
	var do call
	switch inode, take := r.Intn(3) == 0, r.Intn(10) < takes; {
	case take && inode:
		want, e = m.takeInode(g)
		do = takeInode(g)
	case take:
		want, e = m.takeBlock(g)
		do = takeBlock(g)
	case inode:
		e = m.freeInode(g, i)
		do = freeInode(16*g + i + 1)
	default:
		e = m.freeBlock(g, at)
		do = freeBlock(m.first[g] + at)
	}
	if e != api.OK {
		b.keeps(t, b.t, do, e) // pages may go for the bitmap's, and be written
		return false
	}
	b.tells(t, do, want)
	return true
}

// P11.5: any calls, held against the table; now and then a transaction is changed back
func TestAny(t *testing.T) {
	for seed := range int64(24) {
		r := rand.New(rand.NewSource(seed))
		n := []int{64, 91, 92, 155, 200, 420}[r.Intn(6)]
		b, m := made(t, n), start(n)
		was, changes := m.copy(), 0
		for i := range 900 {
			if m.step(t, r, b, 2+i/150) { // ever fewer are free
				changes++
			}
			if i%100 == 0 {
				b.is(t, m)
			}
			if changes < 1+r.Intn(20) {
				continue
			}
			if r.Intn(3) == 0 {
				ok(t, b.s.Rollback(b.t))
				m = was.copy()
				b.begin(t)
				b.is(t, m)
			} else {
				b.commit(t)
			}
			was, changes = m.copy(), 0
		}
		b.is(t, m)
		blocks, inodes := 0, 0
		for g := range m.first {
			blocks += 64 - bits.OnesCount64(m.sectors[g])
			inodes += 16 - bits.OnesCount16(m.inodes[g])
		}
		b.tells(t, total(), [2]int{blocks, inodes})
	}
}

// P11.5: what is taken, and let go in any order, leaves all as it was
func TestTakenAndLetGo(t *testing.T) {
	for seed := range int64(12) {
		r := rand.New(rand.NewSource(seed))
		b, m := made(t, 200), start(200)
		for range 60 {
			m.step(t, r, b, 10)
			b.commit(t)
		}
		was := m.copy()
		var back []call
		for range 15 {
			g := r.Intn(3)
			block, _ := m.takeBlock(g)
			b.tells(t, takeBlock(g), block)
			inode, e := m.takeInode(g)
			if e != api.OK {
				t.Fatal(seed, e)
			}
			b.tells(t, takeInode(g), inode)
			b.tells(t, used(block), true)
			b.tells(t, has(inode), true)
			back = append(back, freeBlock(block), freeInode(inode))
			b.commit(t)
		}
		b.is(t, m)
		for _, i := range r.Perm(len(back)) {
			b.tells(t, back[i], 0)
			b.commit(t)
		}
		b.is(t, was)
	}
}
