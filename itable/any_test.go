package itable_test

import (
	"math/rand"
	"slices"
	"testing"

	"hornbook/api"
)

// copy is one that goes on apart.
func (m *table) copy() *table {
	c := *m
	c.used, c.raw = slices.Clone(m.used), slices.Clone(m.raw)
	return &c
}

// makes is what Make is to tell.
func (m *table) makes(g int, k api.InodeKind) (int, api.Errno) {
	for i := range m.used {
		at := (16*g + i) % len(m.used)
		if !m.used[at] {
			m.used[at], m.raw[at] = true, raw{byte(k)}
			return at + 1, api.OK
		}
	}
	return 0, api.ErrFull
}

// drop is what Drop is to tell.
func (m *table) drop(i int) api.Errno {
	if !m.used[i-1] {
		return api.ErrState
	}
	m.used[i-1], m.raw[i-1] = false, raw{}
	return api.OK
}

// any is an inode, of which some may not be.
func (m *table) any(r *rand.Rand) api.Inode {
	return api.Inode{
		Kind:  api.InodeKind([]int{1, 1, 1, 2, 2, 2, 0, 3}[r.Intn(8)]),
		Links: r.Intn(253),
		Size:  r.Int63n(1015830),
		Root:  m.first[0] + r.Intn(m.sectors-m.first[0]),
	}
}

// set is what Set is to tell.
func (m *table) set(i int, n api.Inode) api.Errno {
	if !m.may(n) {
		return api.ErrArg
	}
	m.raw[i-1] = laid(n)
	return api.OK
}

// all is what All is to go over.
func (m *table) all() []told {
	var l []told
	for k, is := range m.used {
		if !is {
			continue
		}
		n, e := m.of(m.raw[k])
		if e != api.OK {
			break
		}
		l = append(l, told{k + 1, n})
	}
	return l
}

// step does one thing to both; it says whether it changed something.
func (m *table) step(t *testing.T, r *rand.Rand, b *bench, made int) bool {
	t.Helper()
	i, g := 1+r.Intn(len(m.used)), r.Intn(len(m.first))
	var do call
	var want int
	var e api.Errno
	switch x := r.Intn(12); {
	case x < 3:
		n, e := m.of(m.raw[i-1])
		if e != api.OK {
			b.keeps(t, b.t, get(i), e)
		} else {
			b.tells(t, get(i), n)
		}
		return false
	case x < 6:
		n := m.any(r)
		e, do = m.set(i, n), set(i, n)
	case r.Intn(10) < made:
		k := api.InodeKind(1 + r.Intn(2))
		want, e = m.makes(g, k)
		do = makes(g, k)
	default:
		e, do = m.drop(i), drop(i)
	}
	if e != api.OK {
		b.keeps(t, b.t, do, e)
		return false
	}
	b.tells(t, do, want)
	return true
}

// P12.4: any calls, held against the table, with some inodes spoilt at first; now and then a transaction is changed back
func TestAny(t *testing.T) {
	for seed := range int64(24) {
		r := rand.New(rand.NewSource(seed))
		n := []int{64, 91, 92, 155, 200, 420}[r.Intn(6)]
		b, m := noughts(t, n, false), start(n)
		for range r.Intn(4) {
			m.raw[r.Intn(len(m.raw))] = spoilt()
		}
		b.lay(t, m)
		was, changes := m.copy(), 0
		for i := range 900 {
			if m.step(t, r, b, 4+i/150) { // ever fewer are free
				changes++
			}
			if i%60 == 0 {
				b.is(t, m)
				b.goes(t, m.all()...)
			}
			if changes < 1+r.Intn(12) {
				continue
			}
			if r.Intn(3) == 0 {
				ok(t, b.s.Rollback(b.t))
				m = was.copy()
				b.begin(t)
				b.is(t, m)
			} else {
				b.commit(t)
			}
			was, changes = m.copy(), 0
		}
		b.is(t, m)
		b.goes(t, m.all()...)
	}
}
