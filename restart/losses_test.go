package restart_test

import (
	"math/rand"
	"slices"
	"testing"

	"hornbook/api"
	"hornbook/disk"
	"hornbook/restart"
	"hornbook/txn"
	"hornbook/wal"
)

const slots = 4 // transactions that are on their way at once, each with bytes of all pages that are its own

// run is a store to which something is done at random, and what its pages should be.
type run struct {
	r        *rand.Rand
	d        *disk.Disk
	s        *txn.Store
	ways     [slots]uint64
	now      []api.Page // as they are read
	states   [][]api.Page
	ends     []uint64 // of the states: where the log ended as they were committed
	followed int      // how many losers were rolled back
	again    int      // how often the power went while it was settled
}

// share copies the bytes of a slot from some pages to others.
func share(slot int, to, from []api.Page) []api.Page {
	to = slices.Clone(to)
	at := slot * (api.PageSize / slots)
	for i := range to {
		copy(to[i][at:at+api.PageSize/slots], from[i][at:])
	}
	return to
}

// begun is a run on a disk that was just settled.
func (x *run) begun(t *testing.T) {
	t.Helper()
	x.ways = [slots]uint64{}
	x.now = all(t, x.s)
	x.states = [][]api.Page{x.now}
	x.ends = []uint64{x.s.Log().End()}
}

func (x *run) newest() []api.Page { return x.states[len(x.states)-1] }

func (x *run) commit(slot int) api.Errno {
	was := x.s.Log().End()
	e := x.s.Commit(x.ways[slot])
	if e == api.OK && x.s.Log().End() > was {
		x.states = append(x.states, share(slot, x.newest(), x.now))
		x.ends = append(x.ends, x.s.Log().End())
	}
	if e == api.OK {
		x.ways[slot] = 0
	}
	return e
}

func (x *run) rollback(slot int) api.Errno {
	e := x.s.Rollback(x.ways[slot])
	if e == api.OK {
		x.now = share(slot, x.now, x.newest())
		x.ways[slot] = 0
	}
	return e
}

func (x *run) update(slot int) api.Errno {
	page := x.r.Intn(len(x.now))
	b := make([]byte, 1+x.r.Intn(api.PageSize/slots))
	for i := range b {
		b[i] = byte(x.r.Intn(3))
	}
	off := slot*(api.PageSize/slots) + x.r.Intn(api.PageSize/slots-len(b)+1)
	e := x.s.Update(x.ways[slot], firstOf+page, off, b)
	switch e {
	case api.OK:
		x.now = slices.Clone(x.now)
		copy(x.now[page][off:], b)
	case api.ErrFull:
		return x.rollback(slot)
	}
	return e
}

func (x *run) step(t *testing.T) api.Errno {
	t.Helper()
	slot := x.r.Intn(slots)
	if x.ways[slot] == 0 {
		n, e := x.s.Begin()
		ok(t, e)
		x.ways[slot] = n
	}
	switch n := x.r.Intn(100); {
	case n < 75:
		return x.update(slot)
	case n < 87:
		return x.commit(slot)
	case n < 91:
		return x.rollback(slot)
	case n < 97:
		return x.s.Sync()
	}
	return x.s.Room()
}

func (x *run) picks() []int {
	l := make([]int, 80)
	for i := range l {
		l[i] = x.r.Intn(8)
	}
	return l
}

// reached is where the log that stands on a disk ends.
func reached(t *testing.T, d *disk.Disk) uint64 {
	t.Helper()
	m, _ := restart.Masters(d)
	l, _, e := wal.Open(d.Copy(), layout(t, d.Sectors()), m.Tail, m.Epoch+1)
	ok(t, e)
	return l.End()
}

// lost takes the power away, and finds all again; while it is settled the power goes again and again.
func (x *run) lost(t *testing.T) {
	t.Helper()
	lasted := x.s.Log().Lasts()
	x.d = x.d.Crash(x.picks())
	end := reached(t, x.d)
	if end < lasted {
		t.Fatal("the log ends at", end, "but lasted up to", lasted)
	}
	behind, _ := slices.BinarySearch(x.ends, end+1)
	want := x.states[behind-1]
	for {
		var losers []uint64
		x.s, losers = found(t, x.d)
		if !slices.Equal(all(t, x.s), want) {
			t.Fatal("it is not what", behind, "commits of", len(x.states), "have made")
		}
		x.followed += len(losers)
		x.d.Fuse(x.r.Intn(50))
		if restart.Settle(x.s) == api.OK {
			x.d.Fuse(-1)
			break
		}
		x.again++
		x.d = x.d.Crash(x.picks())
	}
	x.begun(t)
}

// P9.4, P0.2, P0.3: whatever is done, and whenever the power goes, what is found is what a beginning of the commits has made, with all that lasted
func TestLosses(t *testing.T) {
	followed, again := 0, 0
	for seed := range int64(30) {
		x := &run{r: rand.New(rand.NewSource(seed))}
		x.d = made(t, 64+int(seed%2)*36)
		x.s, _ = found(t, x.d)
		ok(t, restart.Settle(x.s))
		x.begun(t)
		for range 25 {
			x.d.Fuse(x.r.Intn(120))
			for range 300 {
				e := x.step(t)
				if e == api.ErrDead {
					break
				}
				ok(t, e)
			}
			x.lost(t)
		}
		followed, again = followed+x.followed, again+x.again
	}
	if followed < 100 || again < 100 {
		t.Error("too little was tried:", followed, again)
	}
}
