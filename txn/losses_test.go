package txn_test

import (
	"encoding/binary"
	"maps"
	"math/rand"
	"slices"
	"testing"

	"hornbook/api"
	"hornbook/disk"
	"hornbook/record"
	"hornbook/super"
	"hornbook/wal"
)

// newer is the newer master of a disk; of one that never had one, the first.
func newer(d *disk.Disk) api.Master {
	m := api.Master{Epoch: 1}
	for i := 1; i <= 2; i++ {
		s, _ := d.Read(i)
		if x, e := super.MasterOf(s); e == api.OK && 2-int(x.Seq%2) == i && super.Newer(x, m) {
			m = x
		}
	}
	return m
}

// losers are the records of those that did not end, each one's in order, and the numbers, the one whose last record stands last first.
func losers(all []api.Logged) (map[uint64][]api.Logged, []uint64) {
	of := map[uint64][]api.Logged{}
	for _, x := range all {
		of[x.Rec.Txn] = append(of[x.Rec.Txn], x)
		if x.Rec.Kind == api.RecCommit || x.Rec.Kind == api.RecEnd {
			delete(of, x.Rec.Txn)
		}
	}
	last := func(n uint64) uint64 { return of[n][len(of[n])-1].End }
	return of, slices.SortedFunc(maps.Keys(of), func(a, b uint64) int { return int(last(b)) - int(last(a)) })
}

// found is a store on a disk behind a loss of power, as layer 9's chapter tells it; it isn't settled.
func found(t *testing.T, d *disk.Disk) *bench {
	t.Helper()
	m := newer(d)
	m.Epoch++
	b, all := laid(t, d, m, 8, true)
	for _, x := range all {
		p, lsn, _ := b.p.Get(x.Rec.Page)
		if now, changes := record.Redo(x.Rec, p); changes && x.End > lsn {
			ok(t, b.p.Put(x.Rec.Page, 0, now[:], x.LSN, x.End))
		}
	}
	of, order := losers(all)
	for _, n := range order {
		ok(t, b.s.Adopt(n, of[n]))
	}
	for _, n := range order {
		ok(t, b.s.Rollback(n))
	}
	return b
}

// reckoned are the pages behind a loss of power, by another way: what is on the disk, and in the log, and no store.
func reckoned(t *testing.T, d *disk.Disk) map[int]api.Page {
	t.Helper()
	m := newer(d)
	su, _ := super.Make(d.Sectors())
	_, all, e := wal.Open(d.Copy(), su, m.Tail, m.Epoch+1)
	ok(t, e)
	pages := map[int]api.Page{}
	first, _, _ := super.Group(su, 0)
	for i := first; i < d.Sectors(); i++ {
		s, _ := d.Read(i)
		p := api.Page(s[8:])
		for _, x := range all {
			if x.Rec.Page == i && x.End > binary.LittleEndian.Uint64(s[:]) {
				copy(p[x.Rec.Off:], x.Rec.After)
			}
		}
		pages[i] = p
	}
	of, _ := losers(all)
	for _, l := range of { // none changes what another one does
		at := l[len(l)-1].End
		for _, x := range slices.Backward(l) {
			switch {
			case x.End != at:
			case x.Rec.Kind == api.RecBack:
				at = x.Rec.Next
			default:
				p := pages[x.Rec.Page]
				copy(p[x.Rec.Off:], x.Rec.Before)
				pages[x.Rec.Page] = p
				at = x.Rec.Prev
			}
		}
	}
	return pages
}

const slots = 4 // transactions that are on their way at once, each with bytes of all pages that are its own

// run is a store to which something is done at random, and what its pages should be.
type run struct {
	b      *bench
	r      *rand.Rand
	ways   [slots]uint64
	now    map[int]api.Page // as they are read
	states []map[int]api.Page
	ends   []uint64 // of the states: where their commits end in the log
	lasts  int      // the state up to which all must be found again
}

// committed notes what the pages are without what is on its way.
func (x *run) committed(slot int) {
	state := maps.Clone(x.states[len(x.states)-1])
	for i, p := range x.now {
		q := state[i]
		from := slot * (api.PageSize / slots)
		copy(q[from:from+api.PageSize/slots], p[from:])
		state[i] = q
	}
	x.states = append(x.states, state)
	x.ends = append(x.ends, x.b.l.End())
}

// undo takes a slot's bytes back to what was committed.
func (x *run) undo(slot int) {
	was := x.states[len(x.states)-1]
	for i, p := range x.now {
		q := was[i]
		from := slot * (api.PageSize / slots)
		copy(p[from:from+api.PageSize/slots], q[from:])
		x.now[i] = p
	}
}

// update changes a page of a slot's, at random; where there is no room it is rolled back.
func (x *run) update(slot int) api.Errno {
	page := 19 + x.r.Intn(x.b.su.Sectors-19)
	size := 1 + x.r.Intn(40)
	off := slot*(api.PageSize/slots) + x.r.Intn(api.PageSize/slots-size+1)
	bytes := make([]byte, size)
	for i := range bytes {
		bytes[i] = byte(x.r.Intn(3))
	}
	e := x.b.s.Update(x.ways[slot], page, off, bytes)
	switch e {
	case api.OK:
		p := x.now[page]
		copy(p[off:], bytes)
		x.now[page] = p
	case api.ErrFull:
		return x.rollback(slot)
	}
	return e
}

// end ends a slot's transaction, and notes what becomes of its bytes.
func (x *run) end(slot int, call func(uint64) api.Errno, note func(int)) api.Errno {
	e := call(x.ways[slot])
	if e == api.OK {
		note(slot)
		x.ways[slot] = 0
	}
	return e
}

func (x *run) rollback(slot int) api.Errno { return x.end(slot, x.b.s.Rollback, x.undo) }

func (x *run) commit(slot int) api.Errno { return x.end(slot, x.b.s.Commit, x.committed) }

// step does something at random.
func (x *run) step(t *testing.T) api.Errno {
	t.Helper()
	slot := x.r.Intn(slots)
	if x.ways[slot] == 0 {
		x.ways[slot] = x.b.begin(t)
	}
	switch n := x.r.Intn(100); {
	case n < 70:
		return x.update(slot)
	case n < 82:
		return x.commit(slot)
	case n < 88:
		return x.rollback(slot)
	case n < 92:
		return x.b.s.Sync()
	case n < 94:
		return x.b.s.Room()
	}
	page := 19 + x.r.Intn(x.b.su.Sectors-19)
	got, e := x.b.s.Read(page)
	if e == api.OK && got != x.now[page] {
		t.Fatal("page", page, "is not what was written")
	}
	return e
}

// same: are these the pages of a state?
func same(pages, state map[int]api.Page) bool {
	for i, p := range pages {
		if p != state[i] {
			return false
		}
	}
	return true
}

// behind says that what is found again is what some beginning of the commits has made, with all that lasted, and goes on from it.
func (x *run) behind(t *testing.T, d *disk.Disk) {
	t.Helper()
	want := reckoned(t, d)
	least := 0
	for i, end := range x.ends {
		if end <= x.b.l.Lasts() {
			least = i
		}
	}
	of := -1
	for i := least; i < len(x.states); i++ {
		if same(want, x.states[i]) {
			of = i
		}
	}
	if of < 0 {
		t.Fatal("what is found is no beginning of", len(x.states), "commits that has", least)
	}
	x.b = x.settled(t, d, want)
	x.ways = [slots]uint64{}
	x.now = maps.Clone(want)
	x.states = []map[int]api.Page{maps.Clone(want)}
	x.ends = []uint64{0}
}

// settled is the store that is found, though the power goes again and again.
func (x *run) settled(t *testing.T, d *disk.Disk, want map[int]api.Page) *bench {
	t.Helper()
	for {
		b := found(t, d)
		for i, p := range want {
			if got, e := b.s.Read(i); got != p || e != api.OK {
				t.Fatal("page", i, "is not what it was", e)
			}
		}
		if d.Writes() != 0 {
			t.Fatal("it was written to")
		}
		d.Fuse(x.r.Intn(60))
		if b.s.Room() == api.OK {
			b.p.Let()
			return b
		}
		d = d.Crash(x.picks())
	}
}

func (x *run) picks() []int {
	l := make([]int, 80)
	for i := range l {
		l[i] = x.r.Intn(8)
	}
	return l
}

// P8.6, P0.2, P0.3: whatever is done, and whenever the power goes: what is found again is what a beginning of the commits has made
func TestLosses(t *testing.T) {
	crashes, full := 0, 0
	for seed := range int64(25) {
		x := &run{b: made(t, 64, 8, false), r: rand.New(rand.NewSource(seed)), now: map[int]api.Page{}}
		x.states = []map[int]api.Page{{}}
		x.ends = []uint64{0}
		for i := 19; i < 64; i++ {
			x.now[i] = api.Page{}
		}
		for range 30 {
			x.b.d.Fuse(x.r.Intn(150))
			for range 400 {
				seq := x.b.s.Master().Seq
				e := x.step(t)
				if x.b.s.Master().Seq != seq {
					full++
				}
				if e == api.ErrDead {
					break
				}
				ok(t, e)
			}
			crashes++
			x.behind(t, x.b.d.Crash(x.picks()))
		}
	}
	if crashes < 100 || full < 100 {
		t.Error(crashes, full)
	}
}
