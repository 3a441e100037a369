package restart_test

import (
	"encoding/binary"
	"maps"
	"math"
	"math/rand"
	"slices"
	"testing"

	"hornbook/api"
	"hornbook/crc"
	"hornbook/disk"
	"hornbook/pool"
	"hornbook/restart"
	"hornbook/super"
	"hornbook/txn"
	"hornbook/wal"
)

// sealed is a log's sector with the right sum.
func sealed(s api.Sector) api.Sector {
	binary.LittleEndian.PutUint32(s[20:], crc.Sum(s[:20], s[24:]))
	return s
}

// random lays records at random: most of them go on as they should.
func random(r *rand.Rand) *draft {
	x := from([]uint64{0, 232, 50, 232*40 + 7}[r.Intn(4)])
	for range r.Intn(12) {
		n := uint64(1 + r.Intn(3))
		switch k := r.Intn(10); {
		case k < 5:
			x.update(n, 40+r.Intn(2), r.Intn(4), string(rune('a'+r.Intn(3))), string(rune('a'+r.Intn(3))))
		case k < 8:
			x.backOf(n)
		case k < 9:
			x.commit(n)
		default:
			x.over(n)
		}
		if r.Intn(15) == 0 {
			x.spoil(r)
		}
	}
	return x
}

// backOf lays what changes a transaction's last update back that was not: of none an update.
func (x *draft) backOf(n uint64) {
	var updates []int
	for i, r := range x.all {
		switch {
		case r.Rec.Txn != n:
		case r.Rec.Kind == api.RecUpdate:
			updates = append(updates, i)
		case len(updates) > 0:
			updates = updates[:len(updates)-1]
		}
	}
	if len(updates) == 0 {
		x.update(n, 41, 0, "a", "b")
		return
	}
	x.back(updates[len(updates)-1])
}

// spoil changes the last record, so that it may still be.
func (x *draft) spoil(r *rand.Rand) {
	last := &x.all[len(x.all)-1].Rec
	switch r.Intn(6) {
	case 0:
		last.Prev = x.tail
	case 1:
		last.Prev = x.tail + 1
	case 2:
		last.Txn = 1 << 63
	case 3:
		last.Prev = uint64(r.Intn(300))
	case 4:
		if last.Kind == api.RecBack {
			last.Next = uint64(r.Intn(300))
		}
	default:
		if last.Page != 0 {
			last.Page = []int{3, firstOf - 1, firstOf, 63, 64}[r.Intn(5)]
		}
	}
}

// by are the records of each transaction.
func by(l []api.Logged) map[uint64][]api.Logged {
	of := map[uint64][]api.Logged{}
	for _, r := range l {
		of[r.Rec.Txn] = append(of[r.Rec.Txn], r)
	}
	return of
}

func ends(k api.RecKind) bool { return k == api.RecCommit || k == api.RecEnd }

// taken: does layer 8 take a loser's records? Pages are asked for elsewhere.
func taken(t *testing.T, x *draft, n uint64, l []api.Logged) bool {
	t.Helper()
	paged := slices.Clone(l)
	for i := range paged {
		paged[i].Rec.Page = 40 + paged[i].Rec.Page%10 // the same for the same
	}
	d := x.logged(t, 64)
	log, _, e := wal.Open(d, layout(t, 64), x.tail, 2)
	ok(t, e)
	p, e := pool.New(d, log, 8, true)
	ok(t, e)
	s, e := txn.New(d, layout(t, 64), api.Master{Epoch: 2, Seq: 1, Tail: x.tail}, log, p)
	ok(t, e)
	return s.Adopt(n, paged) == api.OK
}

// judged is what Losers should tell of a log, by another way.
func judged(t *testing.T, x *draft) ([]uint64, bool) {
	t.Helper()
	var losers []uint64
	of := by(x.all)
	for _, n := range slices.Sorted(maps.Keys(of)) {
		l := of[n]
		for i, r := range l {
			if i == 0 && r.Rec.Prev > x.tail || i > 0 && (r.Rec.Prev != l[i-1].End || ends(l[i-1].Rec.Kind)) {
				return nil, false
			}
		}
		if ends(l[len(l)-1].Rec.Kind) {
			continue
		}
		if !taken(t, x, n, l) {
			return nil, false
		}
		losers = append(losers, n)
	}
	return losers, true
}

// reckoned are the pages that a log makes of noughts, by another way.
func reckoned(x *draft, losers []uint64) map[int]api.Page {
	pages := map[int]api.Page{}
	change := func(page, off int, b []byte) {
		p := pages[page]
		copy(p[off:], b)
		pages[page] = p
	}
	for _, r := range x.all {
		change(r.Rec.Page, r.Rec.Off, r.Rec.After)
	}
	of := by(x.all)
	last := func(n uint64) uint64 { return of[n][len(of[n])-1].End }
	losers = slices.Clone(losers)
	slices.SortFunc(losers, func(a, b uint64) int { return int(last(b)) - int(last(a)) })
	for _, n := range losers {
		at := last(n)
		for _, r := range slices.Backward(of[n]) {
			switch {
			case r.End != at:
			case r.Rec.Kind == api.RecBack:
				at = r.Rec.Next
			default:
				change(r.Rec.Page, r.Rec.Off, r.Rec.Before)
				at = r.Rec.Prev
			}
		}
	}
	return pages
}

// P9.1, P9.3: logs of any records
func TestAnyRecords(t *testing.T) {
	refusals, some := 0, 0
	for seed := range int64(6000) {
		x := random(rand.New(rand.NewSource(seed)))
		want, fine := judged(t, x)
		got, e := restart.Losers(x.all, x.tail)
		if (e == api.OK) != fine || e != api.OK && e != api.ErrBytes || !slices.Equal(got, want) {
			t.Fatal(seed, got, e, "not", want, fine)
		}
		for _, r := range x.all {
			if !ends(r.Rec.Kind) && (r.Rec.Page < firstOf || r.Rec.Page > 63) {
				fine = false
			}
		}
		d := x.logged(t, 64)
		if !fine {
			refused(t, d, 8, api.ErrBytes)
			refusals++
			continue
		}
		s, losers := found(t, d)
		slices.Sort(losers)
		if !slices.Equal(losers, want) {
			t.Fatal(seed, losers, "not", want)
		}
		if len(want) > 1 {
			some++
		}
		pages := reckoned(x, want)
		for i, p := range all(t, s) {
			if p != pages[firstOf+i] {
				t.Fatal(seed, "page", firstOf+i)
			}
		}
	}
	if refusals < 1000 || some < 300 {
		t.Error("too little was tried:", refusals, some)
	}
}

// spoilt is a disk some sectors of which are others.
func spoilt(t *testing.T, r *rand.Rand, d *disk.Disk) *disk.Disk {
	t.Helper()
	d = d.Copy()
	small := func() uint64 {
		return []uint64{0, 1, 2, uint64(r.Intn(4000)), math.MaxUint64, 1 << 62, 1 << 63}[r.Intn(7)]
	}
	for range 1 + r.Intn(3) {
		switch r.Intn(7) {
		case 0: // any byte
			i := r.Intn(d.Sectors())
			s, _ := d.Read(i)
			s[r.Intn(len(s))] = byte(r.Intn(256))
			put(t, d, i, s)
		case 1: // a master
			was, _ := restart.Masters(d)
			m := []api.Master{{Epoch: small(), Seq: small(), Tail: small()}, {Epoch: was.Epoch, Seq: was.Seq + uint64(r.Intn(4)), Tail: small()}, {Epoch: was.Epoch + uint64(r.Intn(3)), Seq: was.Seq, Tail: was.Tail + 232*uint64(r.Intn(2))}}[r.Intn(3)]
			put(t, d, 1+r.Intn(2), super.MasterBytes(m))
		case 2: // a page's LSN
			i := firstOf + r.Intn(d.Sectors()-firstOf)
			s, _ := d.Read(i)
			binary.LittleEndian.PutUint64(s[:], small())
			put(t, d, i, s)
		case 3: // a sector at the place of another one
			s, _ := d.Read(r.Intn(d.Sectors()))
			put(t, d, r.Intn(d.Sectors()), s)
		case 4: // bytes of the log, with a right sum
			i := 3 + r.Intn(16)
			s, _ := d.Read(i)
			s[r.Intn(len(s))] = byte(r.Intn(256))
			put(t, d, i, sealed(s))
		case 5: // a log's sector of another number, of another epoch, with more bytes or fewer
			i := 3 + r.Intn(16)
			s, _ := d.Read(i)
			binary.LittleEndian.PutUint32(s[16:], uint32(r.Intn(235)))
			s[8*r.Intn(2)] += byte(r.Intn(3)) - 1
			put(t, d, i, sealed(s))
		default: // another layout
			b, _ := super.Bytes(layout(t, 64+r.Intn(40)))
			put(t, d, 0, b)
		}
	}
	return d
}

// P0.5, P9.4: a disk of any bytes is found, or refused, and then nothing is written; what is found is found again, and can be gone on with
func TestAnyDisk(t *testing.T) {
	told := map[api.Errno]int{}
	for seed := range int64(60) {
		r := rand.New(rand.NewSource(seed))
		x := &run{r: r, d: made(t, 64+int(seed%2)*36)}
		x.s, _ = found(t, x.d)
		ok(t, restart.Settle(x.s))
		x.begun(t)
		for range r.Intn(120) {
			ok(t, x.step(t))
		}
		base := x.d.Crash(x.picks())
		for range 60 {
			d := spoilt(t, r, base)
			s, _, e := restart.Find(d, 8)
			told[e]++
			if e != api.OK {
				refused(t, d, 8, e)
				continue
			}
			goesOn(t, d, all(t, s))
		}
	}
	if told[api.OK] < 500 || told[api.ErrBytes] < 500 || told[api.OK]+told[api.ErrBytes]+told[api.ErrFull] != 60*60 {
		t.Error(told)
	}
}

// goesOn says that what is found on a disk is found again, and what is done then, too.
func goesOn(t *testing.T, d *disk.Disk, want []api.Page) {
	t.Helper()
	s, _ := found(t, d)
	if !slices.Equal(all(t, s), want) {
		t.Error("it is not the same, found again")
	}
	ok(t, restart.Settle(s))
	n, e := s.Begin()
	ok(t, e)
	page := d.Sectors() - 1
	if s.Super().Sectors <= page {
		page = firstOf
	}
	b := []byte("what was promised")
	ok(t, s.Update(n, page, 7, b), s.Commit(n), s.Sync())
	copy(want[page-firstOf][7:], b)
	s, losers := found(t, d.Crash(nil))
	if !slices.Equal(all(t, s), want) || len(losers) != 0 {
		t.Error("what was done is not there", losers)
	}
}

// P0.8: disks of noise
func TestNoise(t *testing.T) {
	r := rand.New(rand.NewSource(1))
	for range 300 {
		l := make([]api.Sector, 1+r.Intn(100))
		for i := range l {
			r.Read(l[i][:])
		}
		d, _ := disk.Of(l)
		refused(t, d, 8, api.ErrBytes)
		b, _ := super.Bytes(layout(t, 64))
		put(t, d, 0, b)
		if len(l) > 1 {
			put(t, d, 1, super.MasterBytes(api.Master{Epoch: 1, Seq: 1, Tail: 232 * uint64(r.Intn(3))}))
		}
		refused(t, d, 8, api.ErrBytes) // too few sectors, or pages of which the log has not heard
		n := make([]api.Logged, r.Intn(5))
		for i := range n {
			n[i] = api.Logged{LSN: r.Uint64(), End: r.Uint64(), Rec: api.Record{Kind: api.RecKind(r.Intn(6)), Txn: uint64(r.Intn(3)), Prev: r.Uint64() >> r.Intn(64)}}
		}
		restart.Losers(n, r.Uint64())
		if l, e := restart.Losers(nil, r.Uint64()); len(l) != 0 || e != api.OK {
			t.Error(l, e)
		}
	}
}
