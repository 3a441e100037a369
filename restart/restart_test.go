package restart_test

import (
	"bytes"
	"encoding/binary"
	"fmt"
	"math"
	"reflect"
	"slices"
	"testing"

	"hornbook/api"
	"hornbook/disk"
	"hornbook/pool"
	"hornbook/record"
	"hornbook/restart"
	"hornbook/super"
	"hornbook/txn"
	"hornbook/wal"
)

const (
	endSize  = 35 // of a RecCommit, of a RecEnd
	firstOf  = 19 // the first page of a group, on disks of 64 to 135 sectors
	roomOf64 = 15 * 232
)

// ok says that nothing was refused.
func ok(t *testing.T, l ...api.Errno) {
	t.Helper()
	for i, e := range l {
		if e != api.OK {
			t.Fatal(i, "told", e)
		}
	}
}

// made is a disk of so many sectors, on which Make made a store.
func made(t *testing.T, sectors int) *disk.Disk {
	t.Helper()
	d, e := disk.New(sectors)
	ok(t, e, restart.Make(d, layout(t, sectors)))
	return d
}

func layout(t *testing.T, sectors int) api.Super {
	t.Helper()
	su, e := super.Make(sectors)
	ok(t, e)
	return su
}

// put writes a sector, that lasts.
func put(t *testing.T, d *disk.Disk, i int, s api.Sector) {
	t.Helper()
	ok(t, d.Write(i, s), d.Barrier())
}

// gone takes the power away.
func gone(t *testing.T, d *disk.Disk) {
	t.Helper()
	d.Fuse(0)
	if e := d.Write(0, api.Sector{}); e != api.ErrDead {
		t.Fatal(e)
	}
}

// raw is a page's sector.
func raw(lsn uint64, text string) api.Sector {
	var s api.Sector
	binary.LittleEndian.PutUint64(s[:], lsn)
	copy(s[8:], text)
	return s
}

// payload is a page that begins with a text.
func payload(text string) api.Page {
	var p api.Page
	copy(p[:], text)
	return p
}

// draft is what a log is to have, record by record.
type draft struct {
	tail, end uint64
	ends      map[uint64]uint64 // of each transaction's last record
	all       []api.Logged
}

func from(tail uint64) *draft { return &draft{tail: tail, end: tail, ends: map[uint64]uint64{}} }

// lay lays a record behind the others, as it is.
func (x *draft) lay(r api.Record) *draft {
	size := uint64(record.Size(r))
	x.all = append(x.all, api.Logged{LSN: x.end, End: x.end + size, Rec: r})
	x.end += size
	x.ends[r.Txn] = x.end
	return x
}

// update lays an update, whose Prev is as it should be.
func (x *draft) update(n uint64, page, off int, before, after string) *draft {
	return x.lay(api.Record{Kind: api.RecUpdate, Txn: n, Prev: x.ends[n], Page: page, Off: off, Before: []byte(before), After: []byte(after)})
}

// back lays what changes the i-th record of all back.
func (x *draft) back(i int) *draft {
	r, e := record.Back(x.all[i].Rec, x.ends[x.all[i].Rec.Txn])
	if e != api.OK {
		panic(e)
	}
	return x.lay(r)
}

func (x *draft) ending(k api.RecKind, n uint64) *draft {
	return x.lay(api.Record{Kind: k, Txn: n, Prev: x.ends[n]})
}

func (x *draft) commit(n uint64) *draft { return x.ending(api.RecCommit, n) }

func (x *draft) over(n uint64) *draft { return x.ending(api.RecEnd, n) }

// on writes the log on a disk, behind a master of epoch 1 that has that tail: what stands ahead of the tail in its sector is nothing in particular.
func (x *draft) on(t *testing.T, d *disk.Disk) *disk.Disk {
	t.Helper()
	put(t, d, 1, super.MasterBytes(api.Master{Epoch: 1, Seq: 1, Tail: x.tail}))
	b := make([]byte, x.tail%api.LogBytes)
	for _, r := range x.all {
		text, e := record.Bytes(r.Rec, r.LSN)
		ok(t, e)
		b = append(b, text...)
	}
	su := layout(t, min(d.Sectors(), api.MaxSectors))
	k := x.tail / api.LogBytes
	for piece := range slices.Chunk(b, api.LogBytes) {
		put(t, d, 3+int(k%uint64(su.Log)), logSector(k, 1, piece))
		k++
	}
	return d
}

// logged is a disk with that log.
func (x *draft) logged(t *testing.T, sectors int) *disk.Disk {
	t.Helper()
	return x.on(t, made(t, sectors))
}

// found is what is found on a disk; nothing is written.
func found(t *testing.T, d *disk.Disk) (*txn.Store, []uint64) {
	t.Helper()
	writes, was := d.Writes(), d.Copy()
	s, losers, e := restart.Find(d, 8)
	if s == nil || e != api.OK {
		t.Fatal("Find", e)
	}
	if d.Writes() != writes || !d.Same(was) {
		t.Error("it was written to")
	}
	return s, losers
}

// refused says that a disk is, and that nothing is written.
func refused(t *testing.T, d *disk.Disk, frames int, want api.Errno) {
	t.Helper()
	was, writes, loose := d.Copy(), d.Writes(), d.Loose()
	if s, losers, e := restart.Find(d, frames); s != nil || losers != nil || e != want {
		t.Error("told", s != nil, losers, e, "not", want)
	}
	if d.Writes() != writes || !d.Same(was) || !slices.Equal(d.Loose(), loose) {
		t.Error("it was written to")
	}
}

// is says that a page is read as one that begins so.
func is(t *testing.T, s *txn.Store, page int, text string) {
	t.Helper()
	if p, e := s.Read(page); p != payload(text) || e != api.OK {
		t.Errorf("page %d: %q, not %q: %v", page, p[:len(text)+3], text, e)
	}
}

// tells says that these are the records from a place of the log on, when it lasts.
func tells(t *testing.T, d *disk.Disk, s *txn.Store, from uint64, want []api.Logged) {
	t.Helper()
	ok(t, s.Sync())
	_, all, e := wal.Open(d.Copy(), s.Super(), from, s.Master().Epoch)
	ok(t, e)
	if len(all) != len(want) {
		t.Fatal("noted", len(all), "not", len(want), all)
	}
	for i, x := range all {
		if w := want[i]; x.LSN != w.LSN || x.End != w.End || !record.Same(x.Rec, w.Rec) {
			t.Error(i, "is", x, "not", w)
		}
	}
}

func TestExamples(t *testing.T) {
	d, _ := disk.New(64)
	refused(t, d, 8, api.ErrBytes)
	su := layout(t, 64)
	ok(t, restart.Make(d, su))
	s, losers := found(t, d)
	if len(losers) != 0 {
		t.Error(losers)
	}
	for i := firstOf; i < 64; i++ {
		is(t, s, i, "")
	}
}

// junk is a disk each sector of which is something.
func junk(t *testing.T, sectors int) *disk.Disk {
	t.Helper()
	l := make([]api.Sector, sectors)
	for i := range l {
		l[i] = raw(uint64(i)+1, fmt.Sprint("junk ", i))
	}
	d, e := disk.Of(l)
	ok(t, e)
	return d
}

// P9.3: what Make writes, and how much of the disk
func TestMake(t *testing.T) {
	for _, x := range [][2]int{{64, 64}, {64, 65}, {85, 85}, {100, 300}, {4096, 4096}, {4096, 4100}} {
		d, su := junk(t, x[1]), layout(t, x[0])
		if e := restart.Make(d, su); e != api.OK || d.Writes() != x[0]+2 || len(d.Loose()) != 0 {
			t.Error(x, e, d.Writes(), d.Loose())
		}
		block, _ := super.Bytes(su)
		want := map[int]api.Sector{0: block, 1: super.MasterBytes(api.Master{Epoch: 1, Seq: 1})}
		for i := range x[1] {
			s, _ := d.Read(i)
			if i >= x[0] && s != raw(uint64(i)+1, fmt.Sprint("junk ", i)) || i < x[0] && s != want[i] {
				t.Error(x, "sector", i)
			}
		}
		if s, losers := found(t, d); s.Super() != su || len(losers) != 0 {
			t.Error(x, s.Super(), losers)
		}
	}
}

// P9.3: ErrArg, ahead of ErrDead, and then nothing is written
func TestMakeRefused(t *testing.T) {
	su := layout(t, 100)
	small, _ := disk.New(99)
	same, _ := disk.New(100)
	dead, _ := disk.New(100)
	gone(t, dead)
	for i, x := range []struct {
		d    *disk.Disk
		su   api.Super
		want api.Errno
	}{
		{nil, su, api.ErrArg}, {&disk.Disk{}, su, api.ErrArg}, {small, su, api.ErrArg}, {nil, api.Super{}, api.ErrArg},
		{same, api.Super{}, api.ErrArg}, {same, api.Super{Sectors: 100, Log: 16, Groups: 1}, api.ErrArg},
		{same, api.Super{Sectors: 100, Log: 17, Groups: 2}, api.ErrArg}, {same, api.Super{Sectors: 63, Log: 16, Groups: 1}, api.ErrArg},
		{same, api.Super{Sectors: -1}, api.ErrArg}, {dead, api.Super{Sectors: 1}, api.ErrArg}, {dead, layout(t, 101), api.ErrArg},
		{dead, su, api.ErrDead}, {dead, layout(t, 64), api.ErrDead},
	} {
		if e := restart.Make(x.d, x.su); e != x.want || x.d.Writes() != 0 {
			t.Error(i, e, x.d.Writes())
		}
	}
}

// P9.3: in which order it is written, and where the barriers are
func TestMakeParts(t *testing.T) {
	su := layout(t, 64)
	block, _ := super.Bytes(su)
	master := super.MasterBytes(api.Master{Epoch: 1, Seq: 1})
	for n := range 67 {
		d := junk(t, 64)
		d.Fuse(n)
		want := api.ErrDead
		if n == 66 {
			want = api.OK
		}
		if e := restart.Make(d, su); e != want || d.Writes() != n {
			t.Error(n, e, d.Writes())
		}
		loose := 0
		if n < 64 {
			loose = n
		}
		if l := d.Loose(); len(l) != loose || loose > 0 && l[loose-1] != loose-1 {
			t.Error(n, "loose", l)
		}
		should := map[int]api.Sector{}
		if n > 64 {
			should[1] = master
		}
		if n > 65 {
			should[0] = block
		}
		for i := range 64 {
			s, _ := d.Read(i)
			if i < n && s != should[i] || i >= n && s != raw(uint64(i)+1, fmt.Sprint("junk ", i)) {
				t.Error(n, "sector", i)
			}
		}
		if n >= 64 && n < 66 {
			refused(t, d.Crash(nil), 8, api.ErrBytes)
		}
	}
}

// P9.1: Masters
func TestMasters(t *testing.T) {
	m := func(epoch, seq, tail uint64) api.Master { return api.Master{Epoch: epoch, Seq: seq, Tail: tail} }
	var no api.Master
	const most = math.MaxUint64
	for i, x := range []struct {
		one, two, want api.Master
		there          bool
	}{
		{m(1, 1, 5), no, m(1, 1, 5), true}, {no, m(1, 2, 6), m(1, 2, 6), true},
		{m(1, 1, 9), m(1, 2, 3), m(1, 2, 3), true}, {m(1, 3, 1), m(1, 2, 7), m(1, 3, 1), true},
		{m(2, 1, 1), m(1, 8, 7), m(2, 1, 1), true}, {m(2, 9, 1), m(3, 2, 0), m(3, 2, 0), true},
		{m(0, 1, 0), no, m(0, 1, 0), true}, {m(0, 1, 0), m(0, 2, 4), m(0, 2, 4), true},
		{m(1, 2, 3), m(1, 3, 4), no, false}, {m(9, 2, 3), m(1, 2, 4), m(1, 2, 4), true}, {m(1, 1, 3), m(9, 3, 4), m(1, 1, 3), true},
		{m(most, most, most), m(most, most-1, 1), m(most, most, most), true},
		{m(1, most, 1), m(most, 2, 2), m(most, 2, 2), true},
	} {
		d, _ := disk.New(64)
		if x.one != no {
			put(t, d, 1, super.MasterBytes(x.one))
		}
		if x.two != no {
			put(t, d, 2, super.MasterBytes(x.two))
		}
		if got, there := restart.Masters(d); got != x.want || there != x.there {
			t.Error(i, got, there)
		}
	}
	d, _ := disk.New(3) // a master of noughts but for its name stands in the sector 2
	put(t, d, 2, super.MasterBytes(no))
	if got, there := restart.Masters(d); got != no || !there {
		t.Error(got, there)
	}
	put(t, d, 1, super.MasterBytes(no))
	put(t, d, 2, api.Sector{})
	if got, there := restart.Masters(d); got != no || there {
		t.Error(got, there)
	}
}

// P9.1: Masters of what has none, or one that was turned
func TestNoMasters(t *testing.T) {
	zero, _ := disk.New(64)
	one, _ := disk.New(1)
	two, _ := disk.New(2)
	put(t, two, 0, super.MasterBytes(api.Master{Epoch: 1, Seq: 1}))
	for i, d := range []*disk.Disk{nil, {}, zero, one, two} {
		if got, there := restart.Masters(d); got != (api.Master{}) || there {
			t.Error(i, got, there)
		}
	}
	put(t, two, 1, super.MasterBytes(api.Master{Epoch: 1, Seq: 1}))
	if got, there := restart.Masters(two); got != (api.Master{Epoch: 1, Seq: 1}) || !there {
		t.Error(got, there)
	}
	was := super.MasterBytes(api.Master{Epoch: 9, Seq: 7, Tail: 3})
	put(t, zero, 2, super.MasterBytes(api.Master{Epoch: 1, Seq: 2, Tail: 4}))
	for bit := range 8 * api.SectorSize {
		s := was
		s[bit/8] ^= 1 << (bit % 8)
		put(t, zero, 1, s)
		if got, there := restart.Masters(zero); got != (api.Master{Epoch: 1, Seq: 2, Tail: 4}) || !there {
			t.Error(bit, got, there)
		}
	}
}

// P9.1: ErrArg, ahead of all else
func TestFindArgs(t *testing.T) {
	good := made(t, 64)
	noughts, _ := disk.New(64)
	dead := good.Copy()
	gone(t, dead)
	for _, frames := range []int{math.MinInt, -1, 0, 1, 7, 4097, math.MaxInt} {
		for _, d := range []*disk.Disk{good, noughts, dead} {
			refused(t, d, frames, api.ErrArg)
		}
	}
	for _, frames := range []int{0, 8, 4096} {
		for _, d := range []*disk.Disk{nil, {}} {
			refused(t, d, frames, api.ErrArg)
		}
	}
	for _, frames := range []int{8, 9, 64, 4096} {
		if s, _, e := restart.Find(good, frames); s == nil || e != api.OK {
			t.Error(frames, e)
		}
	}
}

// P9.1, 1.: the super block
func TestFindSuper(t *testing.T) {
	block, _ := super.Bytes(layout(t, 64))
	for bit := range 8 * api.SectorSize {
		d, s := made(t, 64), block
		s[bit/8] ^= 1 << (bit % 8)
		put(t, d, 0, s)
		refused(t, d, 8, api.ErrBytes)
	}
	one, _ := disk.New(1)
	put(t, one, 0, block)
	refused(t, one, 8, api.ErrBytes)
	for _, says := range []int{64, 99, 100, 101, 4096} { // a disk of 100 sectors says that it has so many
		d := made(t, 100)
		b, _ := super.Bytes(layout(t, says))
		put(t, d, 0, b)
		if says > 100 {
			refused(t, d, 8, api.ErrBytes)
		} else if s, _ := found(t, d); s.Super() != layout(t, says) {
			t.Error(says, s.Super())
		}
	}
}

// P9.1, 2.: the newer master, and the epoch above it
func TestFindMaster(t *testing.T) {
	d := made(t, 64)
	put(t, d, 1, api.Sector{})
	refused(t, d, 8, api.ErrBytes)
	put(t, d, 2, super.MasterBytes(api.Master{Epoch: 1, Seq: 1}))
	refused(t, d, 8, api.ErrBytes)
	for _, x := range []api.Master{{Epoch: 1, Seq: 1}, {Epoch: 5, Seq: 8, Tail: 232}, {}, {Epoch: 1<<62 - 1, Seq: math.MaxUint64, Tail: 1<<62 - 1<<62%232}} {
		d := made(t, 64)
		put(t, d, 1, super.MasterBytes(api.Master{Epoch: 0, Seq: 1, Tail: 464}))
		put(t, d, 2-int(x.Seq%2), super.MasterBytes(x))
		if x == (api.Master{}) {
			x = api.Master{Epoch: 0, Seq: 1, Tail: 464}
		}
		s, _ := found(t, d)
		if x.Epoch++; s.Master() != x || s.Log().Tail() != x.Tail || s.Log().End() != x.Tail {
			t.Error(s.Master(), x)
		}
	}
}

// P9.1, 3.: what the log tells
func TestFindLog(t *testing.T) {
	for _, m := range []api.Master{
		{Epoch: 1 << 62, Seq: 1}, {Epoch: math.MaxUint64, Seq: 1}, {Epoch: math.MaxUint64 - 1, Seq: 1},
		{Epoch: 1, Seq: 1, Tail: 1<<62 + 1}, {Epoch: 1, Seq: 1, Tail: math.MaxUint64}, {Epoch: 1, Seq: 1, Tail: (1<<62/232 + 1) * 232},
		{Epoch: 1, Seq: 1, Tail: 1}, {Epoch: 1, Seq: 1, Tail: 231}, {Epoch: 1, Seq: 1, Tail: 233},
	} {
		d := made(t, 64)
		put(t, d, 1, super.MasterBytes(m))
		refused(t, d, 8, api.ErrBytes)
	}
	d := from(100).update(1, 40, 0, "\x00", "a").commit(1).logged(t, 64)
	is(t, first(found(t, d)), 40, "a")
	put(t, d, 3, logSector(0, 1, make([]byte, 99)))
	refused(t, d, 8, api.ErrBytes)
	put(t, d, 3, logSector(0, 1, make([]byte, 100)))
	is(t, first(found(t, d)), 40, "")
	put(t, d, 3, logSector(0, 3, make([]byte, 100))) // of an epoch above the one that is read in
	refused(t, d, 8, api.ErrBytes)
}

func first(s *txn.Store, _ []uint64) *txn.Store { return s }

// logSector is a sector of the log: by another way than the program's.
func logSector(k, epoch uint64, b []byte) api.Sector {
	var s api.Sector
	binary.LittleEndian.PutUint64(s[:], k)
	binary.LittleEndian.PutUint64(s[8:], epoch)
	binary.LittleEndian.PutUint32(s[16:], uint32(len(b)))
	copy(s[24:], b)
	return sealed(s)
}

// P9.1: what is found of a store that has done some
func TestFind(t *testing.T) {
	x := from(0).update(3, 40, 2, "\x00\x00", "ab").update(8, 41, 0, "\x00", "x").commit(3).update(9, 40, 4, "\x00", "y").update(8, 42, 0, "\x00", "z")
	d := x.logged(t, 64)
	s, losers := found(t, d)
	if !slices.Equal(losers, []uint64{8, 9}) || len(s.Ways()) != 0 || !s.Pool().Held() {
		t.Error(losers, s.Ways())
	}
	if s.Super() != layout(t, 64) || s.Master() != (api.Master{Epoch: 2, Seq: 1}) || s.Log().Tail() != 0 {
		t.Error(s.Super(), s.Master(), s.Log().Tail())
	}
	is(t, s, 40, "\x00\x00ab")
	is(t, s, 41, "")
	is(t, s, 42, "")
	if n, e := s.Begin(); n != 10 || e != api.OK { // it was told of 9
		t.Error(n, e)
	}
	x.back(4).back(1).over(8).back(3).over(9)
	if s.Log().End() != x.end || s.Log().Free() != roomOf64-int(x.end) {
		t.Error(s.Log().End(), x.end, s.Log().Free())
	}
	tells(t, d, s, 0, x.all)
}

// P9.1: a store of a disk that is greater than it, of several groups
func TestFindGreat(t *testing.T) {
	d, _ := disk.New(5000)
	ok(t, restart.Make(d, layout(t, 4096)))
	from(0).update(1, 4095, 247, "\x00", "a").commit(1).update(2, 259, 0, "\x00", "b").on(t, d)
	s, losers, e := restart.Find(d, 8)
	if e != api.OK || !slices.Equal(losers, []uint64{2}) {
		t.Fatal(losers, e)
	}
	is(t, s, 4095, string(make([]byte, 247))+"a")
	is(t, s, 259, "")
	if s.Pool().Frames() != 2 {
		t.Error(s.Pool().Frames())
	}
	ok(t, restart.Settle(s))
}

// P9.1, 4., P9.3: chains that are as they should be, and others
func TestChains(t *testing.T) {
	up := func(n, prev uint64) api.Record {
		return api.Record{Kind: api.RecUpdate, Txn: n, Prev: prev, Page: 40, Before: []byte{0}, After: []byte{1}}
	}
	clr := func(n, prev, next uint64) api.Record {
		return api.Record{Kind: api.RecBack, Txn: n, Prev: prev, Next: next, Page: 40, After: []byte{0}}
	}
	end := func(k api.RecKind, n, prev uint64) api.Record { return api.Record{Kind: k, Txn: n, Prev: prev} }
	type l = []api.Record
	for _, k := range []api.RecKind{api.RecCommit, api.RecEnd} {
		for i, x := range []struct {
			tail   uint64
			l      l
			losers []uint64
			refuse bool
		}{
			{0, nil, nil, false},
			{0, l{up(5, 0)}, []uint64{5}, false},
			{0, l{up(5, 1)}, nil, true},   // above the tail
			{50, l{up(5, 51)}, nil, true}, // likewise
			{50, l{up(5, 1)}, nil, true},  // its first record is not there
			{50, l{up(5, 50)}, nil, true}, // likewise
			{50, l{up(5, 0)}, []uint64{5}, false},
			{50, l{up(5, 1), end(k, 5, 87)}, nil, false}, // but it is over
			{50, l{up(5, 50), end(k, 5, 87)}, nil, false},
			{50, l{up(5, 51), end(k, 5, 87)}, nil, true},
			{50, l{up(5, 0), end(k, 5, 86)}, nil, true},
			{50, l{up(5, 0), end(k, 5, 88)}, nil, true},
			{50, l{up(5, 0), end(k, 5, 0)}, nil, true},
			{50, l{up(5, 0), end(k, 5, 50)}, nil, true}, // where it begins, not where it ends
			{50, l{end(k, 5, 50)}, nil, false},
			{50, l{end(k, 5, 0)}, nil, false},
			{50, l{end(k, 5, 51)}, nil, true},
			{50, l{end(k, 5, math.MaxUint64)}, nil, true},
			{0, l{up(5, 0), end(k, 5, 37), up(5, 72)}, nil, true}, // behind its end
			{0, l{up(5, 0), end(k, 5, 37), up(5, 0)}, nil, true},
			{0, l{up(5, 0), end(k, 5, 37), end(k, 5, 72)}, nil, true},
			{0, l{end(k, 5, 0), end(k, 5, 35)}, nil, true},
			{0, l{up(5, 0), up(5, 0)}, nil, true},
			{0, l{up(5, 0), up(6, 37)}, nil, true}, // of another transaction
			{0, l{up(5, 0), up(6, 0)}, []uint64{5, 6}, false},
			{0, l{up(6, 0), up(5, 0)}, []uint64{5, 6}, false},
			{0, l{up(6, 0), up(5, 0), up(6, 37), end(k, 6, 111)}, []uint64{5}, false},
			{0, l{up(6, 0), up(5, 0), up(6, 74)}, nil, true},
			{0, l{up(1<<63-1, 0)}, []uint64{1<<63 - 1}, false},
			{0, l{up(1<<63, 0)}, nil, true}, // no such one is taken up
			{0, l{up(math.MaxUint64, 0)}, nil, true},
			{0, l{up(1<<63, 0), end(k, 1<<63, 37)}, nil, false}, // but it is over
			{0, l{up(5, 0), clr(5, 37, 0)}, []uint64{5}, false},
			{0, l{up(5, 0), clr(5, 37, 0), end(k, 5, 73)}, nil, false},
			{0, l{up(5, 0), clr(5, 37, 37)}, nil, true}, // which is to be changed back next
			{0, l{up(5, 0), clr(5, 37, 37), end(k, 5, 73)}, nil, false},
			{0, l{clr(5, 0, 0)}, nil, true},
			{0, l{clr(5, 0, 0), end(k, 5, 36)}, nil, false},
			{0, l{up(5, 0), clr(5, 37, 0), clr(5, 73, 0)}, nil, true},
			{0, l{up(5, 0), clr(5, 37, 0), up(5, 73)}, nil, true},
			{0, l{up(5, 0), up(5, 37), clr(5, 74, 37), clr(5, 110, 0)}, []uint64{5}, false},
			{0, l{up(5, 0), up(5, 37), clr(5, 74, 37)}, []uint64{5}, false},
			{0, l{up(5, 0), up(5, 37), clr(5, 74, 0)}, nil, true}, // not the last one
			{0, l{up(5, 0), up(5, 37), clr(5, 74, 37), clr(5, 110, 37)}, nil, true},
			{0, l{up(5, 0), up(5, 37), clr(5, 74, 37), up(5, 110)}, nil, true},
			{0, l{up(5, 0), up(5, 37), clr(5, 74, 37), up(5, 110), end(k, 5, 147)}, nil, false},
		} {
			t.Run(fmt.Sprint(k, " ", i), func(t *testing.T) {
				d := from(x.tail)
				for _, r := range x.l {
					d.lay(r)
				}
				told(t, d, x.losers, x.refuse)
			})
		}
	}
}

// told says what Losers and Find tell of a log.
func told(t *testing.T, x *draft, losers []uint64, refuse bool) {
	t.Helper()
	want := api.OK
	if refuse {
		want = api.ErrBytes
	}
	if got, e := restart.Losers(x.all, x.tail); !slices.Equal(got, losers) || e != want || refuse && got != nil {
		t.Error("Losers", got, e, "not", losers, want)
	}
	d := x.logged(t, 64)
	if refuse {
		refused(t, d, 8, want)
		return
	}
	s, got := found(t, d)
	slices.Sort(got)
	if !slices.Equal(got, losers) {
		t.Error("Find", got, "not", losers)
	}
	ok(t, restart.Settle(s))
}

// P9.3: a RecBack that is not that of the update ahead of it
func TestOtherBack(t *testing.T) {
	clr := func(n int) api.Record {
		r := api.Record{Kind: api.RecBack, Txn: 5, Prev: 39, Page: 40, Off: 2, After: []byte{3, 4}}
		switch n {
		case 1:
			r.Page = 41
		case 2:
			r.Off = 1
		case 3:
			r.After = []byte{3, 5}
		case 4:
			r.After = []byte{3}
		case 5:
			r.After = []byte{3, 4, 0}
		case 6:
			r.Next = 1
		}
		return r
	}
	for n := range 7 {
		x := from(0).update(5, 40, 2, "\x03\x04", "\x01\x02").lay(clr(n))
		if n == 0 {
			told(t, x, []uint64{5}, false)
			continue
		}
		told(t, x, nil, true)
		told(t, x.over(5), nil, false) // of one that is over nobody asks
	}
}

// P9.3: what stands in no log
func TestLosersAny(t *testing.T) {
	up := api.Record{Kind: api.RecUpdate, Txn: 5, Page: 40, Before: []byte{0}, After: []byte{1}}
	next := up
	next.Prev = 137
	at := func(lsn, end uint64, r api.Record) api.Logged { return api.Logged{LSN: lsn, End: end, Rec: r} }
	odd := func(k api.RecKind) api.Record { return api.Record{Kind: k, Txn: 5} }
	for i, x := range []struct {
		l      []api.Logged
		losers []uint64
		refuse bool
	}{
		{[]api.Logged{}, nil, false},
		{[]api.Logged{at(100, 137, up)}, []uint64{5}, false},
		{[]api.Logged{at(99, 136, up)}, nil, true}, // ahead of the tail
		{[]api.Logged{at(100, 137, up), at(137, 174, next)}, []uint64{5}, false},
		{[]api.Logged{at(100, 137, up), at(150, 187, next)}, []uint64{5}, false},
		{[]api.Logged{at(100, 137, up), at(136, 173, next)}, nil, true}, // one in the other
		{[]api.Logged{at(100, 100, up)}, nil, true},
		{[]api.Logged{at(137, 100, up)}, nil, true},
		{[]api.Logged{at(100, 137, api.Record{})}, nil, true},
		{[]api.Logged{at(100, 137, odd(0))}, nil, true}, {[]api.Logged{at(100, 137, odd(5))}, nil, true}, {[]api.Logged{at(100, 137, odd(-1))}, nil, true},
		{[]api.Logged{at(100, 137, up), at(137, 172, api.Record{Kind: 9, Txn: 5, Prev: 137})}, nil, true},
		{[]api.Logged{at(100, 137, api.Record{Kind: api.RecUpdate, Page: 40, Before: []byte{0}, After: []byte{1}})}, nil, true}, // of no transaction
		{[]api.Logged{at(100, 135, odd(api.RecCommit)), at(135, 170, odd(api.RecCommit))}, nil, true},
		{[]api.Logged{at(100, 137, api.Record{Kind: api.RecUpdate, Txn: 5, Page: 3, Before: []byte{0}, After: []byte{1}})}, []uint64{5}, false}, // pages aren't asked for
	} {
		want := api.OK
		if x.refuse {
			want = api.ErrBytes
		}
		if got, e := restart.Losers(x.l, 100); !slices.Equal(got, x.losers) || e != want || x.refuse && got != nil {
			t.Error(i, got, e)
		}
	}
}

// P9.3: losers rise, whatever their order in the log
func TestLosersRise(t *testing.T) {
	x := from(0)
	for _, n := range []uint64{70, 3, 1 << 40, 1, 9, 8, 1<<63 - 1, 2} {
		x.update(n, 40, int(n%100), "\x00", "a")
	}
	told(t, x, []uint64{1, 2, 3, 8, 9, 70, 1 << 40, 1<<63 - 1}, false)
	told(t, x.commit(70).over(1), []uint64{2, 3, 8, 9, 1 << 40, 1<<63 - 1}, false)
}

// P9.3: what is handed in is not changed, and not kept
func TestLosersHandedIn(t *testing.T) {
	x := from(0).update(2, 40, 0, "\x00", "a").update(1, 41, 0, "\x00", "b").back(0)
	was := fmt.Sprint(x.all)
	l, e := restart.Losers(x.all, 0)
	if e != api.OK || fmt.Sprint(x.all) != was {
		t.Error(e)
	}
	again, _ := restart.Losers(x.all, 0)
	l[0] = 77
	if !slices.Equal(again, []uint64{1, 2}) {
		t.Error(again)
	}
}

// P9.1, 4.: a page that is no group's, also of a transaction that is over
func TestPages(t *testing.T) {
	for _, sectors := range []int{64, 85, 90, 100} { // of 85 and 90 some are left at the end that are no group's
		su := layout(t, sectors)
		last, many, _ := super.Group(su, su.Groups-1)
		for page := range sectors + 3 {
			in := page >= firstOf && page < last+many
			u := from(0).update(1, page, 0, "\x00", "a")
			c := from(0).lay(api.Record{Kind: api.RecBack, Txn: 1, Page: page, After: []byte("b")}).over(1)
			for i, x := range []*draft{from(0).update(1, page, 0, "\x00", "a").commit(1), u, c} {
				d := x.logged(t, sectors)
				if !in {
					refused(t, d, 8, api.ErrBytes)
					continue
				}
				s, _ := found(t, d)
				is(t, s, page, []string{"a", "", "b"}[i])
			}
			if l, e := restart.Losers(u.all, 0); len(l) != 1 || e != api.OK { // it does not ask for pages
				t.Error(page, l, e)
			}
		}
	}
	refused(t, from(0).update(1, 4095, 0, "\x00", "a").commit(1).logged(t, 100), 8, api.ErrBytes)
}

// P9.1, 5.: what is done again is what a page has not had
func TestRedo(t *testing.T) {
	x := from(0).update(1, 40, 0, "\x00\x00", "ab").update(1, 40, 1, "b", "c").commit(1).update(2, 40, 0, "a", "z").back(3).over(2)
	ends := []uint64{x.all[0].End, x.all[1].End, x.all[3].End, x.all[4].End}
	for _, at := range []uint64{0, 1, ends[0] - 1, ends[0], ends[0] + 1, ends[1] - 1, ends[1], ends[2] - 1, ends[2], ends[3] - 1, ends[3], ends[3] + 1, x.end} {
		d := x.logged(t, 64)
		put(t, d, 40, raw(at, "...."))
		want := []byte("....")
		lsn := at
		var firsts []uint64
		for _, r := range x.all {
			if r.Rec.Page == 40 && r.End > at {
				copy(want[r.Rec.Off:], r.Rec.After)
				lsn = r.End
				firsts = append(firsts, r.LSN)
			}
		}
		s, losers := found(t, d)
		is(t, s, 40, string(want))
		if _, now, _ := s.Pool().Get(40); now != lsn || len(losers) != 0 {
			t.Error(at, "LSN", now, "not", lsn)
		}
		least, dirty := s.Pool().First()
		if dirty != (len(firsts) > 0) || dirty && least != firsts[0] {
			t.Error(at, "first change", least, dirty, firsts)
		}
		ok(t, restart.Settle(s))
		if got, _ := d.Read(40); got != raw(lsn, string(want)) {
			t.Error(at, got[:12])
		}
	}
}

// P9.1, 5.: pages in memory are those that the log names, and they are held
func TestRedoHeld(t *testing.T) {
	x := from(0)
	for i := range 30 {
		x.update(uint64(i+1), firstOf+i, 0, "\x00", "a").commit(uint64(i + 1))
	}
	d := x.logged(t, 64)
	s, _ := found(t, d)
	if s.Pool().Frames() != 30 || len(s.Pool().Dirty()) != 30 || !s.Pool().Held() {
		t.Error(s.Pool().Frames(), s.Pool().Dirty())
	}
	ok(t, restart.Settle(s))
	if s.Pool().Held() || len(s.Pool().Dirty()) != 0 {
		t.Error("held")
	}
	is(t, s, 60, "")
	if s.Pool().Frames() != 8 {
		t.Error(s.Pool().Frames())
	}
	for i := range 30 {
		is(t, s, firstOf+i, "a")
	}
}

// P9.1: the pool has as many frames as are asked for
func TestFindFrames(t *testing.T) {
	d := made(t, 64)
	for _, frames := range []int{8, 9, 20} {
		s, _, e := restart.Find(d, frames)
		ok(t, e, restart.Settle(s))
		all(t, s)
		if s.Pool().Frames() != frames {
			t.Error(s.Pool().Frames(), "not", frames)
		}
	}
}

// P9.1, 5.: no page of a group may have an LSN above the log's end, whether the log names it or not
func TestHeard(t *testing.T) {
	for _, x := range []*draft{from(0), from(0).update(1, 40, 0, "\x00", "a").commit(1), from(232*30).update(1, 41, 0, "\x00", "a"), from(50).commit(9)} {
		for _, sectors := range []int{64, 85} {
			su := layout(t, sectors)
			from, many, _ := super.Group(su, 0)
			for page := from; page < sectors; page++ {
				for _, lsn := range []uint64{x.end, x.end + 1, math.MaxUint64} {
					d := x.logged(t, sectors)
					put(t, d, page, raw(lsn, "text"))
					if page < from+many && lsn > x.end {
						refused(t, d, 8, api.ErrBytes)
					} else {
						found(t, d)
					}
				}
			}
		}
	}
	x := from(0).update(1, 40, 0, "\x00", "a") // the end as the log is read, not behind what changes back
	d := x.logged(t, 64)
	put(t, d, 41, raw(x.end+1, ""))
	refused(t, d, 8, api.ErrBytes)
	put(t, d, 41, raw(0, ""))
	put(t, d, 40, raw(x.end+1, ""))
	refused(t, d, 8, api.ErrBytes)
}

// P9.1, 6.: losers are rolled back each whole, the one whose last record stands last first
func TestUndo(t *testing.T) {
	x := from(0).
		update(4, 40, 0, "\x00", "a").update(2, 41, 0, "\x00", "b").update(7, 42, 0, "\x00", "c").
		update(2, 41, 1, "\x00\x00", "de").update(9, 43, 0, "\x00", "f").commit(9).update(4, 44, 0, "\x00", "g").update(2, 45, 0, "\x00", "h")
	d := x.logged(t, 64)
	s, losers := found(t, d)
	if !slices.Equal(losers, []uint64{2, 4, 7}) {
		t.Error(losers)
	}
	x.back(7).back(3).back(1).over(2).back(6).back(0).over(4).back(2).over(7)
	for i, text := range []string{"", "", "", "f", "", ""} {
		is(t, s, 40+i, text)
	}
	tells(t, d, s, 0, x.all)
}

// P9.1, 6., P9.4: one that was changed back in part is changed back where that was left
func TestUndoParts(t *testing.T) {
	start := func() *draft {
		return from(0).update(4, 40, 0, "\x00", "a").update(2, 41, 0, "\x00", "b").update(4, 40, 0, "a", "x").update(4, 42, 0, "\x00", "c").commit(9)
	}
	lays := []func(*draft) *draft{
		func(x *draft) *draft { return x.back(3) }, func(x *draft) *draft { return x.back(2) }, func(x *draft) *draft { return x.back(0) },
		func(x *draft) *draft { return x.over(4) }, func(x *draft) *draft { return x.back(1) }, func(x *draft) *draft { return x.over(2) },
	}
	whole := start()
	for _, lay := range lays {
		lay(whole)
	}
	for n := range len(lays) + 1 {
		x := start()
		for _, lay := range lays[:n] {
			lay(x)
		}
		d := x.logged(t, 64)
		s, losers := found(t, d)
		want := []uint64{4, 2}
		if n > 3 {
			want = want[1:]
		}
		if n > 5 {
			want = nil
		}
		if !slices.Equal(losers, want) {
			t.Error(n, losers)
		}
		for i := range 3 {
			is(t, s, 40+i, "")
		}
		tells(t, d, s, 0, whole.all)
	}
}

// P9.1, 6.: changing back does what the log says, whatever the page had
func TestUndoBefore(t *testing.T) {
	d := from(0).update(1, 40, 1, "xy", "ab").logged(t, 64)
	is(t, first(found(t, d)), 40, "\x00xy")
}

// updates are many of one transaction, of so many bytes that differ in all.
func (x *draft) updates(n uint64, many, size int) *draft {
	for i := range many {
		part := size / (many - i)
		size -= part
		x.update(n, 40+i%20, 0, string(make([]byte, part)), string(bytes.Repeat([]byte{byte(i + 1)}, part)))
	}
	return x
}

// needs is how much of the log's room changing so many updates back needs.
func needs(many, size int) int { return many*35 + size + endSize }

// P9.1: ErrFull, to the byte
func TestFull(t *testing.T) {
	for _, x := range []struct {
		many, size int
		full       bool
	}{{10, 915, false}, {11, 892, true}, {10, 916, true}, {10, 914, false}} {
		log := from(0).updates(1, x.many, x.size)
		if full := int(log.end)+needs(x.many, x.size) > roomOf64; full != x.full {
			t.Fatal(x, log.end)
		}
		d := log.logged(t, 64)
		if x.full {
			refused(t, d, 8, api.ErrFull)
			continue
		}
		s, losers := found(t, d)
		if !slices.Equal(losers, []uint64{1}) || s.Log().Free() != roomOf64-int(log.end)-needs(x.many, x.size) {
			t.Error(losers, s.Log().Free())
		}
		ok(t, restart.Settle(s))
	}
	// of several losers the room has to do for all
	two := func(size int) *draft { return from(0).updates(1, 4, 450).updates(2, 4, size) }
	both := (roomOf64 - 16*35 - 2*endSize - 3*450) / 3
	is(t, first(found(t, two(both).logged(t, 64))), 40, "")
	refused(t, two(both+1).logged(t, 64), 8, api.ErrFull)
	if _, losers := found(t, two(both+1).commit(2).logged(t, 64)); !slices.Equal(losers, []uint64{1}) {
		t.Error(losers)
	}
}

// P9.1: which error, where there are several
func TestErrorsOrder(t *testing.T) {
	full := func() *draft { return from(0).updates(1, 11, 892) }
	dead := full().logged(t, 64)
	gone(t, dead)
	refused(t, dead, 8, api.ErrFull)
	refused(t, dead, 7, api.ErrArg)

	heard := full().logged(t, 64)
	put(t, heard, 63, raw(1<<40, ""))
	refused(t, heard, 8, api.ErrBytes)
	gone(t, heard)
	refused(t, heard, 8, api.ErrBytes)

	for _, x := range []*draft{
		full().lay(api.Record{Kind: api.RecBack, Txn: 2, Page: 40, After: []byte{1}}), // a loser that is none's, behind one for which there is no room
		full().lay(api.Record{Kind: api.RecBack, Txn: 2, Page: 3, After: []byte{1}}).over(2),
		full().lay(api.Record{Kind: api.RecCommit, Txn: 2, Prev: 1}),
		from(0).lay(api.Record{Kind: api.RecBack, Txn: 2, Page: 40, After: []byte{1}}).updates(1, 11, 892),
	} {
		d := x.logged(t, 64)
		refused(t, d, 8, api.ErrBytes)
		gone(t, d)
		refused(t, d, 8, api.ErrBytes)
		refused(t, d, 4097, api.ErrArg)
	}
	none, _ := disk.New(64)
	gone(t, none)
	refused(t, none, 8, api.ErrBytes)
}

// P9.1: ErrDead, also where nothing is to be changed back
func TestFindDead(t *testing.T) {
	for _, x := range []*draft{from(0), from(0).update(1, 40, 0, "\x00", "a").commit(1), from(0).update(1, 40, 0, "\x00", "a")} {
		d := x.logged(t, 64)
		d.Fuse(0) // it goes with the next write alone, and there is none
		found(t, d)
		gone(t, d)
		refused(t, d, 8, api.ErrDead)
		d = d.Crash(nil)
		found(t, d)
	}
}

// P9.2: Settle
func TestSettle(t *testing.T) {
	for i, s := range []*txn.Store{nil, {}} {
		if e := restart.Settle(s); e != api.ErrNil {
			t.Error(i, e)
		}
	}
	x := from(100).update(3, 40, 0, "\x00", "a").commit(3).update(4, 41, 0, "\x00", "b")
	d := x.logged(t, 64)
	s, _ := found(t, d)
	x.back(2).over(4)
	ok(t, restart.Settle(s))
	want := api.Master{Epoch: 2, Seq: 2, Tail: x.end}
	if s.Master() != want || s.Log().Tail() != x.end || s.Log().Lasts() != x.end || s.Pool().Held() || len(s.Pool().Dirty()) != 0 {
		t.Error(s.Master(), s.Log().Tail(), s.Log().Lasts(), s.Pool().Held())
	}
	if m, there := restart.Masters(d); m != want || !there || len(d.Loose()) != 0 {
		t.Error(m, there, d.Loose())
	}
	if p, _ := d.Read(40); p != raw(x.all[0].End, "a") {
		t.Error(p[:12])
	}
	if p, _ := d.Read(41); p != raw(x.all[3].End, "") {
		t.Error(p[:12])
	}
	ok(t, restart.Settle(s)) // again: a master more
	want.Seq++
	if m, _ := restart.Masters(d); m != want || s.Master() != want {
		t.Error(m)
	}
	s, losers := found(t, d)
	if want.Epoch++; len(losers) != 0 || s.Master() != want || s.Log().End() != x.end {
		t.Error(losers, s.Master())
	}
	is(t, s, 40, "a")
	is(t, s, 41, "")
}

// P9.2: a store with transactions on their way, that isn't one that was found
func TestSettleWays(t *testing.T) {
	d, _ := disk.New(64)
	su := layout(t, 64)
	l, _, _ := wal.Open(d, su, 0, 1)
	p, _ := pool.New(d, l, 8, true)
	s, e := txn.New(d, su, api.Master{Epoch: 1}, l, p)
	ok(t, e)
	n, _ := s.Begin()
	ok(t, s.Commit(n))
	n, _ = s.Begin()
	ok(t, s.Update(n, 40, 0, []byte("a")), restart.Settle(s))
	if l.Tail() != 0 || l.Lasts() != l.End() || p.Held() || !slices.Equal(s.Ways(), []uint64{n}) {
		t.Error(l.Tail(), l.Lasts(), s.Ways())
	}
}

// P9.2: ErrDead; then it is not settled
func TestSettleDead(t *testing.T) {
	d := from(0).update(3, 40, 0, "\x00", "a").logged(t, 64)
	s, _ := found(t, d)
	gone(t, d)
	was := d.Copy()
	if e := restart.Settle(s); e != api.ErrDead || !s.Pool().Held() || s.Master().Seq != 1 || !d.Same(was) {
		t.Error(e, s.Pool().Held())
	}
	d = made(t, 64)
	s, _ = found(t, d)
	gone(t, d) // nothing is changed back, nothing is dirty
	if e := restart.Settle(s); e != api.ErrDead || !s.Pool().Held() {
		t.Error(e)
	}
}

// all are the pages of a store's groups.
func all(t *testing.T, s *txn.Store) []api.Page {
	t.Helper()
	from, _, _ := super.Group(s.Super(), 0)
	var l []api.Page
	for i := from; i < s.Super().Sectors; i++ {
		p, e := s.Read(i)
		ok(t, e)
		l = append(l, p)
	}
	return l
}

// P9.4, P0.3: the power goes at each write of Settle, and whatever lasts: what is found is the same
func TestSettleParts(t *testing.T) {
	x := from(0).updates(3, 5, 400).commit(3).updates(4, 6, 500).update(5, 60, 0, "\x00", "x").back(11)
	want := all(t, first(found(t, x.logged(t, 64))))
	for n := 0; ; n++ {
		d := x.logged(t, 64)
		s, _ := found(t, d)
		d.Fuse(n)
		e := restart.Settle(s)
		if e != api.OK && e != api.ErrDead {
			t.Fatal(n, e)
		}
		for _, picks := range [][]int{nil, {1}, {0, 1}, {1, 0, 1}, {0, 0, 1, 1}, {1, 1, 0, 1, 1, 0, 1}, slices.Repeat([]int{1}, 40)} {
			after := d.Crash(picks)
			s, losers := found(t, after)
			if !reflect.DeepEqual(all(t, s), want) || e == api.OK && len(losers) > 0 {
				t.Error(n, picks, losers)
			}
			ok(t, restart.Settle(s))
			s, losers = found(t, after)
			if !reflect.DeepEqual(all(t, s), want) || len(losers) != 0 {
				t.Error(n, picks, losers)
			}
		}
		if e == api.OK {
			break
		}
	}
}

// P9.4: found again it is the same, and one finding is apart from another one
func TestFindAgain(t *testing.T) {
	d := from(0).updates(3, 5, 400).commit(3).updates(4, 6, 500).update(5, 60, 0, "\x00", "x").logged(t, 64)
	a, l := found(t, d)
	b, m := found(t, d)
	if !slices.Equal(l, m) || !reflect.DeepEqual(all(t, a), all(t, b)) || a.Master() != b.Master() || a.Log().End() != b.Log().End() {
		t.Error(l, m, a.Master(), b.Master())
	}
	n, _ := a.Begin()
	ok(t, a.Update(n, 60, 0, []byte("other")))
	l[0] = 9
	is(t, b, 60, "")
	c, o := found(t, d)
	is(t, c, 60, "")
	if !slices.Equal(o, m) {
		t.Error(o)
	}
}
