package wal_test

import (
	"bytes"
	"encoding/binary"
	"hash/crc32"
	"math"
	"math/rand"
	"slices"
	"testing"

	"hornbook/api"
	"hornbook/disk"
	"hornbook/record"
	"hornbook/super"
	"hornbook/wal"
)

const size = api.LogBytes

// made is the layout of so many sectors.
func made(t *testing.T, sectors int) api.Super {
	t.Helper()
	su, e := super.Make(sectors)
	if e != api.OK {
		t.Fatal("Make", sectors, e)
	}
	return su
}

// blank is a disk of noughts, and its layout.
func blank(t *testing.T, sectors int) (*disk.Disk, api.Super) {
	t.Helper()
	d, e := disk.New(sectors)
	if e != api.OK {
		t.Fatal(sectors, e)
	}
	return d, made(t, sectors)
}

// opened is a log that is opened without an error.
func opened(t *testing.T, d *disk.Disk, su api.Super, tail, epoch uint64) (*wal.Log, []api.Logged) {
	t.Helper()
	l, records, e := wal.Open(d, su, tail, epoch)
	if e != api.OK || l == nil {
		t.Fatal("Open", tail, epoch, e)
	}
	return l, records
}

// some is so many bytes of which no two neighbours are the same.
func some(n, seed int) []byte {
	b := make([]byte, n)
	for i := range b {
		b[i] = byte(37*i + 11*seed + 5)
	}
	return b
}

func commit(txn uint64) api.Record { return api.Record{Kind: api.RecCommit, Txn: txn, Prev: 3 * txn} }

// update is a record of 35 and twice so many bytes.
func update(txn uint64, n int) api.Record {
	return api.Record{Kind: api.RecUpdate, Txn: txn, Prev: 7, Page: 40, After: some(n, int(txn)), Before: some(n, 1)}
}

// back is a record of 35 and so many bytes.
func back(txn uint64, n int) api.Record {
	return api.Record{Kind: api.RecBack, Txn: txn, Prev: 7, Next: 8, Page: 41, After: some(n, int(txn))}
}

// filling are records of so many bytes in all.
func filling(t *testing.T, n int) []api.Record {
	t.Helper()
	var l []api.Record
	for i := uint64(1); n > 0; i++ {
		r := back(i, 197) // 232 bytes
		if n < 2*size {   // the last two are what is left, and neither is below the least
			half := n
			if n > size {
				half = n / 2
			}
			if half < 36 {
				t.Fatal("no record of", half)
			}
			r = back(i, half-35)
		}
		l, n = append(l, r), n-record.Size(r)
	}
	return l
}

// bad are records that may not be.
func bad() []api.Record {
	return []api.Record{{}, {Kind: api.RecCommit}, {Kind: 5, Txn: 1}, {Kind: api.RecEnd, Txn: 1, Page: 1}, {Kind: api.RecUpdate, Txn: 1},
		{Kind: api.RecUpdate, Txn: 1, Off: 248, Before: []byte{1}, After: []byte{1}}, {Kind: api.RecBack, Txn: 1, Before: []byte{1}, After: []byte{1}},
		{Kind: api.RecBack, Txn: 1, Page: -1, After: []byte{1}}, {Kind: api.RecBack, Txn: 1, After: make([]byte, 249)}}
}

// raw is a log's sector that says this, whether it may be one or not: by another way than the program's.
func raw(k, epoch uint64, many uint32, body []byte) api.Sector {
	var s api.Sector
	binary.LittleEndian.PutUint64(s[0:], k)
	binary.LittleEndian.PutUint64(s[8:], epoch)
	binary.LittleEndian.PutUint32(s[16:], many)
	copy(s[24:], body)
	return summed(s)
}

// summed is a log's sector with a right sum.
func summed(s api.Sector) api.Sector {
	rest := slices.Concat(s[:20], s[24:])
	binary.LittleEndian.PutUint32(s[20:], crc32.Checksum(rest, crc32.MakeTable(crc32.Castagnoli)))
	return s
}

// laid is a log's sector with all bytes that there are.
func laid(k, epoch uint64, body []byte) api.Sector { return raw(k, epoch, uint32(len(body)), body) }

// at is where a log's sector lies.
func at(su api.Super, k uint64) int { return 3 + int(k%uint64(su.Log)) }

// put lays a sector where the log's sector k lies; it lasts.
func put(t *testing.T, d *disk.Disk, su api.Super, k uint64, s api.Sector) {
	t.Helper()
	if d.Write(at(su, k), s) != api.OK || d.Barrier() != api.OK {
		t.Fatal("Write", k)
	}
}

// sectorAt is what is read where the log's sector k lies.
func sectorAt(d *disk.Disk, su api.Super, k uint64) api.Sector {
	s, _ := d.Read(at(su, k))
	return s
}

// joined are the bytes of records one behind the other, from a place on.
func joined(t *testing.T, from uint64, l ...api.Record) []byte {
	t.Helper()
	var all []byte
	for _, r := range l {
		b, e := record.Bytes(r, from+uint64(len(all)))
		if e != api.OK {
			t.Fatal(r, e)
		}
		all = append(all, b...)
	}
	return all
}

// logged are records as they are told of a place.
func logged(from uint64, l ...api.Record) []api.Logged {
	var all []api.Logged
	for _, r := range l {
		end := from + uint64(record.Size(r))
		all = append(all, api.Logged{LSN: from, End: end, Rec: r})
		from = end
	}
	return all
}

func sameLogged(a, b []api.Logged) bool {
	return slices.EqualFunc(a, b, func(x, y api.Logged) bool {
		return x.LSN == y.LSN && x.End == y.End && record.Same(x.Rec, y.Rec)
	})
}

// lay lays bytes, from a place of the log on, into whole sectors; ahead of the place its sector has noughts. The last sector has what is left.
func lay(t *testing.T, d *disk.Disk, su api.Super, from, epoch uint64, b []byte) {
	t.Helper()
	b = slices.Concat(make([]byte, from%size), b)
	for k := from / size; ; k++ {
		n := min(len(b), size)
		put(t, d, su, k, laid(k, epoch, b[:n]))
		b = b[n:]
		if n < size {
			return
		}
	}
}

// appends appends records, each of which has to be told its place.
func appends(t *testing.T, l *wal.Log, records ...api.Record) {
	t.Helper()
	for i, r := range records {
		end, free := l.End(), l.Free()
		lsn, e := l.Append(r)
		if e != api.OK || lsn != end || l.End() != end+uint64(record.Size(r)) || l.Free() != free-record.Size(r) {
			t.Fatal("Append", i, lsn, e, end, free, l.End(), l.Free())
		}
	}
}

// flushes lets all last.
func flushes(t *testing.T, l *wal.Log) {
	t.Helper()
	if e := l.Flush(l.End()); e != api.OK || l.Lasts() != l.End() {
		t.Fatal("Flush", e, l.Lasts(), l.End())
	}
}

// looks are all that a log tells of itself.
type looks struct {
	end, lasts, tail uint64
	free             int
}

func look(l *wal.Log) looks { return looks{l.End(), l.Lasts(), l.Tail(), l.Free()} }

// refused is what a call did that was refused, and changed nothing.
func refused(t *testing.T, l *wal.Log, want api.Errno, call func() api.Errno) {
	t.Helper()
	was := look(l)
	if e := call(); e != want || look(l) != was {
		t.Error("told", e, "not", want, was, look(l))
	}
}

func errno(lsn uint64, e api.Errno) api.Errno {
	if lsn != 0 {
		return -1
	}
	return e
}

func TestExamples(t *testing.T) {
	d, su := blank(t, 64)
	l, records := opened(t, d, su, 0, 1)
	if len(records) != 0 || l.End() != 0 {
		t.Error(records, l.End())
	}
	a, b, c := commit(1), update(2, 5), back(3, 100)
	if lsn, e := l.Append(a); lsn != 0 || e != api.OK {
		t.Error(lsn, e)
	}
	if lsn, e := l.Append(b); lsn != 35 || e != api.OK {
		t.Error(lsn, e)
	}
	if l.End() != 35+45 {
		t.Error(l.End())
	}
	flushes(t, l)
	m, records := opened(t, d, su, 0, 2)
	if !sameLogged(records, logged(0, a, b)) || m.End() != 80 || m.Lasts() != 80 {
		t.Error(records, look(m))
	}
	appends(t, m, c)
	if _, records := opened(t, d.Crash(nil), su, 0, 2); !sameLogged(records, logged(0, a, b)) {
		t.Error(records)
	}
}

// P6.1: ErrArg
func TestOpenArgs(t *testing.T) {
	d, su := blank(t, 128)
	small, _ := blank(t, 127)
	for i, x := range []struct {
		d           *disk.Disk
		su          api.Super
		tail, epoch uint64
	}{
		{nil, su, 0, 1}, {&disk.Disk{}, su, 0, 1}, {nil, api.Super{}, 0, 1}, {small, su, 0, 1},
		{d, api.Super{}, 0, 1}, {d, api.Super{Sectors: 128, Log: 15, Groups: 2}, 0, 1}, {d, api.Super{Sectors: 128, Log: 16, Groups: 1}, 0, 1},
		{d, api.Super{Sectors: 63, Log: 16, Groups: 1}, 0, 1}, {d, api.Super{Sectors: -128, Log: 16, Groups: 2}, 0, 1}, {d, made(t, 129), 0, 1}, {d, made(t, 4096), 0, 1},
		{d, su, 0, 0}, {d, su, 5, 0}, {d, su, 0, 1<<62 + 1}, {d, su, 0, 1 << 63}, {d, su, 0, math.MaxUint64},
		{d, su, 1<<62 + 1, 1}, {d, su, 1 << 63, 1}, {d, su, math.MaxUint64, 1}, {d, su, math.MaxUint64 / size * size, 1}, {d, su, (1<<62/size + 1) * size, 1},
	} {
		if l, records, e := wal.Open(x.d, x.su, x.tail, x.epoch); l != nil || records != nil || e != api.ErrArg {
			t.Error(i, l, records, e)
		}
	}
	big, _ := blank(t, 300) // more sectors than it says may be
	for _, x := range []*disk.Disk{d, big} {
		for _, epoch := range []uint64{1, 2, 1 << 32, 1 << 62} {
			opened(t, x, su, 0, epoch)
			opened(t, x, su, 1<<62/size*size, epoch)
		}
	}
}

// P6.1: a log without the tail's sector
func TestOpenNone(t *testing.T) {
	for _, sectors := range []int{64, 128, 200, 4096} {
		d, su := blank(t, sectors)
		for _, k := range []uint64{0, 1, 15, 16, 17, 255, 256, 1 << 40, 1<<62/size - 1, 1 << 62 / size} {
			l, records := opened(t, d, su, k*size, 1)
			want := looks{k * size, k * size, k * size, size * (su.Log - 1)}
			if len(records) != 0 || look(l) != want {
				t.Error(k, records, look(l))
			}
			for _, more := range []uint64{1, 2, 116, 231} {
				tail := k*size + more
				if tail > 1<<62 {
					continue
				}
				if l, records, e := wal.Open(d, su, tail, 1); l != nil || records != nil || e != api.ErrBytes {
					t.Error(tail, l, records, e)
				}
			}
		}
		if l, _, e := wal.Open(d, su, 1<<62, 1); l != nil || e != api.ErrBytes { // the greatest tail may be
			t.Error(l, e)
		}
	}
}

// P6.1: the greatest tail
func TestOpenGreatest(t *testing.T) {
	d, su := blank(t, 64)
	records := []api.Record{commit(1), update(2, 200), commit(3)}
	lay(t, d, su, 1<<62, 9, joined(t, 1<<62, records...))
	l, got := opened(t, d, su, 1<<62, 9)
	if !sameLogged(got, logged(1<<62, records...)) || l.Tail() != 1<<62 {
		t.Error(got, look(l))
	}
	appends(t, l, update(4, 248))
	flushes(t, l)
	if _, got := opened(t, d, su, 1<<62, 10); !sameLogged(got, logged(1<<62, append(records, update(4, 248))...)) {
		t.Error(got)
	}
}

// P6.1: nothing is written
func TestOpenWritesNothing(t *testing.T) {
	d, su := blank(t, 64)
	lay(t, d, su, 3*size, 4, joined(t, 3*size, filling(t, 1000)...))
	if d.Write(60, api.Sector{1}) != api.OK {
		t.Fatal("Write")
	}
	was, writes := d.Copy(), d.Writes()
	for _, tail := range []uint64{0, size, 3 * size, 3*size + 1, 4 * size, 100} {
		wal.Open(d, su, tail, 5)
		wal.Open(d, su, tail, 3)
	}
	if !d.Same(was) || d.Writes() != writes || !slices.Equal(d.Loose(), []int{60}) {
		t.Error(d.Writes(), d.Loose())
	}
	d.Fuse(0)
	d.Write(60, api.Sector{2})
	if _, records := opened(t, d, su, 3*size, 5); len(records) == 0 || !d.Dead() {
		t.Error("without power it is read, too", records)
	}
}

// base is a log of five sectors, of which the last one has 72 bytes, in an epoch, from a tail on.
type base struct {
	d       *disk.Disk
	su      api.Super
	tail    uint64
	records []api.Record
}

func based(t *testing.T, tail, epoch uint64) base {
	t.Helper()
	d, su := blank(t, 64)
	end := tail/size*size + 4*size + 72
	b := base{d, su, tail, filling(t, int(end-tail))}
	lay(t, d, su, tail, epoch, joined(t, tail, b.records...))
	return b
}

// reads is how many of a log's records are told, when it is read in an epoch; they are the first ones.
func (b base) reads(t *testing.T, epoch uint64, want int) {
	t.Helper()
	l, records := opened(t, b.d, b.su, b.tail, epoch)
	all := logged(b.tail, b.records...)
	end := b.tail
	if want > 0 {
		end = all[want-1].End
	}
	if !sameLogged(records, all[:want]) || l.End() != end || l.Lasts() != end || l.Tail() != b.tail {
		t.Error("read", len(records), "of", len(all), "not", want, look(l))
	}
}

// none: it is no log.
func (b base) none(t *testing.T, epoch uint64) {
	t.Helper()
	if l, records, e := wal.Open(b.d, b.su, b.tail, epoch); l != nil || records != nil || e != api.ErrBytes {
		t.Error(records, e)
	}
}

// within is how many of the records end within so many sectors, and so many bytes.
func (b base) within(sectors, more int) int {
	n := 0
	for _, r := range logged(b.tail, b.records...) {
		if r.End <= (b.tail/size+uint64(sectors))*size+uint64(more) {
			n++
		}
	}
	return n
}

// with is the same with another sector in the place of the i-th one from the tail's on.
func (b base) with(t *testing.T, i uint64, change func(s api.Sector) api.Sector) base {
	t.Helper()
	b.d = b.d.Copy()
	k := b.tail/size + i
	put(t, b.d, b.su, k, change(sectorAt(b.d, b.su, k)))
	return b
}

// number, epoch and many set a word of a log's sector, and its sum.
func number(k uint64) func(api.Sector) api.Sector {
	return func(s api.Sector) api.Sector {
		binary.LittleEndian.PutUint64(s[0:], k)
		return summed(s)
	}
}

func epoch(n uint64) func(api.Sector) api.Sector {
	return func(s api.Sector) api.Sector {
		binary.LittleEndian.PutUint64(s[8:], n)
		return summed(s)
	}
}

func many(n uint32) func(api.Sector) api.Sector {
	return func(s api.Sector) api.Sector {
		binary.LittleEndian.PutUint32(s[16:], n)
		if n < size { // noughts behind those that there are
			clear(s[24+n:])
		}
		return summed(s)
	}
}

// tails are places of a sector's beginning, of its middle, and of its end, in several rounds of 16 sectors.
var tails = []uint64{0, 100, 231, size, 3*size + 1, 13 * size, 14*size + 180, 16 * size, 16*size + 50, 1<<40*size + 7, 1 << 40 * size}

// P6.1: whole, and with a sector that isn't the log's
func TestRead(t *testing.T) {
	for _, tail := range tails {
		b := based(t, tail, 6)
		k := tail / size
		b.reads(t, 6, len(b.records))
		b.reads(t, 7, len(b.records))
		for i := range uint64(5) {
			for _, c := range []base{
				b.with(t, i, func(api.Sector) api.Sector { return api.Sector{} }),
				b.with(t, i, number(k+i+1)), b.with(t, i, number(k+i-1)), b.with(t, i, number(k+i+16)), b.with(t, i, number(k+i-16)), b.with(t, i, number(math.MaxUint64)),
				b.with(t, i, func(s api.Sector) api.Sector { return laid(k+i+16, 6, s[24:]) }),
				b.with(t, i, many(233)), b.with(t, i, many(256)), b.with(t, i, many(1<<16)), b.with(t, i, many(1<<31)), b.with(t, i, many(math.MaxUint32)),
				b.with(t, i, epoch(8)), b.with(t, i, epoch(1<<63)), b.with(t, i, epoch(math.MaxUint64)),
			} {
				if i == 0 && tail%size != 0 {
					c.none(t, 7)
				} else {
					c.reads(t, 7, b.within(int(i), 0))
				}
			}
		}
	}
}

// P6.1: epochs
func TestReadEpochs(t *testing.T) {
	for _, tail := range tails {
		b := based(t, tail, 6)
		whole := len(b.records)
		if tail%size == 0 { // the tail's sector may be of the epoch below, at least
			b.reads(t, 8, 0)
			b.reads(t, 1<<62, 0)
		} else {
			b.reads(t, 8, whole)
			b.reads(t, 1<<62, whole)
		}
		for _, read := range []uint64{1, 5} { // of a later epoch than the one that is read in
			if tail%size == 0 {
				b.reads(t, read, 0)
			} else {
				b.none(t, read)
			}
		}
		for i := range uint64(5) {
			later := b.with(t, i, epoch(7)) // what is behind it is elder than it, then
			if i == 4 {
				later.reads(t, 7, whole)
			} else {
				later.reads(t, 7, b.within(int(i)+1, 0))
			}
			if i > 0 { // elder than the one ahead of it
				b.with(t, i, epoch(5)).reads(t, 7, b.within(int(i), 0))
				b.with(t, i, epoch(0)).reads(t, 7, b.within(int(i), 0))
			}
		}
		rising := b
		for i := range uint64(5) {
			rising = rising.with(t, i, epoch(6+i/2)) // 6, 6, 7, 7, 8
		}
		if tail%size == 0 {
			rising.reads(t, 8, 0)
		} else {
			rising.reads(t, 8, whole)
		}
		rising.reads(t, 7, b.within(4, 0))
		rising.with(t, 0, epoch(7)).reads(t, 8, b.within(1, 0))
		rising.with(t, 0, epoch(7)).with(t, 1, epoch(7)).reads(t, 8, whole)
	}
}

// P6.1: an epoch of 0 is below the first one by one
func TestReadFirstEpoch(t *testing.T) {
	b := based(t, 0, 0)
	b.reads(t, 1, len(b.records))
	b.reads(t, 2, 0)
}

// P6.1: sectors that have fewer bytes
func TestReadMany(t *testing.T) {
	for _, tail := range tails {
		b := based(t, tail, 6)
		ahead := int(tail % size)
		for i := range uint64(5) {
			for _, n := range []int{0, 1, 35, 71, 72, 99, 100, 101, 180, 230, 231, 232} {
				if i == 4 && n > 72 {
					continue
				}
				c := b.with(t, i, many(uint32(n)))
				switch {
				case i == 0 && n < ahead:
					c.none(t, 6)
				case n == size:
					c.reads(t, 6, len(b.records))
				default:
					c.reads(t, 6, b.within(int(i), n))
				}
			}
		}
		for n := range ahead { // each number below what stands ahead of the tail
			b.with(t, 0, many(uint32(n))).none(t, 6)
		}
		if ahead > 0 {
			b.with(t, 0, many(uint32(ahead))).reads(t, 6, 0)
		}
	}
}

// P6.1: each bit turned
func TestReadTurned(t *testing.T) {
	for _, tail := range []uint64{0, 15*size + 100} {
		b := based(t, tail, 6)
		for i := range uint64(5) {
			for bit := range 8 * api.SectorSize {
				c := b.with(t, i, func(s api.Sector) api.Sector {
					s[bit/8] ^= 1 << (bit % 8)
					return s
				})
				if i == 0 && tail%size != 0 {
					c.none(t, 6)
				} else {
					c.reads(t, 6, b.within(int(i), 0))
				}
			}
		}
	}
}

// P6.1: bytes that are no record's: the end is behind the last whole one, and what is appended stands there
func TestReadNoRecord(t *testing.T) {
	for _, tail := range tails {
		su := made(t, 64)
		few := filling(t, 500)
		whole := joined(t, tail, few...)
		end := tail + uint64(len(whole))
		for i, behind := range [][]byte{some(1, 1), make([]byte, 300), some(700, 2), joined(t, end, update(1, 100))[:234], joined(t, end+1, commit(1)), joined(t, end-1, commit(1)), slices.Concat([]byte{0}, joined(t, end+1, commit(1)))} {
			d, _ := blank(t, 64)
			lay(t, d, su, tail, 6, slices.Concat(whole, behind))
			l, records := opened(t, d, su, tail, 7)
			if !sameLogged(records, logged(tail, few...)) || l.End() != end || l.Lasts() != end {
				t.Error(tail, i, len(records), look(l))
			}
			appends(t, l, commit(9))
			flushes(t, l)
			if _, records := opened(t, d, su, tail, 8); tail%size != 0 && !sameLogged(records, logged(tail, append(few, commit(9))...)) {
				t.Error(tail, i, len(records))
			}
		}
	}
}

// P6.1: nothing of a log that is gone round by sectors that all are whole is read twice
func TestReadWholeRound(t *testing.T) {
	for _, tail := range []uint64{0, 5 * size, 7*size + 35, 16*size + 231, 31 * size} {
		d, su := blank(t, 64)
		from := tail / size * size
		n := 16*size - int(tail-from) // all that there can be
		records := filling(t, n)
		b := slices.Concat(make([]byte, tail-from), joined(t, tail, records...))
		for i := range uint64(16) {
			put(t, d, su, from/size+i, laid(from/size+i, 2, b[i*size:(i+1)*size]))
		}
		l, got := opened(t, d, su, tail, 2)
		if !sameLogged(got, logged(tail, records...)) || look(l) != (looks{from + 16*size, from + 16*size, tail, 0}) {
			t.Error(tail, len(got), len(records), look(l))
		}
		refused(t, l, api.ErrFull, func() api.Errno { return errno(l.Append(commit(1))) })
		refused(t, l, api.ErrFull, func() api.Errno { return l.Reserve(1) })
		if e := l.Reserve(0); e != api.OK {
			t.Error(e)
		}
		if e := l.SetTail(l.Lasts()); e != api.OK || l.Free() != 15*size {
			t.Error(e, l.Free())
		}
	}
}

// modelRead reads a log, sector by sector, as the document says, by another way than the program's.
func modelRead(d *disk.Disk, su api.Super, tail, epoch uint64) ([]api.Logged, api.Errno) {
	k, ahead := tail/size, int(tail%size)
	var text []byte
	var elder uint64
	for n := 0; ; n++ {
		s := sectorAt(d, su, k)
		many := binary.LittleEndian.Uint32(s[16:])
		its := binary.LittleEndian.Uint64(s[8:])
		is := summed(s) == s && binary.LittleEndian.Uint64(s[:]) == k && its <= epoch && its >= elder && many <= size
		if n == 0 {
			is = is && int(many) >= ahead && (ahead != 0 || its+1 >= epoch)
			if !is && ahead != 0 {
				return nil, api.ErrBytes
			}
		}
		if !is {
			break
		}
		text = append(text, s[24:24+many]...)
		elder = its
		k++
		if many < size {
			break
		}
	}
	var l []api.Logged
	if len(text) == 0 {
		return nil, api.OK
	}
	text = text[ahead:]
	for lsn := tail; ; {
		r, n, e := record.Of(text, lsn)
		if e != api.OK {
			return l, api.OK
		}
		l = append(l, api.Logged{LSN: lsn, End: lsn + uint64(n), Rec: r})
		text, lsn = text[n:], lsn+uint64(n)
	}
}

// P6.1, P0.5: any disk
func TestReadAny(t *testing.T) {
	r := rand.New(rand.NewSource(6))
	told := 0
	for n := range 3000 {
		sectors := []int{64, 136, 200}[n%3]
		d, su := blank(t, sectors)
		tail := uint64(r.Intn(3 * su.Log * size))
		if n%4 == 0 {
			tail = tail / size * size
		}
		records := filling(t, 36+r.Intn(size*su.Log/2))
		lay(t, d, su, tail, 5, joined(t, tail, records...))
		for range r.Intn(4) {
			k := tail/size + uint64(r.Intn(su.Log/2+1))
			s := sectorAt(d, su, k)
			switch r.Intn(7) {
			case 0:
				s = epoch(uint64(3 + r.Intn(5)))(s)
			case 1:
				s = many(uint32(r.Intn(300)))(s)
			case 2:
				s = number(k + uint64(r.Intn(3)-1)*uint64(su.Log))(s)
			case 3:
				s[r.Intn(256)] ^= 1 << r.Intn(8)
			case 4:
				s[24+r.Intn(size)] ^= 1
				s = summed(s)
			case 5:
				s = sectorAt(d, su, k+1)
			case 6:
				r.Read(s[:])
			}
			put(t, d, su, k, s)
		}
		was := d.Copy()
		read := uint64(4 + r.Intn(4))
		want, e := modelRead(d, su, tail, read)
		l, got, err := wal.Open(d, su, tail, read)
		if err != e || !sameLogged(got, want) || (e == api.OK) != (l != nil) || !d.Same(was) {
			t.Fatal(n, tail, read, len(got), err, len(want), e)
		}
		told += len(got)
	}
	if told == 0 {
		t.Error("nothing was ever read")
	}
}

// P6.2, P6.4: records stand one behind the other, in memory alone
func TestAppend(t *testing.T) {
	for _, tail := range []uint64{0, 7 * size, 16 * size, 1 << 50 * size} {
		d, su := blank(t, 64)
		was := d.Copy()
		l, _ := opened(t, d, su, tail, 1)
		appends(t, l, commit(1), update(2, 1), update(3, 248), back(4, 248), commit(5), back(6, 1))
		want := tail + 35 + 37 + 531 + 283 + 35 + 36
		if look(l) != (looks{want, tail, tail, 15*size - int(want-tail)}) || !d.Same(was) || d.Writes() != 0 {
			t.Error(look(l), d.Writes())
		}
		for _, r := range bad() {
			refused(t, l, api.ErrArg, func() api.Errno { return errno(l.Append(r)) })
			refused(t, l, api.ErrArg, func() api.Errno { return errno(l.Use(r)) })
		}
	}
}

// P6.2: up to the last byte of the room
func TestAppendFull(t *testing.T) {
	for _, sectors := range []int{64, 200, 4096} {
		for _, ahead := range []int{0, 35, 100, 231} {
			d, su := blank(t, sectors)
			if ahead > 0 {
				lay(t, d, su, uint64(ahead), 1, nil)
			}
			l, _ := opened(t, d, su, uint64(ahead), 1)
			room := size*(su.Log-1) - ahead
			if l.Free() != room {
				t.Fatal(sectors, ahead, l.Free())
			}
			appends(t, l, filling(t, room-40)...)
			for _, r := range []api.Record{back(1, 6), update(1, 3), update(1, 248), back(1, 248)} { // from one byte too many on
				refused(t, l, api.ErrFull, func() api.Errno { return errno(l.Append(r)) })
			}
			for _, r := range bad() {
				refused(t, l, api.ErrArg, func() api.Errno { return errno(l.Append(r)) })
			}
			appends(t, l, back(1, 5))
			if l.Free() != 0 || l.End() != uint64(size*(su.Log-1)) {
				t.Error(look(l))
			}
			refused(t, l, api.ErrFull, func() api.Errno { return errno(l.Append(commit(1))) })
			flushes(t, l)
			refused(t, l, api.ErrFull, func() api.Errno { return errno(l.Append(commit(1))) })
		}
	}
}

// P6.2, P6.5: what is reserved is kept free
func TestReserve(t *testing.T) {
	d, su := blank(t, 64)
	l, _ := opened(t, d, su, 0, 1)
	room := 15 * size
	for _, n := range []int{-1, -35, math.MinInt} {
		refused(t, l, api.ErrArg, func() api.Errno { return l.Reserve(n) })
	}
	for _, n := range []int{room + 1, room + 2, 1 << 31, 1 << 62, math.MaxInt} {
		refused(t, l, api.ErrFull, func() api.Errno { return l.Reserve(n) })
	}
	reserves := func(n int) {
		t.Helper()
		free := l.Free()
		if e := l.Reserve(n); e != api.OK || l.Free() != free-n {
			t.Fatal(n, e, l.Free(), free)
		}
	}
	reserves(0)
	reserves(room - 100)
	for _, n := range []int{101, math.MaxInt} {
		refused(t, l, api.ErrFull, func() api.Errno { return l.Reserve(n) })
	}
	refused(t, l, api.ErrFull, func() api.Errno { return errno(l.Append(back(1, 66))) }) // 101 bytes
	appends(t, l, back(1, 30))                                                           // 65
	refused(t, l, api.ErrFull, func() api.Errno { return errno(l.Append(back(1, 1))) })
	appends(t, l, commit(1))
	if l.Free() != 0 {
		t.Error(l.Free())
	}
	reserves(0)
	refused(t, l, api.ErrFull, func() api.Errno { return l.Reserve(1) })
}

// P6.2: Use takes what is reserved, and nothing else
func TestUse(t *testing.T) {
	d, su := blank(t, 64)
	l, _ := opened(t, d, su, 0, 1)
	uses := func(r api.Record) {
		t.Helper()
		end, free := l.End(), l.Free()
		if lsn, e := l.Use(r); lsn != end || e != api.OK || l.End() != end+uint64(record.Size(r)) || l.Free() != free {
			t.Fatal(lsn, e, end, free, look(l))
		}
	}
	refused(t, l, api.ErrFull, func() api.Errno { return errno(l.Use(commit(1))) })
	appends(t, l, commit(1), update(2, 50))
	l.Reserve(34)
	refused(t, l, api.ErrFull, func() api.Errno { return errno(l.Use(commit(1))) })
	l.Reserve(1)
	refused(t, l, api.ErrFull, func() api.Errno { return errno(l.Use(back(1, 1))) })
	uses(commit(1))
	refused(t, l, api.ErrFull, func() api.Errno { return errno(l.Use(commit(1))) })
	free := l.Free()
	l.Reserve(free)
	refused(t, l, api.ErrFull, func() api.Errno { return errno(l.Append(commit(1))) })
	for left := free; left >= 500; {
		r := update(uint64(left), left%200+1)
		uses(r)
		left -= record.Size(r)
		if l.Free() != 0 {
			t.Fatal(l.Free())
		}
	}
	for _, r := range bad() {
		refused(t, l, api.ErrArg, func() api.Errno { return errno(l.Use(r)) })
	}
	end := l.End()
	flushes(t, l)
	if m, _ := opened(t, d, su, 0, 2); m.End() != end {
		t.Error(m.End(), end)
	}
}

// P6.2: all that is reserved can be used, up to the last byte of the room
func TestUseAll(t *testing.T) {
	d, su := blank(t, 64)
	l, _ := opened(t, d, su, 0, 1)
	records := filling(t, 15*size)
	if e := l.Reserve(15 * size); e != api.OK {
		t.Fatal(e)
	}
	for i, r := range records {
		if _, e := l.Use(r); e != api.OK || l.Free() != 0 {
			t.Fatal(i, e, l.Free())
		}
	}
	if l.End() != 15*size {
		t.Error(l.End())
	}
	flushes(t, l)
	if _, got := opened(t, d, su, 0, 2); !sameLogged(got, logged(0, records...)) {
		t.Error(len(got))
	}
}

// P6.5: Release
func TestRelease(t *testing.T) {
	d, su := blank(t, 64)
	l, _ := opened(t, d, su, 0, 1)
	room := 15 * size
	l.Reserve(500)
	for _, x := range []struct{ n, free int }{
		{0, room - 500}, {-1, room - 500}, {-500, room - 500}, {math.MinInt, room - 500},
		{1, room - 499}, {99, room - 400}, {400, room}, {1, room}, {0, room}, {math.MaxInt, room},
	} {
		l.Release(x.n)
		if l.Free() != x.free {
			t.Error(x, l.Free())
		}
	}
	for _, n := range []int{301, 1 << 40, math.MaxInt} { // more than is reserved
		l.Reserve(300)
		l.Release(n)
		if l.Free() != room {
			t.Error(n, l.Free())
		}
	}
	l.Reserve(35)
	l.Release(1)
	refused(t, l, api.ErrFull, func() api.Errno { return errno(l.Use(commit(1))) })
}

// P6.5: SetTail
func TestSetTail(t *testing.T) {
	d, su := blank(t, 64)
	l, _ := opened(t, d, su, 0, 1)
	appends(t, l, filling(t, 1000)...)
	if e := l.SetTail(0); e != api.OK { // where it is, it may be set
		t.Error(e)
	}
	for _, tail := range []uint64{1, 232, 1000, math.MaxUint64} { // nothing lasts yet
		refused(t, l, api.ErrArg, func() api.Errno { return l.SetTail(tail) })
	}
	flushes(t, l)
	appends(t, l, commit(9))
	l.Reserve(50)
	for _, tail := range []uint64{1001, 1035, 1 << 63, math.MaxUint64} {
		refused(t, l, api.ErrArg, func() api.Errno { return l.SetTail(tail) })
	}
	for _, tail := range []uint64{1, 231, 232, 233, 463, 500, 928, 1000, 1000} {
		e := l.SetTail(tail)
		if free := int(tail/size*size) + 15*size - 1035 - 50; e != api.OK || look(l) != (looks{1035, 1000, tail, free}) {
			t.Error(tail, e, look(l), free)
		}
	}
	for _, tail := range []uint64{0, 231, 999} { // it never goes back
		refused(t, l, api.ErrArg, func() api.Errno { return l.SetTail(tail) })
	}
}

// P6.5: of a log that was opened anew the tail goes up to where it lasts
func TestSetTailOpened(t *testing.T) {
	b := based(t, 3*size+40, 2)
	l, records := opened(t, b.d, b.su, b.tail, 3)
	end := records[len(records)-1].End
	refused(t, l, api.ErrArg, func() api.Errno { return l.SetTail(b.tail - 1) })
	refused(t, l, api.ErrArg, func() api.Errno { return l.SetTail(end + 1) })
	if e := l.SetTail(end); e != api.OK || l.Tail() != end || l.Free() != 15*size-int(end%size) {
		t.Error(e, look(l))
	}
}

// P6.2 to P6.5: of nil, and of a zero one
func TestNil(t *testing.T) {
	for _, l := range []*wal.Log{nil, {}} {
		for i, call := range []func() api.Errno{
			func() api.Errno { return errno(l.Append(commit(1))) },
			func() api.Errno { return errno(l.Append(api.Record{})) },
			func() api.Errno { return errno(l.Use(commit(1))) },
			func() api.Errno { return errno(l.Use(api.Record{})) },
			func() api.Errno { return l.Flush(0) },
			func() api.Errno { return l.Flush(1) },
			func() api.Errno { return l.SetTail(0) },
			func() api.Errno { return l.SetTail(1) },
			func() api.Errno { return l.Reserve(0) },
			func() api.Errno { return l.Reserve(-1) },
			func() api.Errno { l.Release(1); return api.ErrNil },
		} {
			if e := call(); e != api.ErrNil || look(l) != (looks{}) {
				t.Error(i, e, look(l))
			}
		}
	}
}

// step is one write of a flush: the log's sector, and what it is.
type step struct {
	k uint64
	s api.Sector
}

// flushed are the writes of a flush, when so much lasts and so much is there; the first one is the one that is made once.
func flushed(lasts uint64, text []byte, from, epoch uint64, first bool) []step {
	var l []step
	k := lasts / size
	if first {
		l = append(l, step{k, laid(k, epoch, text[k*size-from:lasts-from])})
	}
	for end := from + uint64(len(text)); k*size < end; k++ {
		l = append(l, step{k, laid(k, epoch, text[k*size-from:min((k+1)*size, end)-from])})
	}
	return l
}

// P6.3: what is written, in which order, with barriers between
func TestFlush(t *testing.T) {
	for _, tail := range tails {
		for _, opening := range [][]api.Record{nil, {commit(1)}, filling(t, 2*size), filling(t, 500)} {
			for _, more := range [][]api.Record{{commit(2)}, {back(2, 197)}, filling(t, 300), filling(t, 3*size), filling(t, 700)} {
				d, su := blank(t, 64)
				lay(t, d, su, tail, 3, joined(t, tail, opening...))
				from := tail / size * size
				text := slices.Concat(make([]byte, tail-from), joined(t, tail, append(slices.Clone(opening), more...)...))
				lasts := tail + uint64(len(joined(t, tail, opening...)))
				steps := flushed(lasts, text, from, 4, true)
				for fuse := range len(steps) + 2 {
					flushStep(t, d.Copy(), su, tail, more, steps, fuse)
				}
			}
		}
	}
}

// flushStep lets the power go behind so many writes of a flush, the first one since the log was opened.
func flushStep(t *testing.T, d *disk.Disk, su api.Super, tail uint64, more []api.Record, steps []step, fuse int) {
	t.Helper()
	l, _ := opened(t, d, su, tail, 4)
	lasts := l.Lasts()
	appends(t, l, more...)
	want := d.Copy()
	d.Fuse(fuse)
	writes := d.Writes()
	e := l.Flush(lasts + 1) // all of it lasts, not just what was asked for
	done := min(fuse, len(steps))
	for i, s := range steps[:done] {
		want.Write(at(su, s.k), s.s)
		if i == 0 || i == len(steps)-1 {
			want.Barrier()
		}
	}
	if !d.Same(want) || d.Writes()-writes != done || !slices.Equal(d.Loose(), want.Loose()) {
		t.Fatal("behind", fuse, "writes", d.Writes()-writes, d.Loose(), want.Loose())
	}
	whole := fuse >= len(steps)
	if whole != (e == api.OK) || !whole && e != api.ErrDead || whole && l.Lasts() != l.End() || !whole && l.Lasts() != lasts {
		t.Fatal(fuse, e, look(l))
	}
}

// P6.3: the sector that parts openings is written once
func TestFlushAgain(t *testing.T) {
	d, su := blank(t, 64)
	l, _ := opened(t, d, su, 0, 1)
	var text []byte
	for i, n := range []int{1, 50, 162, 1, 1, 197, 197, 3, 248, 20, 248, 100} { // 162: up to a sector's end
		lasts := l.Lasts()
		r := back(uint64(i+1), n)
		text = append(text, joined(t, l.End(), r)...)
		appends(t, l, r)
		steps := flushed(lasts, text, 0, 1, i == 0)
		want, writes := d.Copy(), d.Writes()
		for _, s := range steps {
			want.Write(at(su, s.k), s.s)
		}
		want.Barrier()
		flushes(t, l)
		if !d.Same(want) || d.Writes()-writes != len(steps) || len(d.Loose()) != 0 {
			t.Fatal(i, d.Writes()-writes, len(steps))
		}
	}
}

// P6.3: where it lasts nothing is written; above the end there is nothing
func TestFlushNothing(t *testing.T) {
	b := based(t, 2*size+50, 2)
	l, records := opened(t, b.d, b.su, b.tail, 3)
	end := records[len(records)-1].End
	quiet := func(upto ...uint64) {
		t.Helper()
		was, writes, now := b.d.Copy(), b.d.Writes(), look(l)
		for _, n := range upto {
			if e := l.Flush(n); e != api.OK || look(l) != now {
				t.Error(n, e, look(l))
			}
		}
		if !b.d.Same(was) || b.d.Writes() != writes {
			t.Error("written", b.d.Writes()-writes)
		}
	}
	above := func(upto ...uint64) {
		t.Helper()
		for _, n := range upto {
			refused(t, l, api.ErrArg, func() api.Errno { return l.Flush(n) })
		}
	}
	quiet(0, 1, b.tail, end-1, end)
	above(end+1, 1<<63, math.MaxUint64)
	appends(t, l, commit(1))
	quiet(0, end-1, end)
	above(end+36, math.MaxUint64)
	if e := l.Flush(end + 35); e != api.OK || l.Lasts() != end+35 {
		t.Error(e, look(l))
	}
	quiet(0, end, end+1, end+35)
	appends(t, l, commit(2))
	b.d.Fuse(0)
	b.d.Write(0, api.Sector{})
	if !b.d.Dead() {
		t.Fatal("there is power")
	}
	quiet(0, end, end+35)
	above(end+71, math.MaxUint64)
	for _, n := range []uint64{end + 36, end + 70} {
		refused(t, l, api.ErrDead, func() api.Errno { return l.Flush(n) })
	}
	appends(t, l, commit(3)) // in memory it goes on
}

// P6.3: the power goes behind the sector that parts openings: what lasted is read, and nothing that an elder one has behind it
func TestFlushParts(t *testing.T) {
	flip := func(s api.Sector) api.Sector {
		s[100] ^= 1
		return s
	}
	for _, tail := range []uint64{0, 100, 3*size + 231} {
		for i := range uint64(4) {
			b := based(t, tail, 5)
			want := b.within(int(i)+1, 0)
			b = b.with(t, i+1, flip) // this opening can't read it: it ends ahead of it
			l, records := opened(t, b.d, b.su, tail, 6)
			if len(records) != want {
				t.Fatal(len(records), want)
			}
			appends(t, l, commit(77))
			b.d.Fuse(1)
			if e := l.Flush(l.End()); e != api.ErrDead {
				t.Fatal(e)
			}
			b.d = b.d.Crash(nil)
			b.with(t, i+1, flip).reads(t, 6, want)
		}
	}
}

// P6.3: opened again and again, it is gone on with, while its tail's sector has something ahead of the tail
func TestReopened(t *testing.T) {
	d, su := blank(t, 64)
	l, _ := opened(t, d, su, 0, 1)
	appends(t, l, commit(1))
	flushes(t, l)
	var all []api.Record
	for i := range uint64(30) {
		l, records := opened(t, d, su, 35, 1+i/2)
		if !sameLogged(records, logged(35, all...)) {
			t.Fatal(i, len(records), len(all))
		}
		r := back(i+1, int(i*3+1))
		appends(t, l, r)
		flushes(t, l)
		all = append(all, r)
	}
}

// P6.2, P6.3: it goes round
func TestGoesRound(t *testing.T) {
	for _, sectors := range []int{64, 136} {
		d, su := blank(t, sectors)
		l, _ := opened(t, d, su, 0, 1)
		r := rand.New(rand.NewSource(int64(sectors)))
		var kept []api.Logged
		for n := uint64(1); l.End() < uint64(5*su.Log*size); n++ {
			x := update(n, 1+r.Intn(248))
			for l.Free() < record.Size(x) { // the eldest are let go
				if l.Lasts() == l.Tail() || r.Intn(2) == 0 {
					flushes(t, l)
				}
				i := slices.IndexFunc(kept, func(g api.Logged) bool { return g.End > l.Lasts() })
				if i < 0 {
					i = len(kept)
				}
				i = min(i, 1+r.Intn(5))
				tail := l.Tail()
				if i > 0 {
					tail = kept[i-1].End
				}
				if e := l.SetTail(tail); e != api.OK {
					t.Fatal(e)
				}
				kept = kept[i:]
			}
			appends(t, l, x)
			kept = append(kept, api.Logged{LSN: l.End() - uint64(record.Size(x)), End: l.End(), Rec: x})
			if n%7 == 0 {
				flushes(t, l)
				if _, records := opened(t, d, su, l.Tail(), 1); !sameLogged(records, kept) {
					t.Fatal(n, len(records), len(kept))
				}
			}
		}
	}
}

// run is a log that is opened again and again, with all that was appended, and what has to last of it.
type run struct {
	t      *testing.T
	r      *rand.Rand
	d      *disk.Disk
	su     api.Super
	master api.Master // what is known when it is opened
	all    []api.Logged
	lasted uint64
	round  uint64
}

// open opens it as a loss of power has left it: what is read is a beginning of what was appended, that has all that lasted.
func (x *run) open() *wal.Log {
	x.t.Helper()
	l, records := opened(x.t, x.d, x.su, x.master.Tail, x.master.Epoch+1)
	i := 0
	for i < len(x.all) && x.all[i].LSN < x.master.Tail {
		i++
	}
	kept := x.all[i:]
	if len(records) > len(kept) || !sameLogged(records, kept[:len(records)]) || l.End() < x.lasted {
		x.t.Fatal("round", x.round, "read", len(records), "of", len(kept), look(l), x.lasted)
	}
	x.all = slices.Clone(kept[:len(records)])
	x.lasted = l.End()
	x.round++
	return l
}

// sets sets the tail; from now on that is known.
func (x *run) sets(l *wal.Log, tail uint64) {
	x.t.Helper()
	if e := l.SetTail(tail); e != api.OK {
		x.t.Fatal(tail, e, look(l))
	}
	x.master.Tail = tail
}

// appends appends a record, if there is room.
func (x *run) appends(l *wal.Log, r api.Record) bool {
	lsn, e := l.Append(r)
	if e == api.OK {
		x.all = append(x.all, api.Logged{LSN: lsn, End: l.End(), Rec: r})
	}
	return e == api.OK
}

// goes lets it go on till the power goes.
func (x *run) goes(l *wal.Log) {
	x.d.Fuse(x.r.Intn(30))
	for range x.r.Intn(40) {
		switch x.r.Intn(8) {
		case 0, 1:
			if l.Flush(l.End()-uint64(x.r.Intn(int(l.End()-l.Tail())+1))) == api.OK {
				x.lasted = max(x.lasted, l.Lasts())
			}
		case 2:
			i := x.r.Intn(len(x.all) + 1)
			if i < len(x.all) && x.all[i].LSN >= l.Tail() && x.all[i].LSN <= l.Lasts() && !x.d.Dead() {
				x.sets(l, x.all[i].LSN)
			}
		default:
			x.appends(l, update(x.round, 1+x.r.Intn(248)))
		}
	}
}

// crash lets the power go, and chooses anything.
func (x *run) crash() {
	picks := make([]int, 40)
	for i := range picks {
		picks[i] = x.r.Intn(6)
	}
	x.d = x.d.Crash(picks)
}

// P6.6: behind any loss of power, again and again
func TestLosses(t *testing.T) {
	for seed := range int64(150) {
		r := rand.New(rand.NewSource(seed))
		d, su := blank(t, []int{64, 64, 144}[seed%3])
		x := &run{t: t, r: r, d: d, su: su}
		for range 60 {
			l := x.open()
			if r.Intn(5) == 0 { // the power goes before the tail is set: in the same epoch it is the same
				x.crash()
				continue
			}
			x.sets(l, l.End())
			x.master.Epoch++
			x.goes(l)
			x.crash()
		}
	}
}

// P6.6: what is appended again just the same, in one epoch, ahead of the tail's being set
func TestLossesSame(t *testing.T) {
	for seed := range int64(200) {
		r := rand.New(rand.NewSource(seed))
		d, su := blank(t, 64)
		x := &run{t: t, r: r, d: d, su: su}
		for turn := range 12 {
			l := x.open()
			x.sets(l, l.End())
			x.master.Epoch++
			x.goes(l)
			x.crash()
			l = x.open()
			n := len(x.all)
			again := filling(t, 36+r.Intn(1200))
			for i := range again {
				again[i].Txn += uint64(1000 * turn)
			}
			for try := 0; ; try++ { // each time from where the last one came to
				if !x.again(l, again[len(x.all)-n:]) { // there is no room for it
					break
				}
				x.d.Fuse(r.Intn(10))
				if try == 30 {
					x.d.Fuse(-1)
				}
				if l.Flush(l.End()) == api.OK {
					break
				}
				x.crash()
				l = x.open()
			}
			x.d.Fuse(-1)
			if l.Flush(l.End()) != api.OK {
				t.Fatal("no power")
			}
			x.lasted = l.Lasts()
			x.sets(l, l.End())
			x.master.Epoch++
		}
	}
}

// again appends records, and answers whether there was room for all of them.
func (x *run) again(l *wal.Log, records []api.Record) bool {
	for _, r := range records {
		if !x.appends(l, r) {
			return false
		}
	}
	return true
}

// within is b, with other bytes ahead of and behind it in the same memory.
func within(b []byte) []byte {
	m := bytes.Repeat([]byte{0xee}, len(b)+32)
	copy(m[16:], b)
	return m[16 : 16+len(b)]
}

// What is handed in is not changed, and not kept.
func TestHandedIn(t *testing.T) {
	d, su := blank(t, 64)
	l, _ := opened(t, d, su, 0, 1)
	l.Reserve(2000)
	was := update(3, 20)
	r := was
	r.Before, r.After = within(was.Before), within(was.After)
	before, after := bytes.Clone(r.Before[:36]), bytes.Clone(r.After[:36])
	l.Append(r)
	l.Use(r)
	if !bytes.Equal(r.Before[:36], before) || !bytes.Equal(r.After[:36], after) {
		t.Error(r)
	}
	clear(r.Before)
	clear(r.After)
	flushes(t, l)
	if _, records := opened(t, d, su, 0, 1); !sameLogged(records, logged(0, was, was)) {
		t.Error(records)
	}
}

// What is answered is the caller's: the log does not hang on it, nor one list on another.
func TestAnswered(t *testing.T) {
	b := based(t, 100, 2)
	l, records := opened(t, b.d, b.su, b.tail, 3)
	_, others := opened(t, b.d, b.su, b.tail, 3)
	for i := range records {
		for _, list := range [][]byte{records[i].Rec.Before, records[i].Rec.After} {
			list = list[:cap(list)]
			for j := range list {
				list[j] ^= 255
			}
		}
		if i+1 < len(records) && !record.Same(records[i+1].Rec, b.records[i+1]) {
			t.Error(i)
		}
	}
	if !sameLogged(others, logged(b.tail, b.records...)) {
		t.Error("hang on one another")
	}
	appends(t, l, commit(1))
	flushes(t, l)
	if _, records := opened(t, b.d, b.su, b.tail, 4); !sameLogged(records, logged(b.tail, append(b.records, commit(1))...)) {
		t.Error(len(records))
	}
}

// Two logs that were opened from one disk go on apart, in memory; so does one whose disk was copied.
func TestApart(t *testing.T) {
	b := based(t, 100, 2)
	other := b.d.Copy()
	l, _ := opened(t, b.d, b.su, b.tail, 3)
	m, _ := opened(t, other, b.su, b.tail, 3)
	appends(t, l, commit(1), commit(2))
	appends(t, m, update(5, 3))
	flushes(t, m)
	flushes(t, l)
	if _, records := opened(t, b.d, b.su, b.tail, 4); !sameLogged(records, logged(b.tail, append(slices.Clone(b.records), commit(1), commit(2))...)) {
		t.Error(len(records))
	}
	if _, records := opened(t, other, b.su, b.tail, 4); !sameLogged(records, logged(b.tail, append(slices.Clone(b.records), update(5, 3))...)) {
		t.Error(len(records))
	}
}

// What is written on the disk behind its back, the log does not look at.
func TestKeepsItsBytes(t *testing.T) {
	b := based(t, 100, 2)
	l, records := opened(t, b.d, b.su, b.tail, 3)
	end := records[len(records)-1].End
	put(t, b.d, b.su, end/size, api.Sector{9})
	appends(t, l, commit(1))
	flushes(t, l)
	if _, records := opened(t, b.d, b.su, b.tail, 4); !sameLogged(records, logged(b.tail, append(b.records, commit(1))...)) {
		t.Error(len(records))
	}
}
