package txn_test

import (
	"encoding/binary"
	"math"
	"math/rand"
	"reflect"
	"slices"
	"testing"

	"hornbook/api"
	"hornbook/disk"
	"hornbook/pool"
	"hornbook/record"
	"hornbook/super"
	"hornbook/txn"
	"hornbook/wal"
)

// How many bytes records have: by another way than the program's.
const endSize = 35

func updateSize(n int) int { return 35 + 2*n }

func backSize(n int) int { return 35 + n }

// bench is a disk, and a store on it.
type bench struct {
	d     *disk.Disk
	su    api.Super
	l     *wal.Log
	p     *pool.Pool
	s     *txn.Store
	epoch uint64
}

// laid is a store on a disk, whose log begins at a tail.
func laid(t *testing.T, d *disk.Disk, m api.Master, frames int, held bool) (*bench, []api.Logged) {
	t.Helper()
	su, _ := super.Make(min(d.Sectors(), api.MaxSectors))
	l, all, e := wal.Open(d, su, m.Tail, m.Epoch)
	if e != api.OK {
		t.Fatal("Open", e)
	}
	p, e := pool.New(d, l, frames, held)
	if e != api.OK {
		t.Fatal("pool", e)
	}
	s, e := txn.New(d, su, m, l, p)
	if s == nil || e != api.OK {
		t.Fatal("New", e)
	}
	return &bench{d, su, l, p, s, m.Epoch}, all
}

// made is a store on a disk of noughts.
func made(t *testing.T, sectors, frames int, held bool) *bench {
	t.Helper()
	d, e := disk.New(sectors)
	if e != api.OK {
		t.Fatal("disk", e)
	}
	b, _ := laid(t, d, api.Master{Epoch: 1, Seq: 1}, frames, held)
	return b
}

// ok says that nothing was refused.
func ok(t *testing.T, l ...api.Errno) {
	t.Helper()
	for i, e := range l {
		if e != api.OK {
			t.Fatal(i, "told", e)
		}
	}
}

// begin is a transaction.
func (b *bench) begin(t *testing.T) uint64 {
	t.Helper()
	n, e := b.s.Begin()
	ok(t, e)
	return n
}

// is says that a page is read as one that begins so.
func (b *bench) is(t *testing.T, page int, text string) {
	t.Helper()
	var want api.Page
	copy(want[:], text)
	if got, e := b.s.Read(page); got != want || e != api.OK {
		t.Errorf("page %d: %q, not %q: %v", page, got[:len(text)+2], text, e)
	}
}

// noted are the records from the log's tail on; the log lasts then.
func (b *bench) noted(t *testing.T) []api.Logged {
	t.Helper()
	ok(t, b.l.Flush(b.l.End()))
	_, all, e := wal.Open(b.d.Copy(), b.su, b.l.Tail(), b.epoch+1)
	ok(t, e)
	return all
}

// looks are what can be told of a store without its being changed.
type looks struct {
	ways             []uint64
	master           api.Master
	end, lasts, tail uint64
	free             int
	dirty            []int
}

func (b *bench) look() looks {
	return looks{append([]uint64{}, b.s.Ways()...), b.s.Master(), b.l.End(), b.l.Lasts(), b.l.Tail(), b.l.Free(), append([]int{}, b.p.Dirty()...)}
}

// refused says that a call is, and that it changes nothing: not on the disk either.
func (b *bench) refused(t *testing.T, want api.Errno, call func() api.Errno) {
	t.Helper()
	was, sectors := b.look(), b.d.Copy()
	if e := call(); e != want {
		t.Error("told", e, "not", want)
	}
	if now := b.look(); !reflect.DeepEqual(was, now) || !b.d.Same(sectors) {
		t.Error("changed", was, now)
	}
}

// full lets only so many bytes of the log's room be free.
func (b *bench) full(t *testing.T, free int) {
	t.Helper()
	ok(t, b.l.Reserve(b.l.Free()-free))
}

// gone takes the power away.
func (b *bench) gone(t *testing.T) {
	t.Helper()
	b.d.Fuse(0)
	if e := b.d.Write(0, api.Sector{}); e != api.ErrDead {
		t.Fatal(e)
	}
}

// fill is a payload of which no two neighbours are the same.
func fill(seed int) api.Page {
	var p api.Page
	for i := range p {
		p[i] = byte(53*i + 7*seed + 3)
	}
	return p
}

// raw is a page's sector.
func raw(lsn uint64, payload api.Page) api.Sector {
	var s api.Sector
	binary.LittleEndian.PutUint64(s[:], lsn)
	copy(s[8:], payload[:])
	return s
}

func TestExamples(t *testing.T) {
	b := made(t, 64, 8, false)
	if n := b.begin(t); n != 1 {
		t.Error(n)
	}
	ok(t, b.s.Update(1, 40, 0, []byte("ab")), b.s.Rollback(1))
	b.is(t, 40, "")
	if n := b.begin(t); n != 2 {
		t.Error(n)
	}
	ok(t, b.s.Update(2, 40, 0, []byte("ab")), b.s.Commit(2), b.s.Sync())
	found(t, b.d.Crash(nil)).is(t, 40, "ab")
}

// P8.1: ErrArg, and what may be
func TestNew(t *testing.T) {
	d, _ := disk.New(100)
	small, _ := disk.New(99)
	su, _ := super.Make(100)
	l, _, _ := wal.Open(d, su, 0, 1)
	p, _ := pool.New(d, l, 8, false)
	for i, x := range []struct {
		d  *disk.Disk
		su api.Super
		l  *wal.Log
		p  *pool.Pool
	}{
		{nil, su, l, p}, {&disk.Disk{}, su, l, p}, {small, su, l, p},
		{d, api.Super{}, l, p}, {d, api.Super{Sectors: 100, Log: 17, Groups: 2}, l, p}, {d, api.Super{Sectors: -1}, l, p},
		{d, su, nil, p}, {d, su, &wal.Log{}, p}, {d, su, l, nil}, {d, su, l, &pool.Pool{}}, {nil, api.Super{}, nil, nil},
	} {
		if s, e := txn.New(x.d, x.su, api.Master{Epoch: 1, Seq: 1}, x.l, x.p); s != nil || e != api.ErrArg {
			t.Error(i, s, e)
		}
	}
	for _, m := range []api.Master{{}, {Epoch: 1, Seq: 1}, {Epoch: 5, Seq: 8, Tail: 3}, {Epoch: math.MaxUint64, Seq: math.MaxUint64, Tail: math.MaxUint64}} {
		s, e := txn.New(d, su, m, l, p)
		if e != api.OK || s.Super() != su || s.Master() != m || s.Log() != l || s.Pool() != p || len(s.Ways()) != 0 {
			t.Error(m, e)
		}
	}
	if d.Writes() != 0 || p.Frames() != 0 || l.End() != 0 || l.Free() != 15*api.LogBytes {
		t.Error("something was done", d.Writes(), p.Frames(), l.End(), l.Free())
	}
}

// P8.1 to P8.5: a nil store, and a zero one
func TestNil(t *testing.T) {
	for _, s := range []*txn.Store{nil, {}} {
		if n, e := s.Begin(); n != 0 || e != api.ErrNil {
			t.Error(n, e)
		}
		for _, page := range []int{-1, 0, 40} {
			if p, e := s.Read(page); p != (api.Page{}) || e != api.ErrNil {
				t.Error(e)
			}
			if e := s.Update(1, page, -1, nil); e != api.ErrNil {
				t.Error(e)
			}
		}
		for i, e := range []api.Errno{s.Commit(1), s.Rollback(1), s.Sync(), s.Room(), s.Adopt(0, nil), s.Adopt(1, nil)} {
			if e != api.ErrNil {
				t.Error(i, e)
			}
		}
		if s.Super() != (api.Super{}) || s.Master() != (api.Master{}) || len(s.Ways()) != 0 || s.Log() != nil || s.Pool() != nil {
			t.Error("a nil store tells something")
		}
	}
}

// P8.1: numbers, and which transactions are on their way
func TestBegin(t *testing.T) {
	b := made(t, 64, 8, false)
	for n := range uint64(5) {
		if got := b.begin(t); got != n+1 {
			t.Error(got, "not", n+1)
		}
	}
	ok(t, b.s.Update(3, 40, 0, []byte("x")), b.s.Commit(5), b.s.Rollback(3), b.s.Commit(1))
	if w := b.s.Ways(); !slices.Equal(w, []uint64{2, 4}) {
		t.Error(w)
	}
	if got := b.begin(t); got != 6 { // those that are gone are not begun again
		t.Error(got)
	}
	b.s.Ways()[0] = 99
	if w := b.s.Ways(); !slices.Equal(w, []uint64{2, 4, 6}) {
		t.Error(w)
	}
	if b.l.End() != uint64(updateSize(1)+backSize(1)+endSize) || b.d.Writes() != 0 {
		t.Error("a beginning, or an end of nothing, was noted", b.l.End(), b.d.Writes())
	}
}

// P8.1: any sector of the Super is a page
func TestRead(t *testing.T) {
	d, _ := disk.New(5000)
	for i := range 5000 {
		ok(t, d.Write(i, raw(uint64(i), fill(i))))
	}
	for i := 3; i < 600; i++ { // no log
		ok(t, d.Write(i, raw(1<<40, fill(i))))
	}
	b, _ := laid(t, d, api.Master{Epoch: 1, Seq: 1}, 8, false)
	was := d.Writes()
	for i := range 4096 {
		if got, e := b.s.Read(i); got != fill(i) || e != api.OK {
			t.Fatal(i, e)
		}
	}
	for _, i := range []int{-1, math.MinInt, 4096, 4999, 5000, math.MaxInt} {
		b.refused(t, api.ErrArg, func() api.Errno {
			p, e := b.s.Read(i)
			if p != (api.Page{}) {
				t.Error(i)
			}
			return e
		})
	}
	if d.Writes() != was {
		t.Error("reading wrote")
	}
}

// P8.1: a page is read as it is, also one that is written past the pool
func TestReadNewest(t *testing.T) {
	b := made(t, 64, 8, false)
	read := func(page int) bool {
		t.Helper()
		got, e := b.s.Read(page)
		ok(t, e)
		s, _ := b.d.Read(page)
		return got == api.Page(s[8:]) && got != (api.Page{})
	}
	for _, page := range []int{1, 2, 3} {
		b.is(t, page, "")
	}
	n := b.begin(t)
	ok(t, b.s.Update(n, 40, 0, []byte("ab")), b.s.Room(), b.s.Room())
	for _, page := range []int{1, 2, 3} {
		if !read(page) {
			t.Error("not the newest of", page)
		}
	}
	b.is(t, 40, "ab")
}

// P8.2: each place, and how many bytes, of a group's first and last page
func TestUpdate(t *testing.T) {
	for _, x := range []struct{ page, off, n int }{{19, 0, 1}, {19, 0, 248}, {20, 1, 247}, {24, 247, 1}, {40, 100, 48}, {63, 246, 2}, {63, 0, 247}, {63, 30, 62}} {
		b := made(t, 64, 8, false)
		n := b.begin(t)
		bytes := fill(1)
		ok(t, b.s.Update(n, x.page, x.off, bytes[:x.n]))
		if bytes != fill(1) {
			t.Error("what was handed in has changed")
		}
		bytes[0]++
		var want api.Page
		now := fill(1)
		copy(want[x.off:], now[:x.n])
		got, lsn, e := b.p.Get(x.page)
		if got != want || lsn != b.l.End() || e != api.OK || b.d.Writes() != 0 {
			t.Error(x, lsn, e, b.d.Writes())
		}
		if first, is := b.p.First(); first != 0 || !is {
			t.Error(first, is)
		}
		rec := api.Record{Kind: api.RecUpdate, Txn: n, Page: x.page, Off: x.off, Before: make([]byte, x.n), After: now[:x.n]}
		if all := b.noted(t); !reflect.DeepEqual(all, []api.Logged{{LSN: 0, End: uint64(updateSize(x.n)), Rec: rec}}) {
			t.Error(x, all)
		}
	}
}

// P8.2: the bytes that differ are noted, from the first one to the last one
func TestUpdateNotes(t *testing.T) {
	for _, x := range []struct {
		off           int
		bytes         string
		at            int
		before, after string
	}{
		{0, "abcdef", 0, "", ""}, {2, "cd", 0, "", ""}, {0, "", 0, "", ""}, {248, "", 0, "", ""}, {247, "\x00", 0, "", ""},
		{0, "xbcdef", 0, "a", "x"}, {0, "abcdex", 5, "f", "x"}, {0, "abxdef", 2, "c", "x"}, {1, "bxdxf", 2, "cde", "xdx"},
		{0, "xbcdex", 0, "abcdef", "xbcdex"}, {3, "xef", 3, "d", "x"}, {4, "ef\x00\x00x\x00", 8, "\x00", "x"}, {240, "\x00\x00\x00\x00\x00\x00\x00x", 247, "\x00", "x"},
	} {
		b := made(t, 64, 8, false)
		b.begin(t)
		ok(t, b.s.Update(1, 40, 0, []byte("abcdef")), b.s.Commit(1))
		b.begin(t)
		end, free := b.l.End(), b.l.Free()
		ok(t, b.s.Update(2, 40, x.off, []byte(x.bytes)))
		got, lsn, _ := b.p.Get(40)
		want := api.Page{}
		copy(want[:], "abcdef")
		copy(want[x.off:], x.bytes)
		if got != want {
			t.Errorf("%v: %q", x, got[:10])
		}
		if x.after == "" {
			if b.l.End() != end || b.l.Free() != free || lsn == b.l.End() {
				t.Error(x, "something was noted")
			}
			continue
		}
		all := b.noted(t)
		last := all[len(all)-1]
		rec := api.Record{Kind: api.RecUpdate, Txn: 2, Page: 40, Off: x.at, Before: []byte(x.before), After: []byte(x.after)}
		if len(all) != 3 || !reflect.DeepEqual(last, api.Logged{LSN: end, End: b.l.End(), Rec: rec}) || lsn != last.End {
			t.Error(x, last, lsn)
		}
	}
}

// P8.2: each record's Prev is where the transaction's last one ends, whoever noted between
func TestPrev(t *testing.T) {
	b := made(t, 64, 8, false)
	b.begin(t)
	b.begin(t)
	ends := map[uint64]uint64{}
	for i := range 6 {
		n := uint64(i%2 + 1)
		ok(t, b.s.Update(n, 40, i, []byte{9}))
		all := b.noted(t)
		last := all[len(all)-1]
		if len(all) != i+1 || last.Rec.Txn != n || last.Rec.Prev != ends[n] {
			t.Error(i, last)
		}
		ends[n] = last.End
	}
	ok(t, b.s.Commit(1), b.s.Rollback(2))
	for _, x := range b.noted(t)[6:] {
		if x.Rec.Prev != ends[x.Rec.Txn] {
			t.Error(x)
		}
		ends[x.Rec.Txn] = x.End
	}
}

// P8.2: ErrArg, and then ErrNone
func TestUpdateRefused(t *testing.T) {
	b := made(t, 64, 8, false)
	n := b.begin(t)
	ok(t, b.s.Update(n, 40, 0, []byte("ab")))
	for _, w := range []uint64{n, 0, 99} {
		for _, page := range []int{-1, 0, 1, 2, 3, 18, 64, 65, 4096, math.MinInt, math.MaxInt} {
			b.refused(t, api.ErrArg, func() api.Errno { return b.s.Update(w, page, 0, []byte{1}) })
		}
		for _, x := range []struct{ off, n int }{{-1, 0}, {-1, 1}, {-248, 248}, {0, 249}, {1, 248}, {247, 2}, {248, 1}, {249, 0}, {0, 1000}, {math.MinInt, 1}, {math.MaxInt, 0}, {math.MaxInt, 1}, {math.MaxInt - 247, 248}} {
			b.refused(t, api.ErrArg, func() api.Errno { return b.s.Update(w, 40, x.off, make([]byte, x.n)) })
		}
	}
	for _, w := range []uint64{0, n + 1, 99, math.MaxUint64} {
		b.refused(t, api.ErrNone, func() api.Errno { return b.s.Update(w, 40, 0, []byte("ab")) })
		b.refused(t, api.ErrNone, func() api.Errno { return b.s.Update(w, 40, 0, []byte("zz")) })
		b.refused(t, api.ErrNone, func() api.Errno { return b.s.Update(w, 40, 0, nil) })
		b.refused(t, api.ErrNone, func() api.Errno { return b.s.Commit(w) })
		b.refused(t, api.ErrNone, func() api.Errno { return b.s.Rollback(w) })
	}
	b.is(t, 40, "ab")
	for _, end := range []func(uint64) api.Errno{b.s.Commit, b.s.Rollback} { // what is gone is gone
		w := b.begin(t)
		ok(t, end(w))
		for _, call := range []func() api.Errno{
			func() api.Errno { return b.s.Update(w, 40, 0, []byte("zz")) },
			func() api.Errno { return b.s.Commit(w) },
			func() api.Errno { return b.s.Rollback(w) },
		} {
			b.refused(t, api.ErrNone, call)
		}
	}
}

// P8.2: which pages are a group's, of any layout
func TestGroups(t *testing.T) {
	for _, sectors := range []int{64, 83, 84, 90, 91, 92, 128, 200, 1000, 2051, 4095, 4096} {
		b := made(t, sectors, api.MaxSectors, false)
		n := b.begin(t)
		of := map[int]bool{}
		for g := range b.su.Groups {
			first, many, _ := super.Group(b.su, g)
			for i := range many {
				of[first+i] = true
			}
		}
		for page := -3; page < sectors+70; page++ {
			want := api.ErrArg
			if of[page] {
				want = api.OK
			}
			if e := b.s.Update(n, page, 0, []byte{0}); e != want {
				t.Error(sectors, page, e)
			}
		}
	}
}

// P8.2, P8.3: what is reserved, and released
func TestReserved(t *testing.T) {
	for _, rollback := range []bool{false, true} {
		b := made(t, 64, 8, false)
		all := b.l.Free()
		n := b.begin(t)
		is := func(what string, want int) {
			t.Helper()
			if got := b.l.Free(); got != want {
				t.Error(what, rollback, got, "not", want)
			}
		}
		is("begun", all)
		ok(t, b.s.Update(n, 40, 0, []byte("abc")))
		is("the first change", all-updateSize(3)-backSize(3)-endSize)
		ok(t, b.s.Update(n, 50, 7, []byte("defgh")))
		noted := updateSize(3) + updateSize(5)
		is("the second one", all-noted-backSize(3)-backSize(5)-endSize)
		other := b.begin(t)
		ok(t, b.s.Update(other, 50, 100, []byte("i")))
		noted += updateSize(1)
		kept := backSize(1) + endSize
		is("another one's", all-noted-backSize(3)-backSize(5)-endSize-kept)
		if rollback {
			ok(t, b.s.Rollback(n))
			noted += backSize(3) + backSize(5) + endSize
		} else {
			ok(t, b.s.Commit(n))
			noted += endSize
		}
		is("gone", all-noted-kept)
		ok(t, b.s.Commit(other))
		is("both gone", all-noted-endSize)
		if b.l.Reserve(all-noted-endSize) != api.OK || b.l.Free() != 0 {
			t.Error("something is reserved still")
		}
	}
}

// P8.2: ErrFull begins where the room for a change, and for its being changed back, ends
func TestFullEdge(t *testing.T) {
	for _, held := range []bool{false, true} {
		for _, size := range []int{1, 5, 248} {
			bytes := fill(3)
			b := made(t, 64, 8, held)
			n := b.begin(t)
			need := updateSize(size) + backSize(size) + endSize
			for i := range 3 { // the first change needs an end's room, too
				if i > 0 {
					need = updateSize(size) + backSize(size)
				}
				room := b.l.Free()
				b.full(t, need-1)
				if e := b.s.Update(n, 40+i, 0, bytes[:size]); e != api.ErrFull || b.l.Free() != need-1 {
					t.Error(held, size, i, e)
				}
				b.is(t, 40+i, "")
				b.l.Release(room - need + 1)
				b.full(t, need)
				if e := b.s.Update(n, 40+i, 0, bytes[:size]); e != api.OK || b.l.Free() != 0 {
					t.Error(held, size, i, e, b.l.Free())
				}
				if b.s.Update(n, 40+i, 0, bytes[:size]) != api.OK || b.s.Update(n, 40, 0, nil) != api.OK {
					t.Error("nothing differs, and there was no room for it")
				}
				b.l.Release(room - need)
			}
			b.full(t, 0)
			if e := b.s.Rollback(n); e != api.OK {
				t.Error(e)
			}
			for i := range 3 {
				b.is(t, 40+i, "")
			}
		}
	}
}

// P8.2: room is made once, where it does not do; but while the pool is held
func TestRoomMade(t *testing.T) {
	b := made(t, 64, 8, false)
	seq := b.s.Master().Seq
	for i := range 200 { // many times the log's room
		n := b.begin(t)
		free := b.l.Free()
		now := fill(i)
		ok(t, b.s.Update(n, 19+i%45, 0, now[:90]))
		made := b.s.Master().Seq - seq
		seq += made
		if does := free >= updateSize(90)+backSize(90)+endSize; does != (made == 0) || made > 1 {
			t.Error(i, free, "room was made", made, "times")
		}
		ok(t, b.s.Commit(n))
	}
	if seq < 5 {
		t.Error("room was hardly made", seq)
	}
	held := made(t, 64, 8, true)
	n := held.begin(t)
	for i := range 200 {
		now := fill(i)
		if e := held.s.Update(n, 19+i%45, 0, now[:90]); e == api.ErrFull {
			held.refused(t, api.ErrFull, func() api.Errno { return held.s.Update(n, 19+i%45, 0, now[:90]) })
			break
		}
		ok(t, held.s.Commit(n))
		n = held.begin(t)
	}
	if held.d.Writes() != 0 || held.s.Master().Seq != 1 {
		t.Error("room was made while it was held")
	}
	held.p.Let()
	now := fill(1000)
	if e := held.s.Update(n, 40, 0, now[:90]); e != api.OK || held.s.Master().Seq != 2 {
		t.Error(e, held.s.Master())
	}
}

// P8.2, P8.3, P0.7: a log that is full of transactions that go on: others are told so; each can end
func TestFull(t *testing.T) {
	for _, ends := range []string{"bb", "cc", "bc", "cb"} {
		b := made(t, 64, 8, false)
		b.begin(t)
		b.begin(t)
		count := []int{0, 0, 0}
		for i := 0; ; i++ {
			w := i%2 + 1
			if b.s.Update(uint64(w), 20+i%40, 60*w, []byte("all of it")) != api.OK {
				break
			}
			count[w]++
			if i >= 40 {
				t.Fatal("it is never full")
			}
		}
		other := b.begin(t)
		for range 3 {
			seq := b.s.Master().Seq
			if e := b.s.Update(other, 60, 0, []byte("no room for this")); e != api.ErrFull {
				t.Error(e)
			}
			if b.s.Master().Seq != seq+1 {
				t.Error("room was made", b.s.Master().Seq-seq, "times")
			}
			b.is(t, 60, "")
		}
		for i, x := range ends {
			w := uint64(i + 1)
			free := b.l.Free()
			if x == 'b' {
				ok(t, b.s.Rollback(w))
			} else {
				ok(t, b.s.Commit(w))
			}
			if b.l.Free() < free {
				t.Error("it took of what others may have", b.l.Free(), free)
			}
			for page := range 40 {
				p, e := b.s.Read(20 + page)
				ok(t, e)
				changed := slices.Equal(p[60*w:60*w+9], []byte("all of it"))
				there := x == 'c' && page%2 == i && page/2 < count[w]
				if changed != there {
					t.Error(ends, w, page, changed)
				}
			}
		}
		ok(t, b.s.Update(other, 60, 0, []byte("no room for this")), b.s.Commit(other))
		b.is(t, 60, "no room for this")
	}
}

// P8.3: Commit
func TestCommit(t *testing.T) {
	b := made(t, 64, 8, false)
	n := b.begin(t)
	ok(t, b.s.Update(n, 40, 0, []byte("ab")), b.s.Update(n, 41, 0, []byte("cd")))
	end := b.l.End()
	ok(t, b.s.Commit(n))
	if b.d.Writes() != 0 || b.l.Lasts() != 0 || len(b.s.Ways()) != 0 {
		t.Error("something was written", b.d.Writes(), b.s.Ways())
	}
	b.is(t, 40, "ab")
	b.is(t, 41, "cd")
	all := b.noted(t)
	want := api.Logged{LSN: end, End: end + endSize, Rec: api.Record{Kind: api.RecCommit, Txn: n, Prev: end}}
	if len(all) != 3 || !reflect.DeepEqual(all[2], want) {
		t.Error(all)
	}
	none := b.begin(t) // what changed nothing is not noted
	ok(t, b.s.Update(none, 40, 0, []byte("ab")), b.s.Commit(none))
	other := b.begin(t)
	ok(t, b.s.Rollback(other))
	if len(b.noted(t)) != 3 {
		t.Error("a commit of nothing was noted")
	}
}

// P8.3: Rollback: what it notes, and the pages
func TestRollback(t *testing.T) {
	b := made(t, 64, 8, false)
	first := b.begin(t)
	ok(t, b.s.Update(first, 40, 0, []byte("abcdef")), b.s.Commit(first))
	n := b.begin(t)
	ok(t, b.s.Update(n, 40, 0, []byte("xy")), b.s.Update(n, 40, 1, []byte("zz")), b.s.Update(n, 50, 9, []byte("new")), b.s.Update(n, 40, 0, []byte("abc")))
	was := b.noted(t)[2:]
	ok(t, b.s.Rollback(n))
	b.is(t, 40, "abcdef")
	b.is(t, 50, "")
	if len(b.s.Ways()) != 0 {
		t.Error(b.s.Ways())
	}
	all := b.noted(t)[6:]
	prev := was[3].End
	for i, x := range all[:4] {
		back, _ := record.Back(was[3-i].Rec, prev)
		if !reflect.DeepEqual(x.Rec, back) {
			t.Error(i, x.Rec, back)
		}
		prev = x.End
	}
	if want := (api.Record{Kind: api.RecEnd, Txn: n, Prev: prev}); len(all) != 5 || !reflect.DeepEqual(all[4].Rec, want) {
		t.Error(all)
	}
	if _, lsn, _ := b.p.Get(40); lsn != all[3].End {
		t.Error("LSN", lsn)
	}
	if _, lsn, _ := b.p.Get(50); lsn != all[1].End {
		t.Error("LSN", lsn)
	}
}

// P8.6: rolled back, all is what it was, with what others have changed meanwhile; also where the pages went to the disk between
func TestRollbackMany(t *testing.T) {
	r := rand.New(rand.NewSource(8))
	for range 60 {
		b := made(t, 200, 8, false)
		want := map[int]api.Page{}
		n, other := b.begin(t), b.begin(t)
		for range 25 { // each has its half of the pages
			w, from := n, 0
			if r.Intn(2) == 0 {
				w, from = other, 124
			}
			page := 28 + r.Intn(30)
			off := from + r.Intn(120)
			bytes := make([]byte, 1+r.Intn(4))
			r.Read(bytes)
			ok(t, b.s.Update(w, page, off, bytes))
			if w == other {
				p := want[page]
				copy(p[off:], bytes)
				want[page] = p
			}
		}
		ok(t, b.s.Rollback(n))
		for page := 28; page < 58; page++ {
			if got, e := b.s.Read(page); got != want[page] || e != api.OK {
				t.Error(page, e)
			}
		}
	}
}

// P8.4: Sync
func TestSync(t *testing.T) {
	b := made(t, 64, 8, false)
	ok(t, b.s.Sync())
	if b.d.Writes() != 0 {
		t.Error("nothing was to be written")
	}
	n := b.begin(t)
	ok(t, b.s.Update(n, 40, 0, []byte("ab")), b.s.Sync())
	if b.l.Lasts() != b.l.End() || b.l.End() == 0 || len(b.d.Loose()) != 0 || !slices.Equal(b.p.Dirty(), []int{40}) {
		t.Error(b.l.Lasts(), b.l.End(), b.d.Loose(), b.p.Dirty())
	}
	found(t, b.d.Crash(nil)).is(t, 40, "") // it has not committed
	ok(t, b.s.Commit(n))
	found(t, b.d.Crash(nil)).is(t, 40, "")
	ok(t, b.s.Sync())
	found(t, b.d.Crash(nil)).is(t, 40, "ab")
}

// P8.4, P8.5: Room: the tail, and the masters
func TestRoom(t *testing.T) {
	b := made(t, 64, 8, false)
	room := func(tail uint64) {
		t.Helper()
		was := b.s.Master()
		other, _ := b.d.Read(2 - int(was.Seq%2))
		ok(t, b.s.Room())
		want := api.Master{Epoch: 1, Seq: was.Seq + 1, Tail: tail}
		if b.s.Master() != want || b.l.Tail() != tail {
			t.Error(b.s.Master(), b.l.Tail(), "not", want)
		}
		if len(b.p.Dirty()) != 0 || len(b.d.Loose()) != 0 || b.l.Lasts() != b.l.End() {
			t.Error("not all lasts")
		}
		if s, _ := b.d.Read(2 - int(want.Seq%2)); s != super.MasterBytes(want) {
			t.Error("not its sector", want.Seq)
		}
		if s, _ := b.d.Read(2 - int(was.Seq%2)); s != other {
			t.Error("the elder master's sector was written")
		}
	}
	room(0)
	one, two, idle := b.begin(t), b.begin(t), b.begin(t)
	ok(t, b.s.Update(one, 40, 0, []byte("a")))
	begins := b.l.End()
	ok(t, b.s.Update(two, 40, 1, []byte("b")), b.s.Update(one, 40, 2, []byte("c")), b.s.Update(idle, 40, 0, []byte("abc")))
	if all := b.noted(t); all[1].LSN != begins {
		t.Fatal(all)
	}
	room(0)
	if s, _ := b.d.Read(40); s != raw(b.l.End(), api.Page{'a', 'b', 'c'}) {
		t.Error(s)
	}
	ok(t, b.s.Commit(one))
	room(begins)
	ok(t, b.s.Update(two, 41, 0, []byte("d")))
	room(begins)
	ok(t, b.s.Rollback(two))
	room(b.l.End()) // the third one changed nothing
	room(b.l.End())
	ok(t, b.s.Update(idle, 41, 0, []byte("e")))
	room(b.l.Tail())
	b.is(t, 40, "a\x00c")
	found(t, b.d.Crash(nil)).is(t, 41, "")
}

// P8.4: ErrDead at each write of Room: nothing of it is told, and what is on the disk is found again
func TestRoomDead(t *testing.T) {
	for fuse := range 20 {
		for _, pick := range []int{0, 1} {
			b := made(t, 64, 8, false)
			ok(t, b.s.Room())
			n, other := b.begin(t), b.begin(t)
			for i := range 4 {
				ok(t, b.s.Update(n, 40+i, 0, []byte("ab")), b.s.Update(other, 50+i, 0, []byte("cd")))
			}
			ok(t, b.s.Commit(n), b.s.Sync())
			was := b.look()
			b.d.Fuse(fuse)
			e := b.s.Room()
			now := b.look()
			if e == api.OK {
				if pick == 1 && fuse > 12 {
					return
				}
				continue
			}
			if e != api.ErrDead || !b.d.Dead() || now.master != was.master || now.tail != was.tail || now.free != was.free || !slices.Equal(now.ways, was.ways) {
				t.Error(fuse, e, was, now)
			}
			f := found(t, b.d.Crash(slices.Repeat([]int{pick}, 64)))
			for i := range 4 {
				f.is(t, 40+i, "ab")
				f.is(t, 50+i, "")
			}
		}
	}
	t.Error("the power always went")
}

// P8.1 to P8.4: without power
func TestDead(t *testing.T) {
	b := made(t, 64, 8, false)
	n, idle := b.begin(t), b.begin(t)
	ok(t, b.s.Update(n, 40, 0, []byte("ab")))
	b.gone(t)
	dead := map[string]func() api.Errno{
		"read":      func() api.Errno { _, e := b.s.Read(40); return e },
		"read 0":    func() api.Errno { _, e := b.s.Read(0); return e },
		"update":    func() api.Errno { return b.s.Update(n, 40, 0, []byte("xy")) },
		"same":      func() api.Errno { return b.s.Update(n, 40, 0, []byte("ab")) },
		"none":      func() api.Errno { return b.s.Update(idle, 41, 0, nil) },
		"commit":    func() api.Errno { return b.s.Commit(n) },
		"nothing":   func() api.Errno { return b.s.Commit(idle) },
		"back":      func() api.Errno { return b.s.Rollback(n) },
		"none back": func() api.Errno { return b.s.Rollback(idle) },
		"sync":      b.s.Sync,
		"room":      b.s.Room,
	}
	for what, call := range dead {
		b.refused(t, api.ErrDead, func() api.Errno {
			e := call()
			if e != api.ErrDead {
				t.Error(what)
			}
			return e
		})
	}
	b.refused(t, api.ErrArg, func() api.Errno { _, e := b.s.Read(64); return e })
	b.refused(t, api.ErrArg, func() api.Errno { return b.s.Update(n, 0, 0, nil) })
	b.refused(t, api.ErrNone, func() api.Errno { return b.s.Update(99, 40, 0, nil) })
	b.refused(t, api.ErrNone, func() api.Errno { return b.s.Commit(99) })
	b.refused(t, api.ErrNone, func() api.Errno { return b.s.Rollback(99) })
	if got := b.begin(t); got != 3 {
		t.Error(got)
	}
	b.full(t, 0) // room can't be made
	b.refused(t, api.ErrDead, func() api.Errno { return b.s.Update(n, 40, 0, []byte("xy")) })

	all := made(t, 64, 8, false) // all lasts
	all.gone(t)
	all.refused(t, api.ErrDead, all.s.Sync)
	all.refused(t, api.ErrDead, all.s.Room)

	h := made(t, 64, 8, true)
	h.begin(t)
	h.gone(t)
	h.full(t, 0)
	h.refused(t, api.ErrFull, func() api.Errno { return h.s.Update(1, 40, 0, []byte("xy")) })
}

// P8.1, P8.2, P8.4: the power goes in a call, as it writes
func TestDies(t *testing.T) {
	calls := []func(b *bench) api.Errno{
		func(b *bench) api.Errno { return b.s.Sync() },
		func(b *bench) api.Errno { return b.s.Room() },
		func(b *bench) api.Errno { _, e := b.s.Read(60); return e },
		func(b *bench) api.Errno { return b.s.Update(1, 60, 0, []byte("xy")) },
		func(b *bench) api.Errno { return b.s.Update(1, 60, 0, nil) },
	}
	for i, call := range calls {
		b := made(t, 64, 8, false)
		b.begin(t)
		for page := range 8 { // the next one has no frame
			ok(t, b.s.Update(1, 40+page, 0, []byte("ab")))
		}
		if b.p.Frames() != 8 || b.d.Writes() != 0 {
			t.Fatal(b.p.Frames(), b.d.Writes())
		}
		b.d.Fuse(0)
		b.refused(t, api.ErrDead, func() api.Errno {
			e := call(b)
			if e != api.ErrDead {
				t.Error(i)
			}
			return e
		})
	}
	b := made(t, 64, 8, false)
	b.begin(t)
	b.begin(t)
	ok(t, b.s.Update(1, 40, 0, []byte("ab")))
	for page := range 8 { // the first one's page has gone
		ok(t, b.s.Update(2, 41+page, 0, []byte("ab")))
	}
	b.d.Fuse(0)
	b.refused(t, api.ErrDead, func() api.Errno { return b.s.Rollback(1) })
}

// P8.3, P8.6: the power goes in the midst of changing back
func TestDiesBack(t *testing.T) {
	died := 0
	for fuse := range 40 {
		b := made(t, 64, 8, false)
		b.begin(t)
		for i := range 30 {
			ok(t, b.s.Update(1, 20+i, 0, []byte("ab")))
		}
		b.d.Fuse(fuse)
		e := b.s.Rollback(1)
		if e == api.ErrDead {
			died++
			if !slices.Equal(b.s.Ways(), []uint64{1}) {
				t.Error(b.s.Ways())
			}
		} else {
			ok(t, e)
		}
		f := found(t, b.d.Crash(slices.Repeat([]int{fuse % 3}, 64)))
		for i := range 30 {
			f.is(t, 20+i, "")
		}
	}
	if died < 10 {
		t.Error(died)
	}
}

// half are the records of a transaction of which some updates have been changed back, and the bench behind a loss of power.
func half(t *testing.T, back int) (*bench, []api.Logged) {
	t.Helper()
	b := made(t, 64, 8, false)
	one := b.begin(t)
	ok(t, b.s.Update(one, 45, 0, []byte("stays")), b.s.Commit(one), b.s.Room())
	b.begin(t)
	ok(t, b.s.Update(2, 40, 0, []byte("abc")), b.s.Update(2, 41, 5, []byte("d")), b.s.Update(2, 40, 1, []byte("xyz")))
	lines := b.noted(t)
	for i := range back {
		r, _ := record.Back(lines[2-i].Rec, b.l.End())
		_, e := b.l.Append(r)
		ok(t, e)
	}
	m := b.s.Master()
	ok(t, b.l.Flush(b.l.End()))
	m.Epoch++
	again, all := laid(t, b.d.Crash(nil), m, 8, true)
	if len(all) != 3+back {
		t.Fatal(len(all))
	}
	for _, x := range all {
		p, _, _ := again.p.Get(x.Rec.Page)
		p, _ = record.Redo(x.Rec, p)
		ok(t, again.p.Put(x.Rec.Page, x.Rec.Off, p[x.Rec.Off:x.Rec.Off+len(x.Rec.After)], x.LSN, x.End))
	}
	return again, all
}

// P8.5: a transaction is on its way again, changed back as far as it was
func TestAdopt(t *testing.T) {
	sizes := []int{3, 1, 3}
	for back := range 4 {
		for _, end := range []string{"back", "commit", "on"} {
			b, all := half(t, back)
			tail, free := b.l.Tail(), b.l.Free()
			ok(t, b.s.Adopt(2, all))
			kept := endSize
			for _, n := range sizes[:3-back] {
				kept += backSize(n)
			}
			if b.l.Free() != free-kept || !slices.Equal(b.s.Ways(), []uint64{2}) {
				t.Error(back, free-b.l.Free(), "not", kept, b.s.Ways())
			}
			if n := b.begin(t); n != 3 {
				t.Error(n)
			}
			texts := [][]string{{"axyz", "\x00\x00\x00\x00\x00d"}, {"abc", "\x00\x00\x00\x00\x00d"}, {"abc", ""}, {"", ""}}[back]
			b.is(t, 40, texts[0])
			b.is(t, 41, texts[1])
			b.p.Let()
			ok(t, b.s.Room())
			if b.s.Master().Tail != tail {
				t.Error("its records aren't kept", b.s.Master())
			}
			b.full(t, 0)
			switch end {
			case "on":
				b.l.Release(400)
				ok(t, b.s.Update(2, 42, 0, []byte("more")))
				all := b.noted(t)
				if last := all[len(all)-1].Rec; last.Prev != all[2+back].End {
					t.Error(last)
				}
				ok(t, b.s.Rollback(2))
				b.is(t, 42, "")
				fallthrough
			case "back":
				if end == "back" {
					ok(t, b.s.Rollback(2))
				}
				b.is(t, 40, "")
				b.is(t, 41, "")
			case "commit":
				ok(t, b.s.Commit(2))
				b.is(t, 40, texts[0])
				b.is(t, 41, texts[1])
			}
			if end == "back" {
				undone(t, b.noted(t))
			}
			b.is(t, 45, "stays")
			if !slices.Equal(b.s.Ways(), []uint64{3}) {
				t.Error(b.s.Ways())
			}
		}
	}
}

// undone says that a log of one transaction has three updates, each changed back once, the last one first, and an end.
func undone(t *testing.T, all []api.Logged) {
	t.Helper()
	if len(all) != 7 {
		t.Fatal(len(all))
	}
	for i := range 3 {
		back, _ := record.Back(all[2-i].Rec, all[2+i].End)
		if !reflect.DeepEqual(all[3+i].Rec, back) {
			t.Error(i, all[3+i], back)
		}
	}
	if want := (api.Record{Kind: api.RecEnd, Txn: 2, Prev: all[5].End}); !reflect.DeepEqual(all[6].Rec, want) {
		t.Error(all[6])
	}
}

// P8.5: what is no such transaction
func TestAdoptRefused(t *testing.T) {
	for back := range 4 {
		b, all := half(t, back)
		last := len(all) - 1
		no := func(what string, n uint64, l []api.Logged) {
			t.Helper()
			b.refused(t, api.ErrArg, func() api.Errno {
				e := b.s.Adopt(n, l)
				if e != api.ErrArg {
					t.Error(back, what)
				}
				return e
			})
		}
		with := func(what string, i int, change func(x *api.Logged)) {
			t.Helper()
			l := slices.Clone(all)
			change(&l[i])
			no(what, 2, l)
		}
		no("0", 0, all)
		no("too great", 1<<63, all)
		no("the greatest", math.MaxUint64, all)
		no("another number", 3, all)
		no("none", 2, nil)
		no("none", 2, []api.Logged{})
		no("without the first", 2, all[1:])
		no("twice", 2, append(slices.Clone(all), all[last]))
		no("the other way round", 2, []api.Logged{all[1], all[0], all[2]})
		no("without the second", 2, append(slices.Clone(all[:1]), all[2:]...))
		for i := range all {
			with("another transaction's", i, func(x *api.Logged) { x.Rec.Txn = 1 })
			with("no Prev", i, func(x *api.Logged) { x.Rec.Prev++ })
			with("no group's", i, func(x *api.Logged) { x.Rec.Page = 18 })
			with("no group's", i, func(x *api.Logged) { x.Rec.Page = 64 })
			with("no kind", i, func(x *api.Logged) { x.Rec.Kind = 0 })
			with("no record", i, func(x *api.Logged) { x.Rec.Off = 248 })
			with("no record", i, func(x *api.Logged) { x.Rec.Off = -1 })
			with("an end", i, func(x *api.Logged) { x.Rec = api.Record{Kind: api.RecEnd, Txn: 2, Prev: x.Rec.Prev} })
			with("ahead", i, func(x *api.Logged) { x.LSN-- })
			with("behind", i, func(x *api.Logged) { x.LSN++ })
			with("longer", i, func(x *api.Logged) { x.End++ })
			with("shorter", i, func(x *api.Logged) { x.End-- })
			with("nowhere", i, func(x *api.Logged) { x.LSN, x.End = 0, 0 })
			with("the other way round", i, func(x *api.Logged) { x.LSN, x.End = x.End, x.LSN })
			with("far away", i, func(x *api.Logged) {
				size := x.End - x.LSN
				x.LSN = math.MaxUint64 - size
				x.End = x.LSN + size
			})
			with("above the end", i, func(x *api.Logged) {
				size := x.End - x.LSN
				x.LSN = b.l.End() + 1
				x.End = x.LSN + size
			})
			with("below the tail", i, func(x *api.Logged) {
				size := x.End - x.LSN
				x.LSN = b.l.Tail() - 1
				x.End = x.LSN + size
			})
		}
		for i := 3; i < len(all); i++ {
			with("another Next", i, func(x *api.Logged) { x.Rec.Next++ })
			with("another Page", i, func(x *api.Logged) { x.Rec.Page++ })
			with("another Off", i, func(x *api.Logged) { x.Rec.Off++ })
			with("another After", i, func(x *api.Logged) { x.Rec.After = slices.Repeat([]byte{'?'}, len(x.Rec.After)) })
		}
		ok(t, b.s.Adopt(2, all))
		no("there is one", 2, all)
		b.begin(t)
		no("there is one", 3, all)
	}
}

// P8.5: where records stand, and whose they are, of a list that is in order but for that
func TestAdoptPlaces(t *testing.T) {
	b, all := half(t, 0)
	tail, end := b.l.Tail(), b.l.End()
	rec := func(n, prev uint64) api.Record {
		return api.Record{Kind: api.RecUpdate, Txn: n, Prev: prev, Page: 40, Before: []byte{0}, After: []byte{1}}
	}
	size := uint64(updateSize(1))
	at := func(from, n, prev uint64) api.Logged {
		return api.Logged{LSN: from, End: from + size, Rec: rec(n, prev)}
	}
	first := at(tail, 2, 0)
	for i, l := range [][]api.Logged{
		{at(tail-1, 2, 0)}, {at(tail-size, 2, 0)}, {at(end-size+1, 2, 0)}, {at(end, 2, 0)}, {at(-size, 2, 0)}, {at(-size+1, 2, 0)},
		{first, at(tail, 2, first.End)}, {first, at(first.End-1, 2, first.End)}, {first, at(tail-1, 2, first.End)},
		{first, at(end-size+1, 2, first.End)}, {first, at(-size+1, 2, first.End)}, {first, at(5-size, 2, first.End)},
		{{LSN: tail, End: tail, Rec: api.Record{Txn: 2, Page: 40}}}, {{LSN: tail, End: tail, Rec: api.Record{Kind: api.RecUpdate, Txn: 2, Page: 40}}},
		{at(tail, 3, 0)}, {first, at(first.End, 3, first.End)}, {first, at(first.End, 2, 0)}, {first, at(first.End, 2, first.LSN)}, {at(tail, 2, tail)},
	} {
		b.refused(t, api.ErrArg, func() api.Errno {
			e := b.s.Adopt(2, l)
			if e != api.ErrArg {
				t.Error(i, l)
			}
			return e
		})
	}
	for _, n := range []uint64{0, 1 << 63, math.MaxUint64} {
		b.refused(t, api.ErrArg, func() api.Errno { return b.s.Adopt(n, []api.Logged{at(tail, n, 0)}) })
	}
	ok(t, b.s.Adopt(7, []api.Logged{at(tail, 7, 0), at(end-size, 7, tail+size)})) // others may stand between
	ok(t, b.s.Adopt(8, []api.Logged{at(tail+3, 8, 0)}))
	ok(t, b.s.Adopt(2, all))
	if !slices.Equal(b.s.Ways(), []uint64{2, 7, 8}) {
		t.Error(b.s.Ways())
	}
}

// more puts a record of the transaction behind others, and tells all of them, as they would stand in the log.
func more(t *testing.T, b *bench, all []api.Logged, r api.Record) []api.Logged {
	t.Helper()
	r.Txn, r.Prev = 2, all[len(all)-1].End
	at, e := b.l.Append(r)
	ok(t, e)
	return append(slices.Clone(all), api.Logged{LSN: at, End: b.l.End(), Rec: r})
}

// P8.5: no such records, though each one may be, and stands where it says
func TestAdoptOrder(t *testing.T) {
	update := api.Record{Kind: api.RecUpdate, Page: 44, Before: []byte{0}, After: []byte{1}}
	for back := range 4 {
		for _, r := range []api.Record{{Kind: api.RecCommit}, {Kind: api.RecEnd}, {Kind: api.RecBack, Page: 40, After: []byte{0}}, update} {
			b, all := half(t, back)
			l := more(t, b, all, r)
			want := api.ErrArg
			if back == 0 && r.Kind == api.RecUpdate {
				want = api.OK
			}
			if e := b.s.Adopt(2, l); e != want {
				t.Error(back, r, e)
			}
		}
		b, all := half(t, back)
		if back > 0 { // one is changed back twice
			r := all[len(all)-1].Rec
			if e := b.s.Adopt(2, more(t, b, all, r)); e != api.ErrArg {
				t.Error(back, e)
			}
		}
	}
	b := made(t, 64, 8, true) // a first record that changes back
	r := api.Record{Kind: api.RecBack, Txn: 2, Page: 40, After: []byte{0}}
	_, e := b.l.Append(r)
	ok(t, e)
	b.refused(t, api.ErrArg, func() api.Errno { return b.s.Adopt(2, []api.Logged{{LSN: 0, End: b.l.End(), Rec: r}}) })
}

// P8.5: ErrFull; room isn't made for it
func TestAdoptFull(t *testing.T) {
	for back := range 4 {
		need := endSize
		for _, n := range []int{3, 1, 3}[:3-back] {
			need += backSize(n)
		}
		b, all := half(t, back)
		b.p.Let()
		b.full(t, need-1)
		b.refused(t, api.ErrFull, func() api.Errno { return b.s.Adopt(2, all) })
		b.l.Release(1)
		ok(t, b.s.Adopt(2, all))
		if b.l.Free() != 0 || b.s.Rollback(2) != api.OK || b.l.Free() != 0 {
			t.Error(b.l.Free())
		}
	}
}

// P8.5: any number but 0, up to 2^63 - 1, may be adopted; the next ones are above it
func TestAdoptNumbers(t *testing.T) {
	for _, x := range []struct{ n, next uint64 }{{1, 4}, {3, 4}, {4, 5}, {1000, 1001}, {1<<63 - 1, 1 << 63}} {
		b := made(t, 64, 8, true)
		for range 3 {
			ok(t, b.s.Commit(b.begin(t)))
		}
		r := api.Record{Kind: api.RecUpdate, Txn: x.n, Page: 40, Before: []byte{0}, After: []byte{1}}
		at, e := b.l.Append(r)
		ok(t, e, b.s.Adopt(x.n, []api.Logged{{LSN: at, End: b.l.End(), Rec: r}}))
		if got := b.begin(t); got != x.next || !slices.Equal(b.s.Ways(), []uint64{x.n, x.next}) {
			t.Error(x, got, b.s.Ways())
		}
		ok(t, b.s.Rollback(x.n))
		if got := b.begin(t); got != x.next+1 {
			t.Error(got)
		}
	}
}

// what is handed in stays as it is, and is not kept
func TestHandedIn(t *testing.T) {
	b, all := half(t, 1)
	was := slices.Clone(all)
	for i := range was {
		was[i].Rec.Before = slices.Clone(was[i].Rec.Before)
		was[i].Rec.After = slices.Clone(was[i].Rec.After)
	}
	ok(t, b.s.Adopt(2, all))
	if !reflect.DeepEqual(all, was) {
		t.Error("what was handed in has changed")
	}
	for i := range all {
		for _, l := range [][]byte{all[i].Rec.Before, all[i].Rec.After} {
			for k := range l {
				l[k] = '?'
			}
		}
		all[i] = api.Logged{}
	}
	ok(t, b.s.Rollback(2))
	b.is(t, 40, "")
	b.is(t, 41, "")
	n := b.begin(t)
	bytes := []byte("abc")
	ok(t, b.s.Update(n, 40, 0, bytes))
	copy(bytes, "???")
	b.is(t, 40, "abc")
	ok(t, b.s.Update(n, 40, 0, bytes), b.s.Rollback(n))
	b.is(t, 40, "")
}
