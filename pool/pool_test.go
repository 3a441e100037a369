package pool_test

import (
	"encoding/binary"
	"maps"
	"math"
	"math/rand"
	"slices"
	"testing"

	"hornbook/api"
	"hornbook/disk"
	"hornbook/pool"
	"hornbook/super"
	"hornbook/wal"
)

// bench is a disk, a log on it, and a pool.
type bench struct {
	d  *disk.Disk
	su api.Super
	l  *wal.Log
	p  *pool.Pool
}

// raw is a page's sector: by another way than the program's.
func raw(lsn uint64, payload api.Page) api.Sector {
	var s api.Sector
	binary.LittleEndian.PutUint64(s[:], lsn)
	copy(s[8:], payload[:])
	return s
}

// lsnOf is the LSN of what stands on a disk.
func lsnOf(d *disk.Disk, page int) uint64 {
	s, _ := d.Read(page)
	return binary.LittleEndian.Uint64(s[:])
}

// some is a payload of which no two neighbours are the same.
func some(seed int) api.Page {
	var p api.Page
	for i := range p {
		p[i] = byte(37*i + 11*seed + 5)
	}
	return p
}

// opened is a log on a disk of so many sectors.
func opened(t *testing.T, d *disk.Disk, epoch uint64) (*wal.Log, api.Super, []api.Logged) {
	t.Helper()
	su, e := super.Make(d.Sectors())
	if e != api.OK {
		t.Fatal("Make", e)
	}
	l, all, e := wal.Open(d, su, 0, epoch)
	if e != api.OK {
		t.Fatal("Open", e)
	}
	return l, su, all
}

// made is an empty pool on a disk of noughts.
func made(t *testing.T, sectors, frames int, held bool) *bench {
	t.Helper()
	d, e := disk.New(sectors)
	if e != api.OK {
		t.Fatal("disk", e)
	}
	l, su, _ := opened(t, d, 1)
	p, e := pool.New(d, l, frames, held)
	if e != api.OK || p == nil {
		t.Fatal("New", e)
	}
	return &bench{d, su, l, p}
}

// note is a record of n bytes of a page (of the last one that a record may name, where it is above that) in the log: where it begins, and ends.
func note(t *testing.T, l *wal.Log, page, n int) (first, end uint64) {
	t.Helper()
	first, e := l.Append(api.Record{Kind: api.RecUpdate, Txn: 1, Page: min(page, api.MaxSectors-1), Before: make([]byte, n), After: make([]byte, n)})
	if e != api.OK {
		t.Fatal("Append", e)
	}
	return first, l.End()
}

// change puts bytes with a record of them, and answers where that one begins, and ends.
func (b *bench) change(t *testing.T, page, off int, bytes []byte) (first, end uint64) {
	t.Helper()
	first, end = note(t, b.l, page, max(len(bytes), 1))
	if e := b.p.Put(page, off, bytes, first, end); e != api.OK {
		t.Fatal("Put", page, e)
	}
	return first, end
}

// gets gets pages, one behind the other.
func (b *bench) gets(t *testing.T, pages ...int) {
	t.Helper()
	for _, i := range pages {
		if _, _, e := b.p.Get(i); e != api.OK {
			t.Fatal("Get", i, e)
		}
	}
}

// is says that a page is got as this.
func (b *bench) is(t *testing.T, page int, want api.Page, lsn uint64) {
	t.Helper()
	if got, n, e := b.p.Get(page); got != want || n != lsn || e != api.OK {
		t.Error("Get", page, "LSN", n, "not", lsn, e, got == want)
	}
}

// dirty says which pages are.
func (b *bench) dirty(t *testing.T, want ...int) {
	t.Helper()
	if got := b.p.Dirty(); !slices.Equal(got, want) {
		t.Error("Dirty", got, "not", want)
	}
}

// first says what the least first change is.
func (b *bench) first(t *testing.T, want uint64, there bool) {
	t.Helper()
	if got, ok := b.p.First(); got != want || ok != there {
		t.Error("First", got, ok, "not", want, there)
	}
}

// upTo are the numbers from one on, so many.
func upTo(from, many int) []int {
	l := make([]int, many)
	for i := range l {
		l[i] = from + i
	}
	return l
}

// looks are all that can be told of a pool, its disk and its log, without changing them.
type looks struct {
	dirty, loose  []int
	first, lasts  uint64
	some, held    bool
	frames, count int
}

func (b *bench) look() looks {
	first, ok := b.p.First()
	return looks{b.p.Dirty(), b.d.Loose(), first, b.l.Lasts(), ok, b.p.Held(), b.p.Frames(), b.d.Writes()}
}

func (a looks) same(b looks) bool {
	return slices.Equal(a.dirty, b.dirty) && slices.Equal(a.loose, b.loose) && a.first == b.first && a.lasts == b.lasts &&
		a.some == b.some && a.held == b.held && a.frames == b.frames && a.count == b.count
}

// refused says that a call is, and that it changes nothing: not on the disk either.
func (b *bench) refused(t *testing.T, want api.Errno, call func() api.Errno) {
	t.Helper()
	was, sectors := b.look(), b.d.Copy()
	if e := call(); e != want {
		t.Error("told", e, "not", want)
	}
	if now := b.look(); !was.same(now) || !b.d.Same(sectors) {
		t.Error("changed", was, now)
	}
}

func TestExamples(t *testing.T) {
	b := made(t, 64, 8, false)
	x := []byte("x")
	first, end := note(t, b.l, 5, 3)
	if first != 0 || end < 40 {
		t.Fatal(first, end)
	}
	if e := b.p.Put(5, 0, x, 0, 40); e != api.OK {
		t.Error(e)
	}
	b.dirty(t, 5)
	b.first(t, 0, true)
	b.gets(t, upTo(20, 9)...)
	want := api.Page{}
	copy(want[:], x)
	if s, _ := b.d.Read(5); s != raw(40, want) {
		t.Error("it was not written", s)
	}
	if b.l.Lasts() < 40 {
		t.Error(b.l.Lasts())
	}
	b.dirty(t)
	b.first(t, 0, false)
	b.is(t, 5, want, 40)
}

// P7.1: ErrArg, and the edges of what may be
func TestNew(t *testing.T) {
	d, _ := disk.New(64)
	l, _, _ := opened(t, d, 1)
	for i, x := range []struct {
		d      *disk.Disk
		l      *wal.Log
		frames int
	}{
		{nil, l, 8}, {&disk.Disk{}, l, 8}, {d, nil, 8}, {d, &wal.Log{}, 8}, {nil, nil, 8}, {nil, nil, 0},
		{d, l, 7}, {d, l, 0}, {d, l, -1}, {d, l, math.MinInt}, {d, l, 4097}, {d, l, math.MaxInt},
	} {
		for _, held := range []bool{false, true} {
			if p, e := pool.New(x.d, x.l, x.frames, held); p != nil || e != api.ErrArg {
				t.Error(i, p, e)
			}
		}
	}
	for _, frames := range []int{8, 9, 100, 4095, 4096} {
		for _, held := range []bool{false, true} {
			p, e := pool.New(d, l, frames, held)
			if p == nil || e != api.OK || p.Frames() != 0 || p.Held() != held || len(p.Dirty()) != 0 {
				t.Error(frames, held, e)
			}
			if n, ok := p.First(); n != 0 || ok {
				t.Error(n, ok)
			}
		}
	}
	if d.Writes() != 0 || l.Lasts() != 0 || l.Free() != 15*api.LogBytes {
		t.Error(d.Writes(), l.Lasts(), l.Free())
	}
}

// P7.1 to P7.4: a nil pool, and a zero one
func TestNil(t *testing.T) {
	for _, p := range []*pool.Pool{nil, {}} {
		for _, page := range []int{-1, 0, 5} {
			if got, lsn, e := p.Get(page); got != (api.Page{}) || lsn != 0 || e != api.ErrNil {
				t.Error(lsn, e)
			}
			if e := p.Put(page, -1, nil, 0, 0); e != api.ErrNil {
				t.Error(e)
			}
			if e := p.Put(page, 0, []byte{1}, 1, 1); e != api.ErrNil {
				t.Error(e)
			}
			if e := p.Write(page); e != api.ErrNil {
				t.Error(e)
			}
		}
		if e := p.WriteAll(); e != api.ErrNil {
			t.Error(e)
		}
		p.Let()
		if n, ok := p.First(); n != 0 || ok || len(p.Dirty()) != 0 || p.Frames() != 0 || p.Held() {
			t.Error(n, ok, p.Dirty(), p.Frames(), p.Held())
		}
	}
}

// P7.1: what is got is what stands on the disk
func TestGet(t *testing.T) {
	b := made(t, 64, 8, false)
	lsns := []uint64{0, 1, 255, 256, 1 << 40, math.MaxUint64, 0x0102030405060708}
	for i := range 64 {
		if e := b.d.Write(i, raw(lsns[i%len(lsns)], some(i))); e != api.OK {
			t.Fatal(e)
		}
	}
	was := b.d.Copy()
	for range 2 {
		for i := range 64 {
			b.is(t, i, some(i), lsns[i%len(lsns)])
			if n := b.p.Frames(); n != 8 && n != i+1 {
				t.Error(i, n)
			}
		}
	}
	for _, i := range []int{-1, math.MinInt, 64, 65, 4096, math.MaxInt} {
		b.refused(t, api.ErrArg, func() api.Errno {
			got, lsn, e := b.p.Get(i)
			if got != (api.Page{}) || lsn != 0 {
				t.Error(i, lsn)
			}
			return e
		})
		b.refused(t, api.ErrArg, func() api.Errno { return b.p.Put(i, 0, []byte{1}, 1, 1) })
		b.refused(t, api.ErrArg, func() api.Errno { return b.p.Write(i) })
	}
	b.dirty(t)
	if !b.d.Same(was) || b.d.Writes() != 64 || b.l.Lasts() != 0 {
		t.Error("something was written", b.d.Writes())
	}
}

// P7.1: what was got is not changed by what is put, nor the other way round
func TestGotApart(t *testing.T) {
	b := made(t, 64, 8, false)
	b.change(t, 30, 0, []byte("before"))
	got, _, _ := b.p.Get(30)
	was := got
	bytes := []byte("behind")
	_, end := b.change(t, 30, 0, bytes)
	if got != was {
		t.Error("what was got has changed")
	}
	copy(bytes, "others")
	got[0] = 'z'
	want := api.Page{}
	copy(want[:], "behind")
	b.is(t, 30, want, end)
}

// P7.1: a disk may have more sectors than are laid out
func TestGreatDisk(t *testing.T) {
	d, _ := disk.New(api.MaxDisk)
	su, _ := super.Make(64)
	l, _, _ := wal.Open(d, su, 0, 1)
	p, e := pool.New(d, l, 8, false)
	if e != api.OK {
		t.Fatal(e)
	}
	b := &bench{d, su, l, p}
	last := api.MaxDisk - 1
	_, end := b.change(t, last, 247, []byte{7})
	b.gets(t, upTo(5000, 20)...)
	want := api.Page{247: 7}
	if s, _ := d.Read(last); s != raw(end, want) {
		t.Error("the last page was not written")
	}
	b.is(t, last, want, end)
	b.refused(t, api.ErrArg, func() api.Errno { _, _, e := p.Get(last + 1); return e })
}

// P7.2: bytes, and where they lie
func TestPut(t *testing.T) {
	for _, x := range []struct{ off, n int }{{0, 0}, {0, 1}, {0, 247}, {0, 248}, {1, 247}, {100, 0}, {100, 48}, {246, 1}, {246, 2}, {247, 1}, {247, 0}, {248, 0}} {
		b := made(t, 64, 8, false)
		if e := b.d.Write(40, raw(9, some(1))); e != api.OK {
			t.Fatal(e)
		}
		fill := some(2)
		bytes := slices.Clone(fill[:x.n])
		first, end := b.change(t, 40, x.off, bytes)
		want := some(1)
		copy(want[x.off:], fill[:x.n])
		b.is(t, 40, want, end)
		b.dirty(t, 40)
		b.first(t, first, true)
		if !slices.Equal(bytes, fill[:x.n]) {
			t.Error("what was handed in has changed")
		}
		if s, _ := b.d.Read(40); s != raw(9, some(1)) || b.d.Writes() != 1 {
			t.Error("it was written")
		}
	}
	b := made(t, 64, 8, false)
	b.change(t, 40, 0, []byte{1, 2, 3})
	_, end := note(t, b.l, 40, 1)
	if e := b.p.Put(40, 1, nil, 0, end); e != api.OK { // nil is an empty list
		t.Error(e)
	}
	b.is(t, 40, api.Page{1, 2, 3}, end)
}

// P7.2: ErrArg
func TestPutRefused(t *testing.T) {
	b := made(t, 64, 8, false)
	b.change(t, 40, 0, []byte{1, 2, 3})
	for _, page := range []int{40, 41} {
		for i, x := range []struct {
			off, n int
			lsn    uint64
		}{
			{-1, 0, 1}, {-1, 1, 1}, {-1, 2, 1}, {-248, 248, 1}, {math.MinInt, 1, 1}, {0, 249, 1}, {1, 248, 1}, {247, 2, 1}, {248, 1, 1}, {249, 0, 1}, {0, 1000, 1},
			{249, 1, 1}, {math.MaxInt, 0, 1}, {math.MaxInt, 1, 1}, {math.MaxInt - 247, 248, 1}, {0, 1, 0}, {0, 0, 0}, {248, 0, 0}, {-1, 1, 0},
		} {
			b.refused(t, api.ErrArg, func() api.Errno {
				e := b.p.Put(page, x.off, make([]byte, x.n), 1, x.lsn)
				if e != api.ErrArg {
					t.Error(i)
				}
				return e
			})
		}
	}
	if b.p.Frames() != 1 {
		t.Error("a page was read for what was refused")
	}
}

// P7.2: any first change, and any LSN but 0, may be
func TestPutAny(t *testing.T) {
	for _, first := range []uint64{0, 1, 7, 1 << 63, math.MaxUint64} {
		for _, lsn := range []uint64{1, 7, 1 << 63, math.MaxUint64} {
			b := made(t, 64, 8, false)
			if e := b.p.Put(33, 4, []byte{5}, first, lsn); e != api.OK {
				t.Error(first, lsn, e)
			}
			b.is(t, 33, api.Page{4: 5}, lsn)
			b.first(t, first, true)
		}
	}
}

// P7.2, P7.4: the first change is that of the first change since the page was written
func TestFirst(t *testing.T) {
	b := made(t, 64, 8, false)
	b.first(t, 0, false)
	b.gets(t, 30)
	b.first(t, 0, false)
	one, _ := b.change(t, 30, 0, []byte{1})
	two, _ := b.change(t, 20, 0, []byte{1})
	b.change(t, 30, 0, []byte{2})
	three, _ := b.change(t, 40, 0, []byte{1})
	b.dirty(t, 20, 30, 40)
	b.first(t, one, true)
	writes := func(page int) {
		t.Helper()
		if e := b.p.Write(page); e != api.OK {
			t.Fatal(e)
		}
	}
	writes(30)
	b.dirty(t, 20, 40)
	b.first(t, two, true)
	four, _ := b.change(t, 30, 0, []byte{3})
	b.dirty(t, 20, 30, 40)
	writes(20)
	b.first(t, three, true)
	writes(40)
	b.first(t, four, true)
	writes(30)
	b.first(t, 0, false)
	b.dirty(t)
	if e := b.p.Put(50, 0, nil, 100, 1); e != api.OK { // the least one need not be the eldest one, nor the least page's
		t.Error(e)
	}
	for page, first := range map[int]uint64{21: 90, 22: 80, 51: 70, 52: 85} {
		if e := b.p.Put(page, 0, nil, first, 1); e != api.OK {
			t.Error(e)
		}
	}
	b.first(t, 70, true)
	if e := b.p.Put(51, 0, nil, 3, 1); e != api.OK { // it is dirty already
		t.Error(e)
	}
	b.first(t, 70, true)
}

// P7.2: the first change of a page that went, and was read again, is a new one
func TestFirstAgain(t *testing.T) {
	b := made(t, 64, 8, false)
	b.change(t, 20, 0, []byte{1})
	b.gets(t, upTo(30, 12)...)
	b.first(t, 0, false)
	first, _ := b.change(t, 20, 0, []byte{2})
	b.first(t, first, true)
}

// P7.3: the log first, then the page, without a barrier behind it
func TestWrite(t *testing.T) {
	b := made(t, 64, 8, false)
	_, end := b.change(t, 30, 2, []byte{1, 2})
	b.change(t, 31, 0, []byte{9})
	if e := b.p.Write(30); e != api.OK {
		t.Error(e)
	}
	if b.l.Lasts() < end || lsnOf(b.d, 31) != 0 {
		t.Error(b.l.Lasts(), end)
	}
	if s, _ := b.d.Read(30); s != raw(end, api.Page{2: 1, 3: 2}) {
		t.Error("not written as it is", s)
	}
	if loose := b.d.Loose(); !slices.Equal(loose, []int{30}) {
		t.Error("of what was written", loose, "does not last")
	}
	b.dirty(t, 31)
	b.is(t, 30, api.Page{2: 1, 3: 2}, end)
	for _, page := range []int{30, 32, 0, 63} { // what is not dirty, or not there, is not written
		b.refused(t, api.OK, func() api.Errno { return b.p.Write(page) })
	}
	_, end = b.change(t, 31, 1, []byte{8})
	if b.l.Flush(end) != api.OK { // where it lasts, the page alone is written
		t.Fatal("Flush")
	}
	writes := b.d.Writes()
	if e := b.p.Write(31); e != api.OK || b.d.Writes() != writes+1 || lsnOf(b.d, 31) != end {
		t.Error(e, b.d.Writes(), writes)
	}
	b.dirty(t)
}

// P7.3: all dirty ones, rising, and a barrier
func TestWriteAll(t *testing.T) {
	for _, held := range []bool{false, true} {
		b := made(t, 64, 8, held)
		ends := map[int]uint64{}
		for _, page := range []int{50, 22, 41, 63, 30} {
			_, ends[page] = b.change(t, page, page, []byte{byte(page)})
		}
		b.gets(t, 20, 60)
		writes := b.d.Writes()
		if e := b.p.WriteAll(); e != api.OK {
			t.Error(e)
		}
		for page, end := range ends {
			var want api.Page
			want[page] = byte(page)
			if s, _ := b.d.Crash(nil).Read(page); s != raw(end, want) {
				t.Error(page, "does not last")
			}
			b.is(t, page, want, end)
		}
		if len(b.d.Loose()) != 0 || b.l.Lasts() != b.l.End() || b.p.Frames() != 7 || b.p.Held() != held {
			t.Error(b.d.Loose(), b.l.Lasts(), b.p.Frames())
		}
		b.dirty(t)
		if n := b.d.Writes() - writes; n < 5+1 || lsnOf(b.d, 20) != 0 {
			t.Error(n)
		}
		writes = b.d.Writes()
		if b.d.Write(59, api.Sector{1}) != api.OK || b.p.WriteAll() != api.OK { // none is dirty: a barrier still
			t.Error("WriteAll")
		}
		if len(b.d.Loose()) != 0 || b.d.Writes() != writes+1 {
			t.Error(b.d.Loose(), b.d.Writes())
		}
	}
}

// P7.3: in which order WriteAll writes
func TestWriteAllRises(t *testing.T) {
	pages := []int{63, 19, 40, 22, 41, 30}
	rising := slices.Sorted(slices.Values(pages))
	for n := range len(pages) + 1 {
		b := made(t, 64, 8, false)
		for _, page := range pages {
			b.change(t, page, 0, []byte{1})
		}
		if b.l.Flush(b.l.End()) != api.OK {
			t.Fatal("Flush")
		}
		b.d.Fuse(n)
		want := api.ErrDead
		if n == len(pages) {
			want = api.OK
		}
		if e := b.p.WriteAll(); e != want {
			t.Error(n, e)
		}
		for i, page := range rising {
			if written := lsnOf(b.d, page) != 0; written != (i < n) {
				t.Error(n, page, written)
			}
		}
	}
}

// P7.3: WriteAll without power
func TestWriteAllDead(t *testing.T) {
	b := made(t, 64, 8, false)
	b.change(t, 30, 0, []byte{1})
	b.gets(t, 31)
	if b.p.WriteAll() != api.OK {
		t.Fatal("WriteAll")
	}
	b.d.Fuse(0)
	b.d.Write(40, api.Sector{})
	b.refused(t, api.ErrDead, func() api.Errno { return b.p.WriteAll() }) // the barrier is not done
}

// the words: each step of a writing at which the power goes
func TestLogFirst(t *testing.T) {
	calls := map[string]func(b *bench) api.Errno{
		"Write":    func(b *bench) api.Errno { return b.p.Write(30) },
		"WriteAll": func(b *bench) api.Errno { return b.p.WriteAll() },
		"Get":      func(b *bench) api.Errno { _, _, e := b.p.Get(60); return e },
		"Put":      func(b *bench) api.Errno { return b.p.Put(60, 0, []byte{1}, 1, 1) },
	}
	for name, call := range calls {
		done := false
		for fuse := 0; !done; fuse++ {
			b := made(t, 64, 8, false)
			end := uint64(0)
			want := some(3)
			for range 4 { // the log has more than a sector
				_, end = b.change(t, 30, 0, want[:])
			}
			b.gets(t, upTo(40, 7)...)
			b.d.Fuse(fuse)
			frames := b.p.Frames()
			e := call(b)
			done = e == api.OK
			if !done && (e != api.ErrDead || b.p.Frames() != frames) {
				t.Error(name, fuse, e, b.p.Frames())
			}
			if !done {
				b.dirty(t, 30)
				b.first(t, 0, true)
				b.is(t, 30, want, end)
			}
			for mask := range 64 {
				d := b.d.Crash([]int{mask & 1, mask >> 1 & 1, mask >> 2 & 1, mask >> 3 & 1, mask >> 4 & 1, mask >> 5})
				l, _, _ := opened(t, d, 2)
				if lsnOf(d, 30) > l.End() {
					t.Error(name, fuse, mask, "the page has", lsnOf(d, 30), "the log", l.End())
				}
			}
			if done && (fuse < 3 || lsnOf(b.d, 30) != end) {
				t.Error(name, fuse, lsnOf(b.d, 30))
			}
		}
	}
}

// the words: the log lasts up to the page's LSN, wherever that stands
func TestLogUpTo(t *testing.T) {
	for lsn := uint64(1); lsn <= 37; lsn++ {
		for _, ahead := range []uint64{0, 37} {
			b := made(t, 64, 8, false)
			for b.l.End() < ahead {
				note(t, b.l, 30, 1)
			}
			if b.l.Flush(ahead) != api.OK || b.l.Lasts() != ahead {
				t.Fatal("Flush")
			}
			note(t, b.l, 30, 1)
			if e := b.p.Put(30, 0, nil, ahead, ahead+lsn); e != api.OK {
				t.Fatal(e)
			}
			if e := b.p.Write(30); e != api.OK || b.l.Lasts() < ahead+lsn || lsnOf(b.d, 30) != ahead+lsn {
				t.Error(lsn, ahead, e, b.l.Lasts())
			}
		}
	}
	b := made(t, 64, 8, false) // what lasts already is not written again
	_, end := b.change(t, 30, 0, []byte{1})
	if b.l.Flush(end) != api.OK {
		t.Fatal("Flush")
	}
	note(t, b.l, 31, 1)
	if e := b.p.Write(30); e != api.OK || b.l.Lasts() != end {
		t.Error(e, b.l.Lasts(), end)
	}
}

// P7.5: a page whose LSN the log does not have is never written
func TestLogNever(t *testing.T) {
	for _, more := range []uint64{1, 1000, math.MaxUint64 / 2} {
		b := made(t, 64, 8, false)
		b.change(t, 20, 0, []byte{1})
		if e := b.p.Put(30, 0, []byte{2}, 0, b.l.End()+more); e != api.OK {
			t.Fatal(e)
		}
		b.refused(t, api.ErrArg, func() api.Errno { return b.p.Write(30) })
		b.refused(t, api.ErrArg, func() api.Errno { return b.p.WriteAll() })
		b.gets(t, upTo(40, 7)...) // 20 goes for the last one of them
		b.dirty(t, 30)
		for range 2 {
			b.refused(t, api.ErrDead, func() api.Errno { _, _, e := b.p.Get(60); return e })
			b.refused(t, api.ErrDead, func() api.Errno { return b.p.Put(60, 0, []byte{1}, 1, 1) })
		}
		if lsnOf(b.d, 30) != 0 {
			t.Error("it was written")
		}
		note(t, b.l, 30, 1)
		if e := b.p.Write(30); (e == api.OK) != (more == 1) { // now the log has it
			t.Error(more, e)
		}
	}
}

// there says which pages are in memory of a pool that is held: they are told as they were, whatever is written to the disk behind its back.
func (b *bench) there(t *testing.T) []int {
	t.Helper()
	var l []int
	for i := range b.d.Sectors() {
		if b.d.Write(i, raw(77, some(99))) != api.OK {
			t.Fatal("Write", i)
		}
		if got, _, e := b.p.Get(i); e == api.OK && got != some(99) {
			l = append(l, i)
		}
	}
	return l
}

// P7.4, the words: while it is held pages stay
func TestHeld(t *testing.T) {
	b := made(t, 128, 8, true)
	for i := 19; i < 59; i++ {
		b.change(t, i, 0, []byte{byte(i)})
	}
	b.gets(t, upTo(60, 40)...)
	if b.p.Frames() != 80 || b.d.Writes() != 0 || !b.p.Held() || b.l.Lasts() != 0 {
		t.Error(b.p.Frames(), b.d.Writes())
	}
	b.dirty(t, upTo(19, 40)...)
	if got := b.there(t); !slices.Equal(got, slices.Concat(upTo(19, 40), upTo(60, 40))) {
		t.Error(got)
	}
}

// P7.4: Let alone lets nothing go; as room is asked for, all that is above the frames goes, and one more
func TestLet(t *testing.T) {
	b := made(t, 128, 8, true)
	for i := 20; i < 40; i++ {
		b.change(t, i, 0, []byte{byte(i)})
	}
	was := b.d.Copy()
	b.p.Let()
	if b.p.Held() || b.p.Frames() != 20 || !b.d.Same(was) {
		t.Error(b.p.Held(), b.p.Frames())
	}
	b.p.Let()
	b.gets(t, 25, 39) // they are there: no room is asked for
	if b.p.Frames() != 20 || b.d.Writes() != 0 {
		t.Error(b.p.Frames(), b.d.Writes())
	}
	b.gets(t, 50)
	if b.p.Frames() != 8 || b.p.Held() {
		t.Error(b.p.Frames(), b.p.Held())
	}
	b.dirty(t, upTo(33, 7)...) // 13 have gone, the least first: all had been used
	for i := 20; i < 33; i++ {
		if lsnOf(b.d, i) == 0 {
			t.Error(i, "was not written")
		}
	}
	for i := 33; i < 40; i++ {
		if lsnOf(b.d, i) != 0 {
			t.Error(i, "was written")
		}
	}
	b.gets(t, 51)
	if b.p.Frames() != 8 {
		t.Error(b.p.Frames())
	}
	b.dirty(t, upTo(34, 6)...)
}

// P7.4: fewer pages than frames, as it is let
func TestLetFew(t *testing.T) {
	b := made(t, 64, 10, true)
	b.gets(t, upTo(20, 9)...)
	b.p.Let()
	b.gets(t, 40)
	if b.p.Frames() != 10 {
		t.Error(b.p.Frames())
	}
	b.gets(t, 41)
	if b.p.Frames() != 10 {
		t.Error(b.p.Frames())
	}
}

// gone says which page goes, as another one is got: all of the pool's are dirty, so that it is written.
func (b *bench) gone(t *testing.T, asked, want int) {
	t.Helper()
	was := b.p.Dirty()
	b.change(t, asked, 0, []byte{1})
	now := b.p.Dirty()
	var left []int
	for _, i := range was {
		if !slices.Contains(now, i) {
			left = append(left, i)
		}
	}
	if !slices.Equal(left, []int{want}) || lsnOf(b.d, want) == 0 {
		t.Error("for", asked, "went", left, "not", want)
	}
}

// the words: the hand
func TestHand(t *testing.T) {
	b := made(t, 128, 8, false)
	for _, i := range []int{90, 30, 80, 40, 70, 50, 60, 20} {
		b.change(t, i, 0, []byte{1})
	}
	b.gone(t, 25, 20) // all were used: each is spared once, and the first one goes
	b.gone(t, 35, 30) // behind 20: 25 was used since, and is spared; 30 is not
	b.gets(t, 40, 60)
	b.gone(t, 45, 50) // 35 and 40 are spared
	b.gone(t, 55, 70) // 60 is spared
	b.gone(t, 85, 80)
	b.gone(t, 10, 90) // 85 is spared
	// 10u 25 35 40 45u 55u 60 85: round, from the beginning on
	b.gone(t, 11, 25)
	b.gets(t, 35)
	b.gone(t, 12, 40)
	// 10 11u 12u 35 45u 55u 60 85: what was used behind the hand's coming by is spared when it comes again
	b.gone(t, 13, 60)
	b.gone(t, 14, 85)
	b.gone(t, 15, 10)
	// 11u 12u 13u 14u 15u 35 45 55
	b.gets(t, 45)
	b.gone(t, 16, 35)
	b.gone(t, 17, 55)
	b.gone(t, 18, 11) // 16u and 17u are spared, and those ahead: all round
}

// the words: one that comes ahead of the hand is met in the next round alone
func TestHandRound(t *testing.T) {
	b := made(t, 128, 8, false)
	for _, i := range upTo(40, 8) {
		b.change(t, i, 0, []byte{1})
	}
	b.gone(t, 30, 40)
	for i := range 7 {
		b.gone(t, 20+i, 41+i) // 30, and what comes ahead of it, is behind the hand
	}
	b.gone(t, 60, 20) // the hand has come round: all were used, and are spared once
}

// the words: one that is used each time is spared each time
func TestHandSpares(t *testing.T) {
	b := made(t, 128, 8, false)
	for _, i := range upTo(20, 8) {
		b.change(t, i, 0, []byte{1})
	}
	b.gone(t, 28, 20)
	for i, page := range []int{21, 22, 23, 25, 26, 27} {
		b.gets(t, 24)
		b.gone(t, 29+i, page)
	}
	b.dirty(t, slices.Concat([]int{24}, upTo(28, 7))...)
}

// the words: a clean one that goes is not written; nothing but who goes is
func TestCleanGoes(t *testing.T) {
	b := made(t, 128, 8, false)
	b.gets(t, upTo(20, 7)...)
	b.change(t, 60, 0, []byte{1})
	was := b.d.Copy()
	b.gets(t, upTo(30, 7)...)
	b.dirty(t, 60)
	if b.d.Writes() != 0 || !b.d.Same(was) || b.p.Frames() != 8 {
		t.Error(b.d.Writes(), b.p.Frames())
	}
	b.gets(t, 90)
	b.dirty(t)
	if loose := b.d.Loose(); !slices.Equal(loose, []int{60}) { // of what goes no barrier is made
		t.Error(loose)
	}
}

// the words: one that was written is not dirty, and goes without being written again
func TestWrittenGoes(t *testing.T) {
	b := made(t, 128, 8, false)
	for _, i := range upTo(20, 8) {
		b.change(t, i, 0, []byte{1})
	}
	if b.p.WriteAll() != api.OK {
		t.Fatal("WriteAll")
	}
	writes := b.d.Writes()
	b.gets(t, upTo(40, 8)...)
	if b.d.Writes() != writes {
		t.Error(b.d.Writes(), writes)
	}
}

// P7.1, P7.2: what is there is got, and put, also without power; so is what room can be made for
func TestDead(t *testing.T) {
	b := made(t, 128, 8, false)
	b.gets(t, upTo(20, 7)...)
	b.change(t, 60, 0, []byte{1})
	b.d.Fuse(0)
	b.d.Write(0, api.Sector{})
	if !b.d.Dead() {
		t.Fatal("power")
	}
	_, end := b.change(t, 60, 0, []byte{2})
	b.is(t, 60, api.Page{2}, end)
	b.gets(t, upTo(30, 7)...)
	b.refused(t, api.ErrDead, func() api.Errno { _, _, e := b.p.Get(90); return e })
	b.refused(t, api.ErrDead, func() api.Errno { return b.p.Put(90, 0, []byte{1}, 1, end) })
	b.refused(t, api.ErrDead, func() api.Errno { return b.p.Write(60) })
	b.refused(t, api.ErrDead, func() api.Errno { return b.p.WriteAll() })
	b.refused(t, api.ErrArg, func() api.Errno { return b.p.Put(90, 248, []byte{1}, 1, end) })
	b.refused(t, api.ErrArg, func() api.Errno { _, _, e := b.p.Get(128); return e })
	b.is(t, 60, api.Page{2}, end)
}

// what is refused changes nothing: not what the hand does either
func TestRefusedHand(t *testing.T) {
	b := made(t, 128, 8, false)
	b.change(t, 20, 0, []byte{1})
	b.gets(t, upTo(21, 7)...)
	b.d.Fuse(0)
	get := func() api.Errno { _, _, e := b.p.Get(90); return e }
	for range 3 { // were 21 not used any more behind the first time, it would go now, and 20 be spared
		b.refused(t, api.ErrDead, get)
		b.gets(t, 20)
	}
}

// what is refused changes nothing: where many would go, all stay
func TestRefusedMany(t *testing.T) {
	done := false
	for fuse := 0; !done; fuse++ {
		b := made(t, 128, 8, true)
		for _, i := range upTo(20, 20) {
			if i%3 == 0 {
				b.change(t, i, 0, []byte{byte(i)})
			} else {
				b.gets(t, i)
			}
		}
		b.p.Let()
		dirty := b.p.Dirty()
		b.d.Fuse(fuse)
		_, _, e := b.p.Get(60)
		done = e == api.OK
		if done {
			if fuse < 5 || b.p.Frames() != 8 {
				t.Error(fuse, b.p.Frames())
			}
			continue
		}
		if e != api.ErrDead || b.p.Frames() != 20 {
			t.Error(fuse, e, b.p.Frames())
		}
		b.dirty(t, dirty...)
	}
}

// frame and model are a pool that is told another way: it looks at each sector's number, and what is refused is undone from a copy. It has a disk and a log of its own.
type frame struct {
	payload     api.Page
	lsn, first  uint64
	dirty, used bool
}

type model struct {
	d    *disk.Disk
	l    *wal.Log
	most int
	held bool
	hand int
	in   map[int]frame
}

func (m *model) write(i int) api.Errno {
	f := m.in[i]
	if !f.dirty {
		return api.OK
	}
	if e := m.l.Flush(f.lsn); e != api.OK {
		return e
	}
	if e := m.d.Write(i, raw(f.lsn, f.payload)); e != api.OK {
		return e
	}
	f.dirty, f.first = false, 0
	m.in[i] = f
	return api.OK
}

func (m *model) goes() api.Errno {
	for i := m.hand + 1; ; i++ {
		i %= m.d.Sectors()
		f, there := m.in[i]
		if !there {
			continue
		}
		if f.used {
			f.used = false
			m.in[i] = f
			continue
		}
		if e := m.write(i); e != api.OK {
			return e
		}
		delete(m.in, i)
		m.hand = i
		return api.OK
	}
}

// undone does something, or nothing.
func (m *model) undone(do func() api.Errno) api.Errno {
	in, hand := maps.Clone(m.in), m.hand
	e := do()
	if e != api.OK {
		m.in, m.hand = in, hand
	}
	return e
}

func (m *model) use(i int) api.Errno {
	return m.undone(func() api.Errno {
		f, there := m.in[i]
		if !there {
			for len(m.in) >= m.most && !m.held {
				if e := m.goes(); e != api.OK {
					return e
				}
			}
			s, _ := m.d.Read(i)
			f = frame{payload: api.Page(s[8:]), lsn: binary.LittleEndian.Uint64(s[:])}
		}
		f.used = true
		m.in[i] = f
		return api.OK
	})
}

func (m *model) put(i, off int, b []byte, first, lsn uint64) api.Errno {
	e := m.use(i)
	if e != api.OK {
		return e
	}
	f := m.in[i]
	if !f.dirty {
		f.dirty, f.first = true, first
	}
	copy(f.payload[off:], b)
	f.lsn = lsn
	m.in[i] = f
	return api.OK
}

func (m *model) dirty() []int {
	var l []int
	for i := range m.d.Sectors() {
		if m.in[i].dirty {
			l = append(l, i)
		}
	}
	return l
}

func (m *model) writeAll() api.Errno {
	return m.undone(func() api.Errno {
		for _, i := range m.dirty() {
			if e := m.write(i); e != api.OK {
				return e
			}
		}
		return m.d.Barrier()
	})
}

func (m *model) look() looks {
	dirty := m.dirty()
	first := uint64(math.MaxUint64)
	for _, i := range dirty {
		first = min(first, m.in[i].first)
	}
	if len(dirty) == 0 {
		first = 0
	}
	return looks{dirty, m.d.Loose(), first, m.l.Lasts(), len(dirty) > 0, m.held, len(m.in), m.d.Writes()}
}

// pair is a pool and its model, and what each page should be.
type pair struct {
	b     *bench
	m     *model
	truth map[int]api.Sector
}

// paired are both on disks of the same bytes; pages of the groups have LSNs that no log knows.
func paired(t *testing.T, r *rand.Rand) pair {
	t.Helper()
	d, _ := disk.New(600)
	truth := map[int]api.Sector{}
	for i := 80; i < 600; i++ {
		truth[i] = raw(uint64(r.Intn(2))*r.Uint64(), some(r.Intn(1000)))
		if d.Write(i, truth[i]) != api.OK {
			t.Fatal("Write", i)
		}
	}
	d.Barrier()
	twin := d.Copy()
	frames, held := 8+r.Intn(20)*r.Intn(2), r.Intn(3) == 0
	l, su, _ := opened(t, d, 1)
	p, e := pool.New(d, l, frames, held)
	if e != api.OK {
		t.Fatal(e)
	}
	other, _, _ := opened(t, twin, 1)
	return pair{&bench{d, su, l, p}, &model{twin, other, frames, held, -1, map[int]frame{}}, truth}
}

// get asks both for a page.
func (x pair) get(t *testing.T, page int) {
	t.Helper()
	e := x.m.use(page)
	got, lsn, f := x.b.p.Get(page)
	if e != f {
		t.Fatal("Get", page, f, "not", e)
	}
	if e != api.OK && (got != (api.Page{}) || lsn != 0) || e == api.OK && raw(lsn, got) != x.truth[page] {
		t.Fatal("Get", page, lsn, e)
	}
}

// put changes a page of both, with a record in both logs.
func (x pair) put(t *testing.T, r *rand.Rand, page int) {
	t.Helper()
	n := 1 + r.Intn(8)
	off := r.Intn(api.PageSize - n + 1)
	first, end := note(t, x.b.l, page, n)
	note(t, x.m.l, page, n)
	bytes := make([]byte, n)
	r.Read(bytes)
	e := x.m.put(page, off, bytes, first, end)
	if f := x.b.p.Put(page, off, bytes, first, end); e != f {
		t.Fatal("Put", page, f, "not", e)
	}
	if e == api.OK {
		x.truth[page] = raw(end, x.m.in[page].payload)
	}
}

// step does anything with both.
func (x pair) step(t *testing.T, r *rand.Rand, pages int) {
	t.Helper()
	page := 80 + r.Intn(pages)
	switch k := r.Intn(100); {
	case k < 45:
		x.get(t, page)
	case k < 85:
		x.put(t, r, page)
	case k < 92:
		e := x.m.undone(func() api.Errno { return x.m.write(page) })
		if f := x.b.p.Write(page); e != f {
			t.Fatal("Write", f, "not", e)
		}
	case k < 94:
		e := x.m.writeAll()
		if f := x.b.p.WriteAll(); e != f {
			t.Fatal("WriteAll", f, "not", e)
		}
	case k < 95:
		x.m.held = false
		x.b.p.Let()
	case k < 96:
		if e, f := x.m.d.Barrier(), x.b.d.Barrier(); e != f {
			t.Fatal("Barrier", e, f)
		}
	}
	if now, want := x.b.look(), x.m.look(); !now.same(want) {
		t.Fatal("not as it should be", now, want)
	}
}

// lasts says that behind any loss of power no page has what the log has not: if it had not been so ahead.
func (x pair) lasts(t *testing.T, r *rand.Rand, was *disk.Disk) {
	t.Helper()
	picks := make([]int, 40)
	for i := range picks {
		picks[i] = r.Intn(3)
	}
	d := x.b.d.Crash(picks)
	l, _, _ := opened(t, d, 2)
	for i := 80; i < d.Sectors(); i++ {
		now, _ := d.Read(i)
		if old, _ := was.Read(i); now != old && lsnOf(d, i) > l.End() {
			t.Fatal(i, "has", lsnOf(d, i), "the log", l.End())
		}
	}
}

// P7.1 to P7.5, the words: any steps, and the power may go
func TestRandom(t *testing.T) {
	for seed := range 150 {
		r := rand.New(rand.NewSource(int64(seed)))
		x := paired(t, r)
		was := x.b.d.Copy()
		pages := []int{10, 20, 60, 520}[r.Intn(4)]
		dies := r.Intn(400)
		for i := range 300 {
			if i == dies {
				fuse := r.Intn(30)
				x.b.d.Fuse(fuse)
				x.m.d.Fuse(fuse)
			}
			x.step(t, r, pages)
			if i%20 == 0 {
				x.lasts(t, r, was)
			}
		}
		if !x.b.d.Same(x.m.d) {
			t.Fatal(seed, "the disks differ")
		}
		for i := range x.m.in {
			x.get(t, i)
		}
	}
}

// P7.5: what was put is got, whatever went
func TestPutGot(t *testing.T) {
	r := rand.New(rand.NewSource(1))
	for _, held := range []bool{false, true} {
		b := made(t, 600, 8, held)
		want := map[int]api.Sector{}
		for i := range 30 {
			page := 80 + r.Intn(500)
			payload := some(i)
			_, end := b.change(t, page, 0, payload[:])
			want[page] = raw(end, payload)
			b.gets(t, 80+r.Intn(500))
		}
		for page, s := range want {
			b.is(t, page, api.Page(s[8:]), binary.LittleEndian.Uint64(s[:]))
		}
	}
}

// many pages go at once, and in time
func TestMany(t *testing.T) {
	d, _ := disk.New(api.MaxDisk)
	su, _ := super.Make(64)
	l, _, _ := wal.Open(d, su, 0, 1)
	p, _ := pool.New(d, l, 4096, true)
	b := &bench{d, su, l, p}
	b.gets(t, upTo(100, 60000)...)
	p.Let()
	b.gets(t, upTo(60200, 50)...)
	if p.Frames() != 4096 {
		t.Error(p.Frames())
	}
}
