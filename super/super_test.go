package super_test

import (
	"encoding/binary"
	"hash/crc32"
	"math"
	"math/rand"
	"testing"

	"hornbook/api"
	"hornbook/super"
)

// far are numbers that are nowhere a place, whatever the layout.
var far = []int{math.MinInt, math.MinInt + 1, -1 << 32, -api.MaxSectors, -api.GroupSize, -16, -2, -1, api.MaxSectors, api.MaxSectors + 1, 1 << 16, 1 << 31, 1 << 32, 1<<32 + 1, 1<<32 + 64, 1 << 58, 1<<58 + 1, 1 << 60, 1<<62 + 1, math.MaxInt - 1, math.MaxInt}

// made is the layout of so many sectors.
func made(t *testing.T, sectors int) api.Super {
	t.Helper()
	s, e := super.Make(sectors)
	if e != api.OK {
		t.Fatal("Make", sectors, e)
	}
	return s
}

// sealed is a sector that begins with a text and words, and has a right sum: by another way than the program's.
func sealed(name string, words ...any) api.Sector {
	b := []byte(name)
	for _, w := range words {
		switch n := w.(type) {
		case uint32:
			b = binary.LittleEndian.AppendUint32(b, n)
		case uint64:
			b = binary.LittleEndian.AppendUint64(b, n)
		}
	}
	var s api.Sector
	copy(s[:], b)
	return summed(s)
}

// summed is a sector with a right sum.
func summed(s api.Sector) api.Sector {
	sum := crc32.Checksum(s[:api.SectorSize-4], crc32.MakeTable(crc32.Castagnoli))
	binary.LittleEndian.PutUint32(s[api.SectorSize-4:], sum)
	return s
}

// turned is a sector with a bit turned.
func turned(s api.Sector, bit int) api.Sector {
	s[bit/8] ^= 1 << (bit % 8)
	return s
}

// laid is what the document says of so many sectors, counted one by one.
func laid(sectors int) api.Super {
	s := api.Super{Sectors: sectors, Log: sectors / 8}
	if s.Log < 16 {
		s.Log = 16
	}
	if s.Log > 256 {
		s.Log = 256
	}
	left := sectors - 3 - s.Log
	for left >= 64 {
		s.Groups++
		left -= 64
	}
	if left >= 8 {
		s.Groups++
	}
	return s
}

// layout is one of these numbers, whether it may be or not.
func layout(sectors, log, groups int) api.Super {
	return api.Super{Sectors: sectors, Log: log, Groups: groups}
}

// bad are layouts that may not be.
func bad(t *testing.T) []api.Super {
	t.Helper()
	l := []api.Super{
		{}, layout(0, 16, 1), layout(63, 16, 1), layout(4097, 256, 60), layout(-64, 16, 1), layout(1<<32+64, 16, 1),
		layout(math.MaxInt, 256, 60), layout(math.MinInt, 16, 1), layout(64, math.MinInt, math.MaxInt),
		layout(math.MaxInt, math.MaxInt, math.MaxInt), layout(math.MinInt, math.MinInt, math.MinInt),
	}
	for _, n := range []int{64, 66, 83, 128, 146, 147, 1000, 2048, 4096} {
		s := made(t, n)
		for _, by := range []int{-s.Log, -1, 1, 64, 1 << 32} {
			l = append(l, layout(n, s.Log+by, s.Groups))
		}
		for _, by := range []int{-s.Groups, -1, 1, 1 << 32, 1 << 58} {
			l = append(l, layout(n, s.Log, s.Groups+by))
		}
		l = append(l, layout(n, s.Log+64, s.Groups-1), layout(n+8, s.Log+9, s.Groups), layout(n-64, s.Log, s.Groups))
	}
	return l
}

func TestExamples(t *testing.T) {
	for _, x := range []struct {
		sectors int
		want    api.Super
		e       api.Errno
	}{
		{64, api.Super{Sectors: 64, Log: 16, Groups: 1}, api.OK},
		{4096, api.Super{Sectors: 4096, Log: 256, Groups: 60}, api.OK},
		{63, api.Super{}, api.ErrArg},
	} {
		if s, e := super.Make(x.sectors); s != x.want || e != x.e {
			t.Error("Make", x.sectors, s, e)
		}
	}
	s := made(t, 64)
	for _, x := range []struct {
		name string
		f    func(api.Super, int) (int, int, api.Errno)
		i    int
		a, b int
		e    api.Errno
	}{
		{"Group", super.Group, 0, 19, 45, api.OK},
		{"Inode", super.Inode, 1, 20, 0, api.OK},
		{"Inode", super.Inode, 16, 23, 186, api.OK},
		{"Inode", super.Inode, 17, 0, 0, api.ErrArg},
		{"Block", super.Block, 24, 0, 5, api.OK},
		{"Block", super.Block, 23, 0, 0, api.ErrArg},
	} {
		if a, b, e := x.f(s, x.i); a != x.a || b != x.b || e != x.e {
			t.Error(x.name, x.i, a, b, e)
		}
	}
}

// P4.1: each number of sectors has its layout, which may be
func TestMake(t *testing.T) {
	for n := api.MinSectors; n <= api.MaxSectors; n++ {
		s, e := super.Make(n)
		if e != api.OK || s != laid(n) || !super.May(s) {
			t.Fatal(n, s, e, laid(n))
		}
	}
}

// P4.1: the edges of the log's size, and of the last group's
func TestMakeEdges(t *testing.T) {
	for _, s := range []api.Super{
		layout(64, 16, 1), layout(82, 16, 1), layout(83, 16, 1), layout(84, 16, 1), layout(90, 16, 1), layout(91, 16, 2), // 83: a full group; 91: one of 8 behind it
		layout(135, 16, 2), layout(136, 17, 2), layout(143, 17, 2), layout(144, 18, 2), // the log grows from 136 on
		layout(2047, 255, 28), layout(2048, 256, 28), layout(2056, 256, 28), // and no further from 2048 on
		layout(2058, 256, 28), layout(2059, 256, 29), layout(4088, 256, 60), layout(4095, 256, 60), layout(4096, 256, 60),
	} {
		if got := made(t, s.Sectors); got != laid(s.Sectors) {
			t.Error(got, laid(s.Sectors))
		} else if got != s {
			t.Error(got, s)
		}
	}
}

// P4.1: numbers of sectors that may not be
func TestMakeRefuses(t *testing.T) {
	for _, n := range append([]int{0, 1, 8, 16, 62, 63, 4097, 4098, -64}, far...) {
		if n == api.MaxSectors {
			continue
		}
		if s, e := super.Make(n); s != (api.Super{}) || e != api.ErrArg {
			t.Error(n, s, e)
		}
	}
}

// P4.1: layouts that may not be
func TestMayNot(t *testing.T) {
	for _, s := range bad(t) {
		if super.May(s) {
			t.Error(s)
		}
	}
}

// P4.2: of a layout that may not be nothing is told, whatever is asked
func TestBadLayouts(t *testing.T) {
	for _, s := range bad(t) {
		if n := super.Inodes(s); n != 0 {
			t.Error("Inodes", s, n)
		}
		for _, i := range append([]int{0, 1, 2, 3, 5, 16, 17, 19, 20, 24, 63, 64, 100}, far...) {
			told(t, "Group", s, i, super.Group, 0, 0, api.ErrArg)
			told(t, "Inode", s, i, super.Inode, 0, 0, api.ErrArg)
			told(t, "Block", s, i, super.Block, 0, 0, api.ErrArg)
			told(t, "LogAt", s, i, logAt, 0, 0, api.ErrArg)
		}
	}
}

func logAt(s api.Super, i int) (int, int, api.Errno) {
	sector, e := super.LogAt(s, i)
	return sector, 0, e
}

// told asks for what is told of a number.
func told(t *testing.T, name string, s api.Super, i int, f func(api.Super, int) (int, int, api.Errno), a, b int, e api.Errno) {
	t.Helper()
	if x, y, err := f(s, i); x != a || y != b || err != e {
		t.Error(name, s, i, "answered", x, y, err, "wanted", a, b, e)
	}
}

// P4.2: Group, of each layout, goes from the log's end on, 64 by 64
func TestGroup(t *testing.T) {
	for n := api.MinSectors; n <= api.MaxSectors; n++ {
		s := laid(n)
		first := 3 + s.Log
		for g := range s.Groups {
			told(t, "Group", s, g, super.Group, first, min(64, n-first), api.OK)
			first += 64
		}
		for _, g := range append([]int{s.Groups, s.Groups + 1}, far...) {
			told(t, "Group", s, g, super.Group, 0, 0, api.ErrArg)
		}
	}
}

// P4.2: Inode and Inodes, of each layout: 16 of a group, 4 of a page
func TestInode(t *testing.T) {
	for n := api.MinSectors; n <= api.MaxSectors; n += 1 + n%5 {
		s := laid(n)
		i := 0
		for g := range s.Groups {
			for page := range 4 {
				for _, off := range []int{0, 62, 124, 186} {
					i++
					told(t, "Inode", s, i, super.Inode, 3+s.Log+64*g+1+page, off, api.OK)
				}
			}
		}
		if super.Inodes(s) != i || i != 16*s.Groups {
			t.Error("Inodes", s, super.Inodes(s), i)
		}
		for _, i := range append([]int{0, i + 1, i + 2, i + 16, i + 64}, far...) {
			told(t, "Inode", s, i, super.Inode, 0, 0, api.ErrArg)
		}
	}
}

// P4.2: Block, of each layout: each sector is some group's block, with its place there, or is refused
func TestBlock(t *testing.T) {
	for n := api.MinSectors; n <= api.MaxSectors; n += 1 + n%5 {
		s := laid(n)
		next := 0
		for g := range s.Groups {
			first := 3 + s.Log + 64*g
			for ; next < first+5; next++ {
				told(t, "Block", s, next, super.Block, 0, 0, api.ErrArg)
			}
			for ; next < min(first+64, n); next++ {
				told(t, "Block", s, next, super.Block, g, next-first, api.OK)
			}
		}
		for ; next < n+200; next++ { // what is left at the end, and isn't a group; and what there is not
			told(t, "Block", s, next, super.Block, 0, 0, api.ErrArg)
		}
		for _, i := range far {
			told(t, "Block", s, i, super.Block, 0, 0, api.ErrArg)
		}
	}
}

// P4.2: the last group at its least and its greatest, and what is left behind it
func TestBlockEdges(t *testing.T) {
	s := made(t, 91) // its last group begins at 83, and has 8
	told(t, "Group", s, 1, super.Group, 83, 8, api.OK)
	told(t, "Block", s, 82, super.Block, 0, 63, api.OK)
	told(t, "Block", s, 87, super.Block, 0, 0, api.ErrArg)
	told(t, "Block", s, 88, super.Block, 1, 5, api.OK)
	told(t, "Block", s, 90, super.Block, 1, 7, api.OK)
	told(t, "Block", s, 91, super.Block, 0, 0, api.ErrArg)
	told(t, "Inode", s, 32, super.Inode, 87, 186, api.OK)
	s = made(t, 90) // 7 are left
	told(t, "Group", s, 0, super.Group, 19, 64, api.OK)
	told(t, "Group", s, 1, super.Group, 0, 0, api.ErrArg)
	told(t, "Block", s, 88, super.Block, 0, 0, api.ErrArg)
	told(t, "Block", s, 89, super.Block, 0, 0, api.ErrArg)
}

// P4.2: LogAt, from 3 on
func TestLogAt(t *testing.T) {
	for n := api.MinSectors; n <= api.MaxSectors; n += 1 + n%5 {
		s := laid(n)
		for i := range s.Log {
			told(t, "LogAt", s, i, logAt, 3+i, 0, api.OK)
		}
		for _, i := range append([]int{s.Log, s.Log + 1}, far...) {
			told(t, "LogAt", s, i, logAt, 0, 0, api.ErrArg)
		}
	}
}

// P4.3: a layout's sector, byte by byte; of it it is read again
func TestBytes(t *testing.T) {
	for n := api.MinSectors; n <= api.MaxSectors; n++ {
		s := laid(n)
		b, e := super.Bytes(s)
		if e != api.OK || b != sealed("hornbook", uint32(n), uint32(s.Log), uint32(s.Groups)) {
			t.Fatal(n, b, e)
		}
		if got, e := super.Of(b); got != s || e != api.OK {
			t.Fatal(n, got, e)
		}
	}
	b, _ := super.Bytes(laid(4096))
	for i, x := range []byte{'h', 'o', 'r', 'n', 'b', 'o', 'o', 'k', 0, 16, 0, 0, 0, 1, 0, 0, 60, 0, 0, 0, 0} {
		if b[i] != x {
			t.Error(i, b[i], x)
		}
	}
}

// P4.3: layouts that may not be have no sector
func TestBytesRefuses(t *testing.T) {
	for _, s := range bad(t) {
		if b, e := super.Bytes(s); b != (api.Sector{}) || e != api.ErrArg {
			t.Error(s, b, e)
		}
	}
}

// none are sectors that are nobody's: noughts, ones, and any.
func none() []api.Sector {
	l := []api.Sector{{}, summed(api.Sector{}), {'h'}}
	var ones api.Sector
	for i := range ones {
		ones[i] = 255
	}
	l = append(l, ones, summed(ones))
	r := rand.New(rand.NewSource(4))
	for range 100 {
		var s api.Sector
		for i := range s {
			s[i] = byte(r.Intn(256))
		}
		l = append(l, s, summed(s))
	}
	return l
}

// P4.3: a sector that is no layout's is none, though its sum be right
func TestOfRefuses(t *testing.T) {
	l := none()
	l = append(l,
		super.MasterBytes(api.Master{}),
		super.MasterBytes(api.Master{Epoch: 64, Seq: 16, Tail: 1}),
		sealed("Hornbook", uint32(64), uint32(16), uint32(1)),
		sealed("hornbooK", uint32(64), uint32(16), uint32(1)),
		sealed("hornboo\x00", uint32(64), uint32(16), uint32(1)),
		sealed("master\x00\x00", uint32(64), uint32(16), uint32(1)),
		sealed("hornbook", uint64(64), uint64(16), uint64(1)),
		sealed("hornbook", uint32(64), uint32(16), uint32(1), uint32(1)),
		sealed("hornbook", uint32(64), uint32(16), uint32(1), uint32(1<<31)),
		sealed("hornbook"),
		sealed("hornbook", uint32(4096), uint32(256), uint32(60), uint64(1)),
		sealed("hornbook", uint32(64), uint32(0x10000010), uint32(1)),
		sealed("hornbook", uint32(64), uint32(16), uint32(0x01000001)),
		sealed("hornbook", uint32(0xffffffff), uint32(256), uint32(60)),
	)
	for _, s := range bad(t) {
		low := layout(int(uint32(s.Sectors)), int(uint32(s.Log)), int(uint32(s.Groups)))
		if super.May(low) { // what its words hold of it may be
			continue
		}
		l = append(l, sealed("hornbook", uint32(s.Sectors), uint32(s.Log), uint32(s.Groups)))
	}
	for place := 20; place < api.SectorSize-4; place++ { // what should be noughts
		b, _ := super.Bytes(laid(64))
		b[place] = 1
		l = append(l, summed(b))
	}
	for k, b := range l {
		if s, e := super.Of(b); s != (api.Super{}) || e != api.ErrBytes {
			t.Error(k, s, e, b)
		}
	}
}

// masters are masters of all kinds of numbers.
func masters() []api.Master {
	words := []uint64{0, 1, 2, 255, 256, 1 << 31, 1<<32 - 1, 1 << 32, 1<<53 + 1, 1<<63 - 1, 1 << 63, math.MaxUint64 - 1, math.MaxUint64, 0x0102030405060708}
	var l []api.Master
	for i, e := range words {
		for k, s := range words {
			l = append(l, api.Master{Epoch: e, Seq: s, Tail: words[(i*5+k*3+1)%len(words)]})
		}
	}
	return l
}

// P4.3: a master's sector, byte by byte; of it it is read again
func TestMasterBytes(t *testing.T) {
	for _, m := range masters() {
		b := super.MasterBytes(m)
		if b != sealed("master\x00\x00", m.Epoch, m.Seq, m.Tail) {
			t.Fatal(m, b)
		}
		if got, e := super.MasterOf(b); got != m || e != api.OK {
			t.Fatal(m, got, e)
		}
	}
}

// P4.3: a sector that is no master's is none, though its sum be right
func TestMasterOfRefuses(t *testing.T) {
	l := none()
	for _, n := range []int{64, 100, 4096} {
		b, _ := super.Bytes(laid(n))
		l = append(l, b)
	}
	l = append(l,
		sealed("Master\x00\x00", uint64(1), uint64(2), uint64(3)),
		sealed("master\x00\x01", uint64(1), uint64(2), uint64(3)),
		sealed("master\x01\x00", uint64(1), uint64(2), uint64(3)),
		sealed("master  ", uint64(1), uint64(2), uint64(3)),
		sealed("masters\x00", uint64(1), uint64(2), uint64(3)),
		sealed("hornbook", uint64(1), uint64(2), uint64(3)),
		sealed("master\x00\x00", uint64(1), uint64(2), uint64(3), uint64(4)),
		sealed("master\x00\x00", uint64(1), uint64(2), uint64(3), uint64(1<<63)),
	)
	for place := 32; place < api.SectorSize-4; place++ { // what should be noughts
		b := super.MasterBytes(api.Master{Epoch: 1, Seq: 2, Tail: 3})
		b[place] = 128
		l = append(l, summed(b))
	}
	for k, b := range l {
		if m, e := super.MasterOf(b); m != (api.Master{}) || e != api.ErrBytes {
			t.Error(k, m, e, b)
		}
	}
}

// P4.3: Newer goes by Epoch, then by Seq; the tail says nothing
func TestNewer(t *testing.T) {
	for _, x := range []struct {
		a, b api.Master
		want bool
	}{
		{api.Master{}, api.Master{}, false},
		{api.Master{Epoch: 1}, api.Master{}, true},
		{api.Master{}, api.Master{Epoch: 1}, false},
		{api.Master{Seq: 1}, api.Master{}, true},
		{api.Master{}, api.Master{Seq: 1}, false},
		{api.Master{Tail: 1}, api.Master{}, false},
		{api.Master{}, api.Master{Tail: 1}, false},
		{api.Master{Epoch: 2, Seq: 1}, api.Master{Epoch: 1, Seq: 2}, true},
		{api.Master{Epoch: 1, Seq: 2}, api.Master{Epoch: 2, Seq: 1}, false},
		{api.Master{Epoch: 2, Seq: 2, Tail: 9}, api.Master{Epoch: 2, Seq: 2, Tail: 1}, false},
		{api.Master{Epoch: 2, Seq: 3, Tail: 1}, api.Master{Epoch: 2, Seq: 2, Tail: 9}, true},
		{api.Master{Epoch: 1 << 63}, api.Master{Epoch: 1<<63 - 1}, true},
		{api.Master{Epoch: math.MaxUint64}, api.Master{Epoch: 1}, true},
		{api.Master{Epoch: 1}, api.Master{Epoch: math.MaxUint64}, false},
		{api.Master{Epoch: 3, Seq: math.MaxUint64}, api.Master{Epoch: 3, Seq: 1}, true},
		{api.Master{Epoch: 3}, api.Master{Epoch: 3, Seq: 1 << 63}, false},
	} {
		if super.Newer(x.a, x.b) != x.want {
			t.Error(x)
		}
	}
	l := masters()
	for _, a := range l {
		for _, b := range l {
			same := a.Epoch == b.Epoch && a.Seq == b.Seq
			if n, m := super.Newer(a, b), super.Newer(b, a); n && m || !n && !m && !same || same && (n || m) {
				t.Fatal(a, b, n, m)
			}
		}
	}
}

// P4.4: each sector has one use at most, and all that the layout counts lie on the disk; no two inodes share a byte
func TestApart(t *testing.T) {
	for n := api.MinSectors; n <= api.MaxSectors; n++ {
		s := made(t, n)
		uses := make([]int, n)
		use := func(sector int) {
			if sector < 0 || sector >= n {
				t.Fatal(s, sector)
			}
			uses[sector]++
		}
		for i := range 3 {
			use(i)
		}
		for i := range s.Log {
			sector, _ := super.LogAt(s, i)
			use(sector)
		}
		for g := range s.Groups {
			first, sectors, _ := super.Group(s, g)
			for i := range 5 {
				use(first + i)
			}
			for i := first + 5; i < first+sectors; i++ {
				if group, at, e := super.Block(s, i); e != api.OK || group != g || at != i-first {
					t.Fatal(s, i, group, at, e)
				}
			}
		}
		for i := range n {
			if _, _, e := super.Block(s, i); e == api.OK {
				use(i)
			}
		}
		left := 0
		for i, u := range uses {
			if u > 1 {
				t.Fatal(s, i, u)
			}
			left += 1 - u
		}
		if left >= 8 {
			t.Fatal(s, left)
		}
		apartInodes(t, s)
	}
}

// apartInodes asks for all inodes, each of which lies in its group's pages, apart from all others.
func apartInodes(t *testing.T, s api.Super) {
	t.Helper()
	ends := map[int]int{} // of each sector: where the last inode that was told ends
	for i := 1; i <= super.Inodes(s); i++ {
		sector, off, e := super.Inode(s, i)
		first, _, _ := super.Group(s, (i-1)/16)
		if e != api.OK || off < ends[sector] || off+api.InodeSize > api.PageSize || sector <= first || sector > first+4 {
			t.Fatal(s, i, sector, off, e)
		}
		ends[sector] = off + api.InodeSize
	}
	if len(ends) != 4*s.Groups {
		t.Fatal(s, len(ends))
	}
}

// P4.4: a sector one bit of which is turned is none
func TestTurned(t *testing.T) {
	for _, n := range []int{64, 65, 128, 777, 2048, 4096} {
		b, _ := super.Bytes(laid(n))
		for bit := range 8 * api.SectorSize {
			if s, e := super.Of(turned(b, bit)); s != (api.Super{}) || e != api.ErrBytes {
				t.Error(n, bit, s, e)
			}
		}
	}
	for i, m := range masters() {
		if i%20 != 0 {
			continue
		}
		b := super.MasterBytes(m)
		for bit := range 8 * api.SectorSize {
			if got, e := super.MasterOf(turned(b, bit)); got != (api.Master{}) || e != api.ErrBytes {
				t.Error(m, bit, got, e)
			}
		}
	}
}
