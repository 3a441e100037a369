package dir_test

import (
	"encoding/binary"
	"fmt"
	"math"
	"reflect"
	"slices"
	"testing"

	"hornbook/api"
	"hornbook/bitmap"
	"hornbook/dir"
	"hornbook/disk"
	"hornbook/file"
	"hornbook/itable"
	"hornbook/pool"
	"hornbook/restart"
	"hornbook/super"
	"hornbook/txn"
	"hornbook/wal"
)

// bench is a disk, a store on it, and a transaction on its way.
type bench struct {
	d *disk.Disk
	l *wal.Log
	p *pool.Pool
	s *txn.Store
	t uint64
}

// ok says that nothing was refused.
func ok(t *testing.T, l ...api.Errno) {
	t.Helper()
	for i, e := range l {
		if e != api.OK {
			t.Fatal(i, "told", e)
		}
	}
}

// noughts is a store on a disk of noughts.
func noughts(t *testing.T, sectors int, held bool) *bench {
	t.Helper()
	b := &bench{}
	var e [5]api.Errno
	var su api.Super
	b.d, e[0] = disk.New(sectors)
	su, e[1] = super.Make(sectors)
	b.l, _, e[2] = wal.Open(b.d, su, 0, 1)
	b.p, e[3] = pool.New(b.d, b.l, 8, held)
	b.s, e[4] = txn.New(b.d, su, api.Master{Epoch: 1, Seq: 1}, b.l, b.p)
	ok(t, e[:]...)
	b.begin(t)
	return b
}

// made is a store that is as at first, with these inodes.
func made(t *testing.T, sectors int, kinds ...api.InodeKind) *bench {
	t.Helper()
	b := noughts(t, sectors, false)
	su := b.s.Super()
	for g := range su.Groups {
		first, _, e := super.Group(su, g)
		p, f := bitmap.Start(su, g)
		ok(t, e, f, b.s.Update(b.t, first, 0, p[:]))
		b.commit(t)
	}
	for i, kind := range kinds {
		n, e := itable.Make(b.s, b.t, 0, kind)
		if n != i+1 || e != api.OK {
			t.Fatal(n, e)
		}
		b.commit(t)
	}
	ok(t, b.s.Room())
	return b
}

func (b *bench) begin(t *testing.T) {
	t.Helper()
	var e api.Errno
	b.t, e = b.s.Begin()
	ok(t, e)
}

// commit lets the log's room go: the next transaction is on its way.
func (b *bench) commit(t *testing.T) {
	t.Helper()
	ok(t, b.s.Commit(b.t))
	b.begin(t)
}

// looks are what can be told of a store without its being changed.
type looks struct {
	ways             []uint64
	master           api.Master
	end, lasts, tail uint64
	free             int
	dirty            []int
}

func (b *bench) look() looks {
	return looks{slices.Concat([]uint64{}, b.s.Ways()), b.s.Master(), b.l.End(), b.l.Lasts(), b.l.Tail(), b.l.Free(), slices.Concat([]int{}, b.p.Dirty())}
}

// call is a call, of a store and a transaction; beside an error what it tells otherwise is to be nought.
type call func(s *txn.Store, t uint64) (any, api.Errno)

// tells says what a call answers.
func (b *bench) tells(t *testing.T, do call, want any) {
	t.Helper()
	if got, e := do(b.s, b.t); !reflect.DeepEqual(got, want) || e != api.OK {
		t.Fatalf("told %.99q, %v, not %.99q", got, e, want)
	}
}

// refused says that a call is, by that error, and tells nothing else.
func refused(t *testing.T, s *txn.Store, n uint64, do call, want api.Errno) {
	t.Helper()
	if got, e := do(s, n); e != want || !reflect.ValueOf(got).IsZero() {
		t.Errorf("told %.99q, %v, not %v", got, e, want)
	}
}

// refuses says so, and that nothing changes by it.
func (b *bench) refuses(t *testing.T, n uint64, do call, want api.Errno) {
	t.Helper()
	was, sectors := b.look(), b.d.Copy()
	refused(t, b.s, n, do, want)
	if now := b.look(); !reflect.DeepEqual(was, now) || !b.d.Same(sectors) {
		t.Error("changed", was, now)
	}
}

// keeps says so, and that nothing is noted, though room may be made, and pages may go.
func (b *bench) keeps(t *testing.T, n uint64, do call, want api.Errno) {
	t.Helper()
	end, free := b.l.End(), b.l.Free()
	refused(t, b.s, n, do, want)
	if b.l.End() != end || b.l.Free() != free {
		t.Error("noted", end, b.l.End(), free, b.l.Free())
	}
}

// gone takes the power away.
func (b *bench) gone(t *testing.T) {
	t.Helper()
	b.d.Fuse(0)
	if e := b.d.Write(0, api.Sector{}); e != api.ErrDead {
		t.Fatal(e)
	}
}

// crowd lets all frames have these pages, all of them dirty, so that what is asked for next must write.
func (b *bench) crowd(t *testing.T, pages ...int) {
	t.Helper()
	ok(t, b.s.Room())
	for i := byte(1); len(b.p.Dirty()) < b.p.Frames() || b.p.Frames() < 8; i++ { // at first some go again
		for _, page := range pages {
			ok(t, b.s.Update(b.t, page, 200, []byte{i}))
		}
	}
	if got := b.p.Dirty(); !slices.Equal(got, pages) {
		t.Fatal(got)
	}
}

// read, write, cut, whole and holes are calls.

// nothing is what is told by what tells an error alone.
type nothing struct{}

// inode is one.
func (b *bench) inode(t *testing.T, i int) api.Inode {
	t.Helper()
	n, e := itable.Get(b.s, i)
	ok(t, e)
	return n
}

// land are the payloads of all pages of groups.
func (b *bench) land(t *testing.T) []api.Page {
	t.Helper()
	var l []api.Page
	su := b.s.Super()
	for page := 3 + su.Log; page < su.Sectors; page++ {
		p, e := b.s.Read(page)
		if e == api.OK {
			l = append(l, p)
		}
	}
	return l
}

// stands says that all pages are as they were.
func (b *bench) stands(t *testing.T, was []api.Page) {
	t.Helper()
	if now := b.land(t); !slices.Equal(was, now) {
		t.Fatal("a page changed")
	}
}

// free is how many blocks are.
func (b *bench) free(t *testing.T) int {
	t.Helper()
	n, _, e := bitmap.Total(b.s)
	ok(t, e)
	return n
}

// entry is one of a page of a tree.
type entry struct{ block, count, sector int }

// treePage is a page of a tree.
func treePage(level int, l ...entry) []byte {
	b := make([]byte, 248)
	b[0], b[1] = byte(level), byte(len(l))
	for i, x := range l {
		binary.LittleEndian.PutUint16(b[8+8*i:], uint16(x.block))
		binary.LittleEndian.PutUint16(b[10+8*i:], uint16(x.count))
		binary.LittleEndian.PutUint32(b[12+8*i:], uint32(x.sector))
	}
	return b
}

// puts lets a page have bytes.
func (b *bench) puts(t *testing.T, page int, l []byte) {
	t.Helper()
	ok(t, b.s.Update(b.t, page, 0, l))
	b.commit(t)
}

// takes uses all blocks up to one.
func (b *bench) takes(t *testing.T, g, last int) {
	t.Helper()
	for {
		got, e := bitmap.TakeBlock(b.s, b.t, g)
		ok(t, e)
		b.commit(t)
		if got == last {
			return
		}
	}
}

// sets lets an inode be that.
func (b *bench) sets(t *testing.T, i int, n api.Inode) {
	t.Helper()
	ok(t, itable.Set(b.s, b.t, i, n))
	b.commit(t)
}

// fill lets all frames have these pages, all of them dirty, but the bytes as they were.
func (b *bench) fill(t *testing.T, pages ...int) {
	t.Helper()
	slices.Sort(pages)
	var was []api.Page
	for _, page := range pages {
		p, e := b.s.Read(page)
		ok(t, e)
		was = append(was, p)
	}
	b.crowd(t, pages...)
	for i, page := range pages {
		ok(t, b.s.Update(b.t, page, 0, was[i][:]))
	}
}

// find, add, drop, change, list and empty are calls.

func find(i int, name string) call {
	return func(s *txn.Store, _ uint64) (any, api.Errno) { return tell(dir.Find(s, i, name)) }
}

func add(i int, name string, to int) call {
	return func(s *txn.Store, t uint64) (any, api.Errno) { return nothing{}, dir.Add(s, t, i, name, to) }
}

func drop(i int, name string) call {
	return func(s *txn.Store, t uint64) (any, api.Errno) { return nothing{}, dir.Drop(s, t, i, name) }
}

func change(i int, name string, to int) call {
	return func(s *txn.Store, t uint64) (any, api.Errno) { return nothing{}, dir.Change(s, t, i, name, to) }
}

func list(i int) call {
	return func(s *txn.Store, _ uint64) (any, api.Errno) {
		l, e := dir.List(s, i)
		return append([]api.Entry(nil), l...), e
	}
}

func empty(i int) call {
	return func(s *txn.Store, _ uint64) (any, api.Errno) { return tell(dir.Empty(s, i)) }
}

func tell[T any](is T, e api.Errno) (any, api.Errno) { return is, e }

// leaf is a block, and plain is a directory, as plain ones.
type leaf struct {
	next   int
	places [12]api.Entry
}

type plain struct {
	l    map[int]leaf
	size int
}

func newPlain() *plain { return &plain{l: map[int]leaf{}} }

// copied is another one like it.
func (f *plain) copied() *plain {
	g := &plain{l: map[int]leaf{}, size: f.size}
	for at, x := range f.l {
		g.l[at] = x
	}
	return g
}

// headOf is the block at which a name's chain begins.
func headOf(name string) int {
	h := 0
	for k := range len(name) {
		h = (31*h + int(name[k])) % (1 << 32)
	}
	return h % 4
}

// chain are a head's blocks.
func (f *plain) chain(head int) []int {
	l := []int{head}
	for next := f.l[head].next; next != 0; next = f.l[next].next {
		l = append(l, next)
	}
	return l
}

// at is where a name stands, or a free place is, in a chain; -1: nowhere.
func (f *plain) at(head int, name string) (block, place int) {
	for _, block := range f.chain(head) {
		for k, x := range f.l[block].places {
			if x.Name == name {
				return block, k
			}
		}
	}
	return -1, -1
}

// puts lets a place be that.
func (f *plain) puts(block, place int, is api.Entry) {
	x := f.l[block]
	x.places[place] = is
	f.l[block] = x
	f.size = max(f.size, 248*block+248)
}

// add lets it have a name, that is not there: the blocks that are laid, in their order.
func (f *plain) add(name string, to int) []int {
	is := api.Entry{Name: name, Inode: to}
	if block, place := f.at(headOf(name), ""); block >= 0 {
		f.puts(block, place, is)
		return []int{block}
	}
	l := f.chain(headOf(name))
	last, next := l[len(l)-1], max(4, (f.size+247)/248)
	f.puts(next, 0, is)
	x := f.l[last]
	x.next = next
	f.l[last] = x
	return []int{next, last}
}

// turn lets a name's place be that, if it is there: the block that is laid.
func (f *plain) turn(name string, is api.Entry) int {
	block, place := f.at(headOf(name), name)
	if block >= 0 {
		f.puts(block, place, is)
	}
	return block
}

// bytes are a block's.
func (f *plain) bytes(block int) []byte {
	b := make([]byte, 248)
	binary.LittleEndian.PutUint16(b, uint16(f.l[block].next))
	for k, x := range f.l[block].places {
		b[2+19*k] = byte(len(x.Name))
		copy(b[3+19*k:], x.Name)
		binary.LittleEndian.PutUint16(b[19+19*k:], uint16(x.Inode))
	}
	return b
}

// whole are all of its bytes.
func (f *plain) whole() string {
	var l []byte
	for block := range (f.size + 247) / 248 {
		l = append(l, f.bytes(block)...)
	}
	return string(l[:f.size])
}

// list are its names.
func (f *plain) list() []api.Entry {
	names := map[string]int{}
	for head := range 4 {
		for _, block := range f.chain(head) {
			for _, x := range f.l[block].places {
				names[x.Name] = x.Inode
			}
		}
	}
	delete(names, "")
	var l []api.Entry
	for name, to := range names {
		l = append(l, api.Entry{Name: name, Inode: to})
	}
	slices.SortFunc(l, func(a, b api.Entry) int { return slices.Compare([]byte(a.Name), []byte(b.Name)) })
	return l
}

// is says that an inode's names are those, and its bytes too.
func (b *bench) is(t *testing.T, i int, f *plain) {
	t.Helper()
	l := f.list()
	b.tells(t, list(i), l)
	b.tells(t, empty(i), len(l) == 0)
	for _, x := range l {
		b.tells(t, find(i, x.Name), x.Inode)
	}
	got, e := file.Whole(b.s, i)
	want := f.whole()
	if string(got) == want && e == api.OK {
		return
	}
	for k := range min(len(got), len(want)) {
		if got[k] != want[k] {
			t.Fatal("block", k/248, "byte", k%248, "is", got[k], "not", want[k])
		}
	}
	t.Fatal(len(got), "bytes, not", len(want), e)
}

// adds lets both have names.
func (b *bench) adds(t *testing.T, i int, f *plain, from int, names ...string) {
	t.Helper()
	for k, name := range names {
		f.add(name, from+k)
		b.tells(t, add(i, name, from+k), nothing{})
		b.commit(t)
	}
}

// named are so many names of a chain, of all lengths.
func named(head, many int) []string {
	var l []string
	for n := 0; len(l) < many; n++ {
		name := fmt.Sprint(n)
		for len(name) < 1+n%16 {
			name = string(rune('a'+n%26)) + name
		}
		if headOf(name) == head {
			l = append(l, name)
		}
	}
	return l
}

func TestExamples(t *testing.T) {
	b := made(t, 64, api.InodeDir)
	b.tells(t, add(1, "b", 7), nothing{})
	b.tells(t, add(1, "a", 9), nothing{})
	b.tells(t, find(1, "b"), 7)
	b.tells(t, list(1), []api.Entry{{Name: "a", Inode: 9}, {Name: "b", Inode: 7}})
	b.keeps(t, b.t, add(1, "b", 8), api.ErrState)
	b.keeps(t, b.t, drop(1, "c"), api.ErrNone)
	b.tells(t, drop(1, "b"), nothing{})
	b.keeps(t, b.t, find(1, "b"), api.ErrNone)
	b.keeps(t, b.t, add(1, ".", 3), api.ErrArg)
	if dir.Head("a") != 1 || dir.Head("ab") != 1 {
		t.Error(dir.Head("a"), dir.Head("ab"))
	}
}

// names that may not be
func noNames() []string {
	l := []string{"", ".", "..", "/", "\x00", "a/", "/a", "a\x00", "\x00a", "./", "../", "a/b", "aaaaaaaaaaaaaaaa/", "aaaaaaaaaaaaaaaaa", "aaaaaaaaaaaaaaa\x00", "é\x00", "ééééééééa"}
	for k := range 16 {
		for _, x := range []byte{0, '/'} {
			name := []byte("abcdefghijklmnop")
			name[k] = x
			l = append(l, string(name))
		}
	}
	return append(l, string(make([]byte, 17)), string(make([]byte, 1<<20)))
}

// P15.1
func TestMay(t *testing.T) {
	for x := range 256 {
		one := string([]byte{byte(x)})
		want := x != 0 && x != '/'
		if got := dir.May(one); got != (want && x != '.') {
			t.Error(x, got)
		}
		for _, name := range []string{one + one, one + "a", "a" + one, "." + one, one + ".", "abcdefgh" + one + "ijklmno", "abcdefghijklmno" + one} {
			if got := dir.May(name); got != (want && name != "..") {
				t.Errorf("%q: %v", name, got)
			}
		}
	}
	for n := range 40 {
		name := text(n)
		if got := dir.May(name); got != (n >= 1 && n <= 16) {
			t.Error(n, got)
		}
	}
	for _, name := range noNames() {
		if dir.May(name) {
			t.Errorf("%q", name)
		}
	}
	for _, name := range []string{"...", "....", ".a", "a.", "..a", "a..", " ", "\n", "\xff", "\x80\xc0", "éééééééé"} {
		if !dir.May(name) {
			t.Errorf("%q", name)
		}
	}
}

// text is a name of so many bytes, of all kinds but those that may not be.
func text(n int) string {
	l := make([]byte, n)
	for k := range l {
		l[k] = byte(128 + 37*k%128)
	}
	return string(l)
}

// P15.1: of any text, however long
func TestHead(t *testing.T) {
	long := make([]byte, 1<<20)
	for k := range long {
		long[k] = byte(k*k + k>>8)
	}
	for x := range 256 {
		for y := range 256 {
			name := string([]byte{byte(x), byte(y)})
			if got := dir.Head(name); got != headOf(name) {
				t.Fatal(x, y, got)
			}
		}
	}
	for _, n := range []int{0, 1, 2, 3, 4, 5, 6, 7, 8, 15, 16, 17, 100, 1 << 20} {
		if got := dir.Head(string(long[:n])); got != headOf(string(long[:n])) {
			t.Error(n, got)
		}
	}
	for _, name := range append(noNames(), "é", "\xff\xff\xff\xff\xff\xff\xff\xff") {
		if got := dir.Head(name); got != headOf(name) {
			t.Errorf("%q: %d", name, got)
		}
	}
}

// P15.1
func TestNeeds(t *testing.T) {
	if got := dir.Needs(); got != 6 {
		t.Error(got)
	}
}

// P15.2: a directory without a block, of each size
func TestNothing(t *testing.T) {
	for _, size := range []int{0, 1, 248, 249, 992, 993, 5000, api.MaxSize - 1, api.MaxSize} {
		b := made(t, 64, api.InodeDir)
		ok(t, file.Cut(b.s, b.t, 1, int64(size)))
		was := b.land(t)
		b.tells(t, list(1), []api.Entry(nil))
		b.tells(t, empty(1), true)
		for head := range 4 {
			for _, name := range named(head, 3) {
				b.keeps(t, b.t, find(1, name), api.ErrNone)
				b.keeps(t, b.t, drop(1, name), api.ErrNone)
				b.keeps(t, b.t, change(1, name, 1), api.ErrNone)
			}
		}
		b.stands(t, was)
	}
}

// P15.2, P15.3: names of each length, and of each byte that they may have; each number's bytes
func TestNames(t *testing.T) {
	b, f := made(t, 600, api.InodeDir), newPlain()
	for n := 1; n <= 16; n++ {
		b.adds(t, 1, f, 255*n, text(n))
		b.is(t, 1, f)
	}
	for x := 1; x < 256; x++ {
		if x != '/' && x != '.' && x != 128 { // 128: it is there already
			b.adds(t, 1, f, x<<8-x, string([]byte{byte(x)}), string([]byte{'.', byte(x)}))
		}
	}
	b.is(t, 1, f)
	b.adds(t, 1, f, 65535, "most")
	b.adds(t, 1, f, 1, "least")
	b.is(t, 1, f)
	b.tells(t, find(1, "most"), 65535)
	b.tells(t, find(1, "least"), 1)
}

// P15.3: the places of a chain, one behind the other; then a new block, behind the directory's last one
func TestGrow(t *testing.T) {
	for first := range 4 {
		b, f := made(t, 1400, api.InodeDir), newPlain()
		b.adds(t, 1, f, 100, named(first, 12)...)
		if f.size != 248*(first+1) {
			t.Fatal(f.size)
		}
		b.is(t, 1, f)
		b.adds(t, 1, f, 200, named(first, 13)[12:]...)
		if f.size != 5*248 || f.l[first].next != 4 {
			t.Fatal(f.size)
		}
		b.is(t, 1, f)
		b.adds(t, 1, f, 300, named(3-first, 30)...)
		b.is(t, 1, f)
		b.adds(t, 1, f, 400, named(first, 40)[13:]...)
		if f.size != 9*248 || f.l[4].next != 7 || f.l[5].next != 6 {
			t.Fatal(f.size, f.l[4].next, f.l[5].next)
		}
		b.is(t, 1, f)
		none, e := file.Holes(b.s, 1)
		if len(none) != 2 || e != api.OK {
			t.Error(none, e)
		}
	}
}

// P15.3: the first place that is free, in whichever block of the chain; of no other chain
func TestFirstFree(t *testing.T) {
	b, f := made(t, 1400, api.InodeDir), newPlain()
	l := named(2, 50)
	b.adds(t, 1, f, 100, l[:36]...)
	b.adds(t, 1, f, 200, named(1, 13)...)
	gone := func(names ...string) {
		t.Helper()
		for _, name := range names {
			f.turn(name, api.Entry{})
			b.tells(t, drop(1, name), nothing{})
			b.commit(t)
		}
		b.is(t, 1, f)
	}
	gone(l[35], l[3], l[12], l[30], l[11], l[0])
	gone(named(1, 5)...)
	for k, want := range [][2]int{{2, 0}, {2, 3}, {2, 11}, {4, 0}, {5, 6}, {5, 11}, {7, 0}} {
		f.add(l[40+k], 300+k)
		if block, place := f.at(2, l[40+k]); block != want[0] || place != want[1] {
			t.Fatal(block, place)
		}
		b.tells(t, add(1, l[40+k], 300+k), nothing{})
		b.is(t, 1, f)
		b.commit(t)
	}
	gone(l[40:47]...)
	for _, x := range f.list() {
		gone(x.Name)
	}
	b.tells(t, empty(1), true)
	if n := b.inode(t, 1); n.Size != 8*248 {
		t.Error(n)
	}
}

// P15.3: another number, or the same one; all else stays
func TestChange(t *testing.T) {
	b, f := made(t, 600, api.InodeDir), newPlain()
	b.adds(t, 1, f, 100, named(0, 30)...)
	for k, name := range named(0, 30) {
		for _, to := range []int{1, 255, 256, 65535, 100 + k} {
			f.turn(name, api.Entry{Name: name, Inode: to})
			b.tells(t, change(1, name, to), nothing{})
			b.tells(t, find(1, name), to)
		}
		b.commit(t)
	}
	b.is(t, 1, f)
	end := b.l.End()
	b.tells(t, change(1, named(0, 30)[20], 120), nothing{})
	if b.l.End() != end {
		t.Error("what is there already is noted")
	}
}

// P15.3: the new block's number, wherever the Size ends; there are no more than MaxBlock
func TestSizes(t *testing.T) {
	for size, want := range map[int]int{230: 4, 247: 4, 248: 4, 249: 4, 496: 4, 991: 4, 992: 4, 993: 5, 1239: 5, 1240: 5, 1241: 6, 1487: 6, 1488: 6, 1489: 7, 20000: 81, 4095*248 - 1: 4095, 4095 * 248: 4095, 4095*248 + 1: 0, api.MaxSize - 1: 0, api.MaxSize: 0} {
		b, f := made(t, 600, api.InodeDir), newPlain()
		b.adds(t, 1, f, 100, named(0, 12)...)
		ok(t, file.Cut(b.s, b.t, 1, int64(size)))
		f.size = size
		b.is(t, 1, f)
		name := named(0, 13)[12]
		if want == 0 {
			b.keeps(t, b.t, add(1, name, 5), api.ErrFull)
			b.keeps(t, 99999, add(1, name, 5), api.ErrFull)
		} else {
			b.adds(t, 1, f, 5, name)
			if f.l[0].next != want {
				t.Fatal(size, f.l[0])
			}
		}
		b.is(t, 1, f)
		b.adds(t, 1, f, 6, named(1, 1)[0])
		b.is(t, 1, f)
		if want == 4095 {
			b.adds(t, 1, f, 300, named(0, 24)[13:]...)
			b.keeps(t, b.t, add(1, named(0, 25)[24], 5), api.ErrFull)
			b.is(t, 1, f)
		}
	}
}

// P15.2, P15.3: where the Size ends within a block, what is behind it is noughts, whatever is in the sector
func TestBehindSize(t *testing.T) {
	b, f := made(t, 600, api.InodeDir), newPlain()
	b.adds(t, 1, f, 100, named(0, 12)...)
	n, name := b.inode(t, 1), named(0, 13)[12]
	for size := range 249 {
		n.Size = int64(size)
		ok(t, itable.Set(b.s, b.t, 1, n))
		have := (max(size, 2) - 2) / 19
		if at := (max(size, 2) - 2) % 19; have < 12 && at == 18 {
			have++ // the number's upper byte is a nought
		} else if have < 12 && at > 0 {
			b.keeps(t, b.t, list(1), api.ErrBytes)
			b.keeps(t, b.t, empty(1), api.ErrBytes)
			for _, do := range of(named(0, 1)[0], name) {
				b.keeps(t, b.t, do, api.ErrBytes)
			}
			ok(t, b.s.Rollback(b.t))
			b.begin(t)
			continue
		}
		g := f.copied()
		g.size = size
		for k := have; k < 12; k++ {
			g.puts(0, k, api.Entry{})
		}
		g.size = size
		b.tells(t, list(1), g.list())
		for k, x := range named(0, 12) {
			if k < have {
				b.tells(t, find(1, x), 100+k)
			} else {
				b.keeps(t, b.t, find(1, x), api.ErrNone)
			}
		}
		g.add(name, 7)
		b.tells(t, add(1, name, 7), nothing{})
		b.is(t, 1, g)
		ok(t, b.s.Rollback(b.t))
		b.begin(t)
	}
}

// of are calls of a name that is there, and of another one of its chain that is not.
func of(has, hasNot string) []call {
	return []call{find(1, has), drop(1, has), change(1, has, 3), add(1, has, 3), find(1, hasNot), drop(1, hasNot), change(1, hasNot, 3), add(1, hasNot, 3)}
}

// P15.3: each block is written whole, the new one ahead of the chain's last one: page by page, and record by record, as by hand
func TestByHand(t *testing.T) {
	for _, i := range []int{1, 17, 32, 33} {
		a, b := made(t, 1400), made(t, 1400)
		su := a.s.Super()
		trash := make([]byte, 248)
		for k := range trash {
			trash[k] = byte(k + 1)
		}
		for _, x := range []*bench{a, b} {
			for page := 3 + su.Log; page < su.Sectors; page++ {
				if _, _, e := super.Block(su, page); e == api.OK {
					x.puts(t, page, trash)
				}
			}
			x.sets(t, i, api.Inode{Kind: api.InodeDir, Links: 3})
		}
		f := newPlain()
		byHand := func(do call, blocks ...int) {
			t.Helper()
			a.tells(t, do, nothing{})
			for _, block := range blocks {
				ok(t, file.Write(b.s, b.t, i, int64(248*block), f.bytes(block)))
			}
			if a.l.End() != b.l.End() || !slices.Equal(a.land(t), b.land(t)) {
				t.Fatal("not as by hand")
			}
			a.commit(t)
			b.commit(t)
		}
		for head := range 4 {
			for k, name := range named(3-head, 27) {
				blocks := f.add(name, 1000*head+k+1)
				byHand(add(i, name, 1000*head+k+1), blocks...)
			}
		}
		for head := range 4 {
			for k, name := range named(head, 27) {
				switch k % 3 {
				case 0:
					byHand(change(i, name, k+1), f.turn(name, api.Entry{Name: name, Inode: k + 1}))
				case 1:
					byHand(drop(i, name), f.turn(name, api.Entry{}))
				}
			}
		}
		a.is(t, i, f)
		if n := a.inode(t, i); n.Kind != api.InodeDir || n.Links != 3 {
			t.Error(n)
		}
	}
}

// wrongs are what may not be, of an inode.
func wrongs(i int) []call {
	var l []call
	for _, name := range noNames() {
		l = append(l, find(i, name), add(i, name, 1), add(i, name, 0), drop(i, name), change(i, name, 1), change(i, name, 0))
	}
	for _, to := range []int{math.MinInt, -65535, -1, 0, 65536, 65537, 1 << 32, 1<<32 + 1, math.MaxInt} {
		l = append(l, add(i, "a", to), change(i, "a", to), add(i, "", to), change(i, "..", to))
	}
	return l
}

// sounds are calls that may be, of an inode.
func sounds(i int) []call {
	return append(of("a", "zz"), find(i, "a"), add(i, "b", 1), add(i, "a", 1), drop(i, "a"), change(i, "a", 65535), list(i), empty(i))[8:]
}

func TestNil(t *testing.T) {
	for _, s := range []*txn.Store{nil, {}} {
		for _, do := range slices.Concat(sounds(1), wrongs(1), sounds(-1), wrongs(0)) {
			refused(t, s, 1, do, api.ErrNil)
		}
	}
}

// P15.2, P15.3: what may not be, ahead of all that the store tells
func TestWrong(t *testing.T) {
	b, f := made(t, 91, api.InodeDir), newPlain()
	b.adds(t, 1, f, 10, "a")
	none := []int{math.MinInt, -1, 0, 33, 34, 1 << 32, 1<<32 + 1, math.MaxInt}
	for _, i := range none {
		for _, do := range slices.Concat(sounds(i), wrongs(i)) {
			b.keeps(t, b.t, do, api.ErrArg)
		}
	}
	for _, do := range wrongs(1) {
		b.keeps(t, b.t, do, api.ErrArg)
		b.keeps(t, 99999, do, api.ErrArg)
	}
	b.is(t, 1, f)
	page := 3 + b.s.Super().Log + 1
	sound, e := b.s.Read(page)
	ok(t, e)
	for _, at := range []int{0, 1, 2, 10, 14, 61} { // kind, links, size, root, what is noughts
		ok(t, b.s.Update(b.t, page, at, []byte{sound[at] + 251}))
		for _, do := range wrongs(1) {
			b.keeps(t, b.t, do, api.ErrArg)
		}
		for _, do := range sounds(1) {
			b.keeps(t, b.t, do, api.ErrBytes)
			b.keeps(t, 99999, do, api.ErrBytes)
		}
		ok(t, b.s.Rollback(b.t))
		b.begin(t)
	}
	b.gone(t)
	for _, i := range none {
		for _, do := range slices.Concat(sounds(i), wrongs(i)) {
			b.refuses(t, b.t, do, api.ErrArg)
		}
	}
	for _, do := range wrongs(1) {
		b.refuses(t, b.t, do, api.ErrArg)
	}
}

// P15.2, P15.3: inodes that are no directory, whatever their bytes are
func TestKinds(t *testing.T) {
	b, f := made(t, 91, api.InodeDir, api.InodeFile), newPlain()
	b.adds(t, 1, f, 10, "a")
	n := b.inode(t, 1)
	n.Kind = api.InodeFile
	b.sets(t, 1, n)
	for _, i := range []int{1, 2, 3, 32} {
		for _, do := range slices.Concat(sounds(i), wrongs(i)) {
			b.keeps(t, b.t, do, api.ErrArg)
			b.keeps(t, 99999, do, api.ErrArg)
		}
	}
	n.Root = 60 // its tree may not be
	b.puts(t, 60, []byte{9})
	b.sets(t, 1, n)
	for _, do := range sounds(1) {
		b.keeps(t, b.t, do, api.ErrArg)
	}
	n.Kind = api.InodeDir
	b.sets(t, 1, n)
	for _, do := range sounds(1) {
		b.keeps(t, b.t, do, api.ErrBytes)
	}
	b.sets(t, 3, api.Inode{Kind: api.InodeDir}) // it is not used, and may be asked all the same
	b.is(t, 3, newPlain())
	b.tells(t, add(3, "a", 1), nothing{})
	b.gone(t)
	for _, i := range []int{1, 2, 3, 32} {
		for _, do := range sounds(i) {
			b.refuses(t, b.t, do, api.ErrDead)
		}
	}
}

// chained is a directory with a chain of three blocks, 0, 4 and 6, of which the second has 3 names, and one of two, 1 and 5; 2 has 3 names, and the last has no block.
func chained(t *testing.T) (*bench, *plain) {
	t.Helper()
	b, f := made(t, 1400, api.InodeDir), newPlain()
	b.adds(t, 1, f, 100, named(0, 24)...)
	b.adds(t, 1, f, 200, named(1, 14)...)
	b.adds(t, 1, f, 300, named(0, 36)[24:]...)
	b.adds(t, 1, f, 400, named(2, 3)...)
	for _, name := range named(0, 24)[15:] {
		f.turn(name, api.Entry{})
		b.tells(t, drop(1, name), nothing{})
		b.commit(t)
	}
	if got := f.chain(0); !slices.Equal(got, []int{0, 4, 6}) || len(f.chain(1)) != 2 || f.size != 7*248 {
		t.Fatal(got, f.size)
	}
	b.is(t, 1, f)
	return b, f
}

// lays lets a block have bytes from one on; what was there otherwise is there again when the transaction is changed back.
func (b *bench) lays(t *testing.T, block, at int, l ...byte) {
	t.Helper()
	ok(t, file.Write(b.s, b.t, 1, int64(248*block+at), l))
}

// back changes the transaction back.
func (b *bench) back(t *testing.T) {
	t.Helper()
	ok(t, b.s.Rollback(b.t), b.s.Room())
	b.begin(t)
}

// wrong says that a chain is, for each call that comes to it, and for no other one.
func (b *bench) wrong(t *testing.T, head int, what ...any) {
	t.Helper()
	for k := range 4 {
		has, hasNot := named(k, 1)[0], named(k, 50)[49]
		if k == head {
			for _, do := range of(has, hasNot) {
				b.keeps(t, b.t, do, api.ErrBytes)
				b.keeps(t, 99999, do, api.ErrBytes)
			}
			continue
		}
		if _, e := dir.Find(b.s, 1, has); e != api.OK && k < 3 || e != api.ErrNone && k == 3 {
			t.Error(k, e)
		}
		b.keeps(t, b.t, drop(1, hasNot), api.ErrNone)
		b.tells(t, add(1, hasNot, 5), nothing{})
	}
	b.keeps(t, b.t, list(1), api.ErrBytes)
	b.keeps(t, b.t, empty(1), api.ErrBytes)
	if t.Failed() {
		t.Fatal(what...)
	}
}

// P15.2, P15.3: a next block that may not be
func TestNext(t *testing.T) {
	b, f := chained(t)
	for block, l := range map[int][]int{
		0: {1, 2, 3, 5, 7, 8, 255, 256, 260, 1024, 4095, 4096, 32772, 65535},
		4: {1, 2, 3, 4, 5, 7, 256, 262, 65535},
		6: {1, 3, 4, 5, 6, 7, 8, 263, 65535},
	} {
		for _, next := range l {
			b.lays(t, block, 0, byte(next), byte(next>>8))
			b.wrong(t, 0, block, next)
			b.back(t)
		}
	}
	for block, next := range map[int]int{1: 4, 5: 6, 2: 6, 3: 7} {
		b.lays(t, block, 0, byte(next))
		b.wrong(t, map[int]int{1: 1, 5: 1, 2: 2, 3: 3}[block], block, next)
		b.back(t)
	}
	b.is(t, 1, f)
}

// P15.2, P15.3: the last block begins ahead of the Size, be it by one byte; what it leads to may be nought
func TestNextWithin(t *testing.T) {
	for size, fine := range map[int]bool{7 * 248: false, 7*248 + 1: true, 8 * 248: true, 9 * 248: true} {
		b, f := chained(t)
		ok(t, file.Cut(b.s, b.t, 1, int64(size)))
		b.lays(t, 6, 0, 7)
		if !fine {
			b.wrong(t, 0, size)
			continue
		}
		x := f.l[6]
		f.l[6], f.size, x.next = leaf{7, x.places}, size, 0
		b.is(t, 1, f)
		b.commit(t)
		b.adds(t, 1, f, 500, named(0, 60)[36:]...)
		if f.l[7].next != max(8, (size+247)/248) || f.l[7].places[0].Name == "" {
			t.Error(size, f.l[7])
		}
		b.is(t, 1, f)
	}
}

// P15.2, P15.3: nothing leads to a block that is taken out: its names are none
func TestCutOut(t *testing.T) {
	b, f := chained(t)
	b.lays(t, 0, 0, 6)
	x := f.l[0]
	f.l[0] = leaf{6, x.places}
	b.is(t, 1, f)
	b.commit(t)
	b.adds(t, 1, f, 700, named(0, 37)[36])
	if f.l[6].next != 7 {
		t.Error(f.l[6])
	}
	b.is(t, 1, f)
}

// P15.2, P15.3: places that are none, and names that may not be there
func TestPlaces(t *testing.T) {
	b, f := chained(t)
	number := []byte{1, 0}
	place := func(name string, to ...byte) []byte {
		l := make([]byte, 19)
		l[0] = byte(len(name))
		copy(l[1:], name)
		copy(l[17:], to)
		return l
	}
	long, other := named(0, 57)[56], named(1, 20)[19]
	for _, block := range []int{0, 4, 6} {
		for _, k := range []int{0, 1, 2, 3, 10, 11} {
			at := 2 + 19*k
			lays := func(l []byte) {
				t.Helper()
				b.lays(t, block, at, l...)
				b.wrong(t, 0, block, k, l)
				b.back(t)
			}
			if free := f.l[block].places[k].Name == ""; free { // what is fine is as good as it was
				b.lays(t, block, at, place(long, number...)...)
				b.tells(t, find(1, long), 1)
				b.back(t)
			}
			for _, name := range []string{".", "..", "/", "\x00", "a/", "/aaaaaaaaaaaaaaa", "abcdefghijklmno/", "a\x00b", other, named(2, 1)[0], named(3, 1)[0], named(1, 1)[0]} {
				lays(place(name, number...))
			}
			lays(place(long))
			lays(place("", number...))
			lays(place("", 0, 1))
			for _, size := range []byte{0, 17, 18, 255} {
				l := place("aaaaaaaaaaaaaaaa", number...)
				if headOf("aaaaaaaaaaaaaaaa") != 0 {
					t.Fatal("of another chain")
				}
				l[0] = size
				lays(l)
			}
			for n := range 16 {
				l := place("", 0, 0)
				l[1+n] = 1
				lays(l)
			}
			if headOf("dddd") != 0 || headOf("dd") != 0 {
				t.Fatal("of another chain")
			}
			for _, n := range []byte{2, 6, 16} {
				l := place("dddd", number...)
				l[0] = n
				lays(l)
			}
			for n := 4; n < 16; n++ {
				l := place("dddd", number...)
				l[1+n] = 'd'
				lays(l)
			}
			for _, in := range []int{0, 4, 6} { // a name that is there already
				for n, x := range f.l[in].places {
					if x.Name != "" && (in != block || n != k) {
						lays(place(x.Name, number...))
						break
					}
				}
			}
		}
		for at := 230; at < 248; at++ {
			b.lays(t, block, at, 1)
			b.wrong(t, 0, block, at)
			b.back(t)
		}
	}
	b.is(t, 1, f)
}

// P15.2: all chains are asked, also one whose first block is the last one of the directory; a chain that is wrong is told of List and Empty, with no name in it too
func TestWrongHeads(t *testing.T) {
	for head := range 4 {
		b := made(t, 91, api.InodeDir)
		b.lays(t, head, 247, 1)
		b.wrongEmpty(t, head)
		b.back(t)
		b.lays(t, head, 0, 9)
		b.wrongEmpty(t, head)
	}
}

// wrongEmpty says that a directory has no name, but one chain that may not be.
func (b *bench) wrongEmpty(t *testing.T, head int) {
	t.Helper()
	b.keeps(t, b.t, list(1), api.ErrBytes)
	b.keeps(t, b.t, empty(1), api.ErrBytes)
	for k := range 4 {
		want := api.ErrNone
		if k == head {
			want = api.ErrBytes
		}
		b.keeps(t, b.t, find(1, named(k, 1)[0]), want)
	}
}

// P15.2, P15.3: which error is told ahead of which; a transaction that there is not is told where the first change would be done
func TestOrder(t *testing.T) {
	b, f := chained(t)
	has, hasNot := named(0, 1)[0], named(0, 50)[49]
	was := b.land(t)
	for _, n := range []uint64{0, b.t - 1, b.t + 1, math.MaxUint64} {
		b.keeps(t, n, add(1, has, 5), api.ErrState)
		b.keeps(t, n, add(1, hasNot, 5), api.ErrNone)
		b.keeps(t, n, add(1, named(3, 1)[0], 5), api.ErrNone)
		b.keeps(t, n, drop(1, has), api.ErrNone)
		b.keeps(t, n, drop(1, hasNot), api.ErrNone)
		b.keeps(t, n, change(1, has, 5), api.ErrNone)
		b.keeps(t, n, change(1, has, 100), api.ErrNone) // the number that there is
		b.keeps(t, n, change(1, hasNot, 5), api.ErrNone)
		for _, do := range []call{find(1, has), list(1), empty(1)} {
			if _, e := do(b.s, n); e != api.OK {
				t.Error(n, e)
			}
		}
	}
	b.stands(t, was)
	b.is(t, 1, f)
	ok(t, file.Cut(b.s, b.t, 1, api.MaxSize))
	f.size = api.MaxSize
	b.commit(t)
	b.adds(t, 1, f, 600, named(1, 24)[14:]...)
	last := named(1, 25)[24]
	for _, n := range []uint64{b.t, 0, b.t + 1} {
		b.keeps(t, n, add(1, last, 5), api.ErrFull)
		b.keeps(t, n, add(1, named(1, 1)[0], 5), api.ErrState)
		b.keeps(t, n, drop(1, last), api.ErrNone)
	}
}

// branched is a directory whose tree has two leaves, at 40 (of the heads) and 41, below 60: the blocks 0 to 5 are in the sectors 30 to 35. Of the chains 0 (0, 4), 1, 2 (2, 5) and 3, the first and the second have full blocks.
func branched(t *testing.T) (*bench, *plain) {
	t.Helper()
	b, f := made(t, 91, api.InodeDir), newPlain()
	for k, many := range []int{24, 12, 14, 3} {
		for n, name := range named(k, many) {
			f.add(name, 100*k+n+1)
		}
	}
	b.puts(t, 60, treePage(1, entry{0, 0, 40}, entry{4, 0, 41}))
	b.puts(t, 40, treePage(0, entry{0, 4, 30}))
	b.puts(t, 41, treePage(0, entry{4, 2, 34}))
	for block := range 6 {
		b.puts(t, 30+block, f.bytes(block))
	}
	b.takes(t, 0, 60)
	b.sets(t, 1, api.Inode{Kind: api.InodeDir, Size: 6 * 248, Root: 60})
	b.is(t, 1, f)
	return b, f
}

// P15.2, P15.3: a page of the tree that may not be is ErrBytes for what comes to it, and for nothing else
func TestSpoilt(t *testing.T) {
	name := func(head, k int) string { return named(head, k+1)[k] }
	calls := []struct {
		do     call
		second bool // does it come to the second leaf? To the first one they all come
		want   api.Errno
	}{
		{find(1, name(0, 0)), true, api.OK},
		{find(1, name(0, 23)), true, api.OK},
		{find(1, name(1, 0)), false, api.OK},
		{find(1, name(1, 12)), false, api.ErrNone},
		{find(1, name(2, 0)), true, api.OK},
		{find(1, name(3, 0)), false, api.OK},
		{drop(1, name(0, 0)), true, api.OK},
		{drop(1, name(1, 0)), false, api.OK},
		{change(1, name(2, 0), 5), true, api.OK},
		{change(1, name(3, 0), 5), false, api.OK},
		{change(1, name(3, 9), 5), false, api.ErrNone},
		{add(1, name(0, 24), 5), true, api.OK},
		{add(1, name(1, 12), 5), true, api.OK},
		{add(1, name(1, 11), 5), false, api.ErrState},
		{add(1, name(2, 14), 5), true, api.OK},
		{add(1, name(2, 0), 5), true, api.ErrState},
		{add(1, name(3, 3), 5), false, api.OK},
		{list(1), true, api.OK},
		{empty(1), true, api.OK},
	}
	for _, page := range []int{40, 41, 60} {
		for at, x := range map[int]byte{0: 3, 1: 31, 2: 1, 247: 1} {
			b, _ := branched(t)
			b.puts(t, page, spoilt(t, b, page, at, x))
			was := b.land(t)
			for k, c := range calls {
				want := c.want
				if c.second || page != 41 {
					want = api.ErrBytes
				}
				if got, e := c.do(b.s, b.t); e != want || e != api.OK && !reflect.ValueOf(got).IsZero() {
					t.Error(page, at, k, got, e, want)
				}
				b.back(t)
			}
			b.stands(t, was)
		}
	}
}

// spoilt are a page's bytes, but one.
func spoilt(t *testing.T, b *bench, page, at int, x byte) []byte {
	t.Helper()
	p, e := b.s.Read(page)
	ok(t, e)
	p[at] = x
	return p[:]
}

// P15.2: what the Size does not reach is not asked for: a tree that may not be is not seen
func TestNotReached(t *testing.T) {
	b, _ := branched(t)
	b.puts(t, 60, []byte{9})
	for size := range 4 {
		b.sets(t, 1, api.Inode{Kind: api.InodeDir, Size: int64(248 * size), Root: 60})
		for head := range 4 {
			want := api.ErrNone
			if head < size {
				want = api.ErrBytes
			}
			for _, do := range []call{find(1, named(head, 1)[0]), drop(1, named(head, 1)[0]), change(1, named(head, 1)[0], 1)} {
				b.keeps(t, b.t, do, want)
			}
		}
		want := api.OK
		if size > 0 {
			want = api.ErrBytes
		}
		if got, e := dir.Empty(b.s, 1); got != (size == 0) || e != want {
			t.Error(size, got, e)
		}
	}
}

// P15.2, P15.3: without power, whatever is in memory
func TestDead(t *testing.T) {
	for _, inMemory := range []bool{false, true} {
		b, f := branched(t)
		ok(t, b.s.Room())
		if inMemory {
			b.is(t, 1, f)
		}
		b.gone(t)
		for k := range 4 {
			for _, do := range append(of(named(k, 1)[0], named(k, 30)[29]), sounds(1)...) {
				b.refuses(t, b.t, do, api.ErrDead)
			}
		}
	}
}

// P15.2, P15.3: the power goes as room for a page is made: the inode's, one of the tree, a block
func TestDies(t *testing.T) {
	const bitmaps, inodes = 19, 20
	others := []int{70, 71, 72, 73, 74, 75, 76, 77}
	name := func(head, k int) string { return named(head, k+1)[k] }
	for k, c := range []struct {
		in []int // the pages in memory
		l  []call
	}{
		{nil, append(of(name(0, 0), name(0, 40)), list(1), empty(1))},
		{[]int{inodes}, append(of(name(0, 0), name(0, 40)), list(1), empty(1))},
		{[]int{inodes, 60}, append(of(name(1, 0), name(1, 40)), list(1), empty(1))},
		{[]int{inodes, 60, 40}, append(of(name(3, 0), name(3, 40)), list(1), empty(1))},
		{[]int{inodes, 60, 40, 30}, append(of(name(0, 0), name(0, 40)), list(1), empty(1))},
		{[]int{inodes, 60, 40, 30, 41}, append(of(name(0, 0), name(0, 40)), list(1), empty(1))},
		{[]int{inodes, 60, 40, 41, 30, 34}, []call{add(1, name(0, 24), 5), list(1)}},
		{[]int{inodes, 60, 40, 31, 30}, []call{add(1, name(1, 12), 5), list(1), empty(1)}},
		{[]int{inodes, 60, 40, 31, 41, bitmaps}, []call{add(1, name(1, 12), 5)}},
		{[]int{inodes, 60, 40, 41, 30, 34, 31}, []call{list(1), empty(1)}},
	} {
		for i, do := range c.l {
			b, _ := branched(t)
			b.fill(t, append(slices.Clone(c.in), others[len(c.in):]...)...)
			b.d.Fuse(0)
			refused(t, b.s, b.t, do, api.ErrDead)
			if !b.d.Dead() {
				t.Error("nothing was to be written", k, i)
			}
		}
	}
}

// P15.2: what the layers below refuse is told ahead of a chain that may not be; of the chains each ahead of the next one
func TestDiesBeforeBytes(t *testing.T) {
	for _, c := range []struct {
		head int
		do   call
		want api.Errno
	}{
		{0, find(1, named(0, 1)[0]), api.ErrDead}, {0, list(1), api.ErrDead}, {1, find(1, named(1, 1)[0]), api.ErrBytes},
	} {
		b, _ := branched(t)
		b.puts(t, 30+c.head, spoilt(t, b, 30+c.head, 247, 1))
		b.fill(t, 20, 60, 40, 41, 30, 31, 70, 71)
		b.d.Fuse(0)
		refused(t, b.s, b.t, c.do, c.want)
		if dead := c.want == api.ErrDead; b.d.Dead() != dead {
			t.Error(c.head)
		}
	}
	b, _ := branched(t)
	b.puts(t, 34, spoilt(t, b, 34, 247, 1))
	b.fill(t, 20, 60, 40, 41, 30, 34, 70, 71)
	b.d.Fuse(0)
	refused(t, b.s, b.t, list(1), api.ErrBytes)
	if b.d.Dead() {
		t.Error("the second chain was asked for")
	}
}

// P15.3: no block is free: what needs none is done; nothing is done of what needs one
func TestNoBlocks(t *testing.T) {
	b, f := made(t, 64, api.InodeDir, api.InodeDir), newPlain()
	b.adds(t, 1, f, 100, named(1, 12)...)
	for b.free(t) > 1 {
		_, e := bitmap.TakeBlock(b.s, b.t, 0)
		ok(t, e)
		b.commit(t)
	}
	was := b.land(t)
	refused(t, b.s, b.t, add(2, "a", 5), api.ErrFull) // its root is missing
	b.back(t)
	b.stands(t, was)
	b.adds(t, 1, f, 200, named(1, 13)[12])
	if b.free(t) != 0 {
		t.Fatal(b.free(t))
	}
	b.adds(t, 1, f, 300, named(1, 24)[13:]...)
	was = b.land(t)
	for _, name := range []string{named(1, 25)[24], named(0, 1)[0], named(3, 1)[0]} {
		b.keeps(t, b.t, add(1, name, 5), api.ErrFull)
		b.keeps(t, b.t, find(1, name), api.ErrNone)
	}
	b.stands(t, was)
	b.keeps(t, b.t, add(1, named(1, 1)[0], 5), api.ErrState)
	f.turn(named(1, 3)[2], api.Entry{})
	b.tells(t, drop(1, named(1, 3)[2]), nothing{})
	f.turn(named(1, 4)[3], api.Entry{Name: named(1, 4)[3], Inode: 9})
	b.tells(t, change(1, named(1, 4)[3], 9), nothing{})
	b.adds(t, 1, f, 400, named(1, 25)[24])
	b.is(t, 1, f)
}

// P15.3: the log's room does not do, wherever that is: the new block comes first, then what leads to it; changed back, nothing is left; held, no room is made
func TestLogFull(t *testing.T) {
	for _, held := range []bool{false, true} {
		b, f := noughts(t, 600, held), newPlain()
		su := b.s.Super()
		for g := range su.Groups {
			first, _, _ := super.Group(su, g)
			p, _ := bitmap.Start(su, g)
			ok(t, b.s.Update(b.t, first, 0, p[:]))
		}
		i, e := itable.Make(b.s, b.t, 0, api.InodeDir)
		ok(t, e)
		for _, name := range append(named(0, 12), named(1, 5)...) {
			f.add(name, 77)
			b.tells(t, add(i, name, 77), nothing{})
		}
		b.commit(t)
		was, bytes := b.land(t), f.whole()
		g := f.copied()
		g.add(named(0, 13)[12], 5)
		x := g.l[0]
		g.l[0] = leaf{0, x.places}
		between := g.whole()
		seen := map[string]bool{}
		for k, do := range []call{add(i, named(0, 13)[12], 5), add(i, named(1, 6)[5], 5), add(i, named(3, 1)[0], 5), drop(i, named(0, 2)[1]), change(i, named(0, 2)[1], 5)} {
			b.tells(t, do, nothing{})
			then := b.land(t)
			ok(t, b.s.Rollback(b.t))
			b.begin(t)
			if !held {
				ok(t, b.s.Room())
			}
			for short := 0; ; short += 13 {
				kept := b.l.Free() - short
				ok(t, b.l.Reserve(kept))
				_, e := do(b.s, b.t)
				b.l.Release(kept)
				if e == api.OK {
					b.stands(t, then)
				}
				if got, f := file.Whole(b.s, i); k == 0 && e != api.OK {
					seen[string(got)] = true
					ok(t, f)
				}
				ok(t, b.s.Rollback(b.t))
				b.begin(t)
				b.stands(t, was)
				if !held {
					ok(t, b.s.Room())
				}
				if e == api.OK || held && b.l.Free() < 3000 {
					break
				}
				if e != api.ErrFull {
					t.Fatal(short, e)
				}
			}
		}
		if !seen[bytes] || !seen[between] && !held {
			t.Error("not as it is in the midst", held, len(seen))
		}
		delete(seen, bytes)
		delete(seen, between)
		for l := range seen {
			if len(l) != len(bytes) || l[:2] != "\x00\x00" {
				t.Error("something else", len(l))
			}
		}
		b.is(t, i, f)
	}
}

// P15.3, and that all is done in the transaction: changed back, all is as it was; committed, it lasts
func TestTransaction(t *testing.T) {
	d, _ := disk.New(600)
	su, _ := super.Make(600)
	ok(t, restart.Make(d, su))
	open := func() *bench {
		t.Helper()
		s, _, e := restart.Find(d, 8)
		ok(t, e, restart.Settle(s))
		b := &bench{d: d, l: s.Log(), p: s.Pool(), s: s}
		b.begin(t)
		return b
	}
	b, f := open(), newPlain()
	for g := range su.Groups {
		first, _, e := super.Group(su, g)
		p, u := bitmap.Start(su, g)
		ok(t, e, u, b.s.Update(b.t, first, 0, p[:]))
		b.commit(t)
	}
	b.sets(t, 20, api.Inode{Kind: api.InodeDir})
	b.adds(t, 20, f, 100, named(0, 12)...)
	several := func(f *plain) {
		t.Helper()
		for k, name := range append(named(0, 15)[12:], named(3, 2)...) {
			f.add(name, 200+k)
			b.tells(t, add(20, name, 200+k), nothing{})
		}
		for _, name := range named(0, 4) {
			f.turn(name, api.Entry{})
			b.tells(t, drop(20, name), nothing{})
		}
		for _, name := range named(0, 8)[4:] {
			f.turn(name, api.Entry{Name: name, Inode: 3})
			b.tells(t, change(20, name, 3), nothing{})
		}
		b.is(t, 20, f)
	}
	was := b.land(t)
	several(f.copied())
	ok(t, b.s.Rollback(b.t))
	b.stands(t, was)
	b.is(t, 20, f)
	b.begin(t)
	several(f.copied())
	ok(t, b.s.Sync())
	d = d.Crash(nil)
	b = open()
	b.is(t, 20, f)
	b.stands(t, was)
	several(f)
	ok(t, b.s.Commit(b.t), b.s.Sync())
	d = d.Crash(nil)
	b = open()
	b.is(t, 20, f)
}

// P15.2: what is answered is apart from the directory
func TestApart(t *testing.T) {
	b, f := branched(t)
	l, e := dir.List(b.s, 1)
	ok(t, e)
	clear(l)
	b.is(t, 1, f)
}

// fullPage are all entries that a page of a tree can have: from a block on, so many apart, of the sectors from one on, so many apart.
func fullPage(count, from, apart, sector, on int) []entry {
	var l []entry
	for k := range 30 {
		l = append(l, entry{from + k*apart, count, sector + k*on})
	}
	return l
}

// P15.1, P15.4: no more blocks than Needs says, also where each page on the way is full; where the tree can't grow, ErrFull
func TestNeedsHolds(t *testing.T) {
	f := newPlain()
	for _, name := range named(0, 12) {
		f.add(name, 9)
	}
	lower := fullPage(0, 0, 60, 250, 1)
	upper := fullPage(0, 1730, 70, 300, 0)
	upper[0] = entry{0, 0, 201}
	for n, root := range [][]byte{treePage(1, lower...), treePage(2, upper[:2]...), treePage(2, upper...)} {
		for _, size := range []int{4, 5, 7, 31, 58, 59, 60, 61, 119, 121, 899, 1797, 1799} {
			b, f := made(t, 1400, api.InodeDir), f.copied()
			b.puts(t, 200, root)
			b.puts(t, 201, treePage(1, lower...))
			for k := range 30 {
				l := fullPage(1, 60*k, 2, 291, 0)
				if k == 0 {
					l[0].sector = 290
				}
				b.puts(t, 250+k, treePage(0, l...))
			}
			b.puts(t, 290, f.bytes(0))
			b.takes(t, 0, 301)
			b.sets(t, 1, api.Inode{Kind: api.InodeDir, Size: int64(248 * size), Root: 200})
			f.size = 248 * size
			free, was := b.free(t), b.land(t)
			name, want := named(0, 13)[12], []int{4, 3, 4}[n]
			switch {
			case size%2 == 0: // it lies where the block 2 does
				b.tells(t, add(1, name, 4), nothing{})
				b.tells(t, find(1, name), 4)
				want = 0
			case n == 2:
				refused(t, b.s, b.t, add(1, name, 4), api.ErrFull)
				b.back(t)
				b.stands(t, was)
				want = 0
			default:
				f.add(name, 4)
				b.tells(t, add(1, name, 4), nothing{})
				b.tells(t, list(1), f.list())
			}
			if took := free - b.free(t); took != want || took > dir.Needs() {
				t.Error(n, size, took)
			}
		}
	}
}
