package fds_test

import (
	"maps"
	"math"
	"math/bits"
	"math/rand"
	"slices"
	"testing"

	"hornbook/api"
	"hornbook/fds"
)

const (
	r = api.FlagRead
	w = api.FlagWrite
)

// one is a descriptor, and what it is.
type one struct {
	fd int
	is api.Fd
}

// plain is a table by another way than the program's: what is open stands in a map.
type plain map[int]api.Fd

func (p plain) open(inode, flags int) (int, api.Errno) {
	if inode <= 0 || !slices.Contains([]int{r, w, r + w}, flags) {
		return 0, api.ErrArg
	}
	for fd := 0; fd <= 31; fd++ {
		if _, is := p[fd]; !is {
			p[fd] = api.Fd{Inode: inode, Flags: flags}
			return fd, api.OK
		}
	}
	return 0, api.ErrFull
}

func (p plain) close(fd int) api.Errno {
	if _, is := p[fd]; !is {
		return api.ErrNone
	}
	delete(p, fd)
	return api.OK
}

// all is what is open, rising.
func (p plain) all() []one {
	var l []one
	for _, fd := range slices.Sorted(maps.Keys(p)) {
		l = append(l, one{fd, p[fd]})
	}
	return l
}

func (p plain) count(inode int) int {
	n := 0
	for _, f := range p {
		if f.Inode == inode {
			n++
		}
	}
	return n
}

// opens opens one in both.
func opens(t *testing.T, table *fds.Table, p plain, inode, flags int) {
	t.Helper()
	want, e := p.open(inode, flags)
	if fd, got := table.Open(inode, flags); fd != want || got != e {
		t.Errorf("Open(%d, %d): %d, %v, not %d, %v", inode, flags, fd, got, want, e)
	}
}

// closes closes one in both.
func closes(t *testing.T, table *fds.Table, p plain, fd int) {
	t.Helper()
	e := p.close(fd)
	if got := table.Close(fd); got != e {
		t.Errorf("Close(%d): %v, not %v", fd, got, e)
	}
}

// gone is what All goes over, in its order.
func gone(table *fds.Table) []one {
	var l []one
	for fd, f := range table.All() {
		l = append(l, one{fd, f})
	}
	return l
}

// agree holds all that a table tells against what the plain one does.
func agree(t *testing.T, table *fds.Table, p plain) {
	t.Helper()
	for fd := -3; fd < 70; fd++ {
		f, is := p[fd]
		e := api.OK
		if !is {
			e = api.ErrNone
		}
		if got, told := table.Get(fd); got != f || told != e {
			t.Errorf("Get(%d): %v, %v, not %v, %v", fd, got, told, f, e)
		}
	}
	inodes := []int{math.MinInt, -1, 0, 1, 2, 3, math.MaxInt}
	for _, f := range p {
		inodes = append(inodes, f.Inode)
	}
	for _, inode := range inodes {
		if n := table.Count(inode); n != p.count(inode) {
			t.Errorf("Count(%d): %d, not %d", inode, n, p.count(inode))
		}
	}
	if n := table.Free(); n != 32-len(p) {
		t.Errorf("Free: %d, not %d", n, 32-len(p))
	}
	if l := gone(table); !slices.Equal(l, p.all()) {
		t.Errorf("All: %v, not %v", l, p.all())
	}
}

// of is a table in which just these are open, and the plain one of it.
func of(t *testing.T, p plain) *fds.Table {
	t.Helper()
	table := fds.New()
	for fd := range 32 {
		f, is := p[fd]
		if !is {
			f = api.Fd{Inode: 1, Flags: r} // it keeps its place till all stand
		}
		if got, e := table.Open(f.Inode, f.Flags); got != fd || e != api.OK {
			t.Fatalf("Open(%d, %d): %d, %v", f.Inode, f.Flags, got, e)
		}
	}
	for fd := range 32 {
		if _, is := p[fd]; !is {
			table.Close(fd)
		}
	}
	return table
}

// full is one in which all are open.
func full() plain {
	p := plain{}
	for fd := range 32 {
		p[fd] = api.Fd{Inode: 100 - fd%5, Flags: 1 + fd%3}
	}
	return p
}

func TestExamples(t *testing.T) {
	table := fds.New()
	if fd, e := table.Open(5, r); fd != 0 || e != api.OK {
		t.Error(fd, e)
	}
	if fd, e := table.Open(5, w); fd != 1 || e != api.OK {
		t.Error(fd, e)
	}
	if e := table.Close(0); e != api.OK {
		t.Error(e)
	}
	if fd, e := table.Open(7, 3); fd != 0 || e != api.OK {
		t.Error(fd, e)
	}
	if n := table.Count(5); n != 1 {
		t.Error(n)
	}
	if e := table.Close(9); e != api.ErrNone {
		t.Error(e)
	}
	if f, e := table.Get(0); f != (api.Fd{Inode: 7, Flags: 3}) || e != api.OK {
		t.Error(f, e)
	}
	if fd, e := table.Open(0, r); fd != 0 || e != api.ErrArg {
		t.Error(fd, e)
	}
	if fd, e := table.Open(5, api.FlagCreate); fd != 0 || e != api.ErrArg {
		t.Error(fd, e)
	}
	agree(t, table, plain{0: {Inode: 7, Flags: r + w}, 1: {Inode: 5, Flags: w}})
}

// P17.1: New
func TestNew(t *testing.T) {
	table, other := fds.New(), fds.New()
	agree(t, table, plain{})
	opens(t, table, plain{}, 3, r)
	agree(t, other, plain{})
	agree(t, fds.New(), plain{})
}

// P17.1: which inodes and flags may be, where something is free and where nothing is
func TestMay(t *testing.T) {
	inodes := []int{math.MinInt, math.MinInt + 1, -1 << 32, -2, -1, 0, 1, 2, 3, 992, 1 << 31, 1 << 32, math.MaxInt}
	flags := []int{math.MinInt, math.MinInt + r, -w, -1 << 32, 1<<32 + r, 1 << 62, math.MaxInt}
	for n := -40; n < 300; n++ {
		flags = append(flags, n)
	}
	for _, p := range []plain{{}, {0: {Inode: 9, Flags: w}}, full()} {
		for _, inode := range inodes {
			for _, flag := range flags {
				then := maps.Clone(p)
				table := of(t, p)
				opens(t, table, then, inode, flag)
				if l := gone(table); !slices.Equal(l, then.all()) {
					t.Fatalf("Open(%d, %d): %v, not %v", inode, flag, l, then.all())
				}
			}
		}
	}
}

// P17.1: each one of the flags, by its bit
func TestFlags(t *testing.T) {
	for bit := range bits.UintSize {
		for under := range 4 {
			flags := 1<<bit | under
			fd, e := fds.New().Open(1, flags)
			if want := bit < 2; fd != 0 || (e == api.OK) != want || !want && e != api.ErrArg {
				t.Errorf("%b: %d, %v", flags, fd, e)
			}
		}
	}
}

// P17.1: the least free one, of all ways in which two are free or open, and of runs of them
func TestLeast(t *testing.T) {
	for i := range 32 {
		for j := i; j < 32; j++ {
			gaps, two, run := full(), plain{}, plain{}
			for _, fd := range []int{i, j} {
				delete(gaps, fd)
				two[fd] = api.Fd{Inode: 1 + fd, Flags: w}
			}
			for fd := i; fd <= j; fd++ {
				run[fd] = api.Fd{Inode: 1, Flags: r + w}
			}
			for _, p := range []plain{gaps, two, run} {
				table := of(t, p)
				agree(t, table, p)
				for range 3 {
					opens(t, table, p, 1+j, r)
				}
				agree(t, table, p)
			}
		}
	}
}

// P17.1, P17.4: till none is free, and then one after another is
func TestFull(t *testing.T) {
	table, p := fds.New(), plain{}
	for n := range 32 {
		opens(t, table, p, n/2+1, 1+n%3)
		agree(t, table, p)
	}
	for _, x := range []struct {
		inode, flags int
		want         api.Errno
	}{{1, r, api.ErrFull}, {math.MaxInt, r + w, api.ErrFull}, {0, r, api.ErrArg}, {1, 0, api.ErrArg}, {1, r + api.FlagExcl, api.ErrArg}, {-1, 32, api.ErrArg}} {
		if fd, e := table.Open(x.inode, x.flags); fd != 0 || e != x.want {
			t.Error(x, fd, e)
		}
		agree(t, table, p)
	}
	for n := range 32 {
		fd := n * 7 % 32
		closes(t, table, p, fd)
		agree(t, table, p)
		opens(t, table, p, 40, r)
		if _, is := p[fd]; !is {
			t.Error(fd, "was the only free one")
		}
		agree(t, table, p)
	}
	for n := range 32 {
		closes(t, table, p, n*11%32)
		agree(t, table, p)
		closes(t, table, p, n*11%32) // it is free already
		agree(t, table, p)
	}
}

// P17.1, P17.2: descriptors that there are not
func TestNone(t *testing.T) {
	for _, p := range []plain{{}, {0: {Inode: 1, Flags: r}}, full()} {
		table := of(t, p)
		for _, fd := range []int{math.MinInt, -1 << 32, -33, -32, -31, -1, 32, 33, 63, 64, 255, 256, 1 << 31, 1 << 32, 1<<32 + 1, math.MaxInt} {
			if e := table.Close(fd); e != api.ErrNone {
				t.Error(fd, e)
			}
			if f, e := table.Get(fd); f != (api.Fd{}) || e != api.ErrNone {
				t.Error(fd, f, e)
			}
		}
		agree(t, table, p)
	}
}

// P17.2: Count asks for the inode alone
func TestCount(t *testing.T) {
	for n := range 33 {
		table := fds.New()
		for k := range n {
			table.Open(7, 1+k%3)
		}
		for k := n; k < 32; k++ {
			table.Open(8+k, r)
		}
		if got := table.Count(7); got != n {
			t.Error(n, got)
		}
		for _, none := range []int{0, -1, -7, 6, 7 + 1<<32, math.MinInt, math.MaxInt} {
			if got := table.Count(none); got != 0 {
				t.Error(none, got)
			}
		}
	}
	if n := fds.New().Count(0); n != 0 {
		t.Error("what is free is open to no inode:", n)
	}
}

// P17.2: All is as it is when it is called
func TestAllThen(t *testing.T) {
	table := fds.New()
	for n := range 4 {
		table.Open(n+1, r)
	}
	want := gone(table)
	all := table.All()
	table.Close(1)
	table.Close(3)
	table.Open(9, w)
	table.Open(9, w)
	table.Open(9, w)
	for range 2 {
		var l []one
		for fd, f := range all {
			l = append(l, one{fd, f})
			table.Close(fd + 1)
			table.Open(20, w)
		}
		if !slices.Equal(l, want) {
			t.Error(l, "not", want)
		}
	}
	if n := table.Count(9); n != 0 {
		t.Error(n, gone(table))
	}
}

// P17.2: All may be left at any time, and gone through as often as one likes, also while it is gone through.
func TestAll(t *testing.T) {
	for _, p := range []plain{{}, {0: {Inode: 3, Flags: r}}, {31: {Inode: 3, Flags: w}}, {2: {Inode: 1, Flags: r}, 5: {Inode: 1, Flags: w}, 30: {Inode: 2, Flags: 3}}, full()} {
		table := of(t, p)
		want := p.all()
		all := table.All()
		for most := range len(want) + 1 {
			var l []one
			for fd, f := range all {
				if len(l) == most {
					break
				}
				l = append(l, one{fd, f})
			}
			if !slices.Equal(l, want[:most]) {
				t.Error(most, l)
			}
		}
		var pairs int
		for fd := range all {
			for other := range all {
				if fd != want[pairs/len(want)].fd || other != want[pairs%len(want)].fd {
					t.Fatal(pairs, fd, other)
				}
				pairs++
			}
		}
		if pairs != len(want)*len(want) {
			t.Error(pairs)
		}
		for most := 1; most <= len(want); most++ { // who left is not asked again
			asked := 0
			all(func(int, api.Fd) bool {
				asked++
				return asked < most
			})
			if asked != most {
				t.Error(most, asked)
			}
		}
		agree(t, table, p)
	}
}

// P17.3: Copy goes on apart
func TestCopy(t *testing.T) {
	for _, p := range []plain{{}, {3: {Inode: 3, Flags: r}}, full()} {
		table := of(t, p)
		c, q := table.Copy(), maps.Clone(p)
		if c == table || !fds.Same(c, table) {
			t.Error("not another one, or not the same")
		}
		agree(t, c, q)
		closes(t, c, q, 3)
		opens(t, c, q, 50, w)
		opens(t, c, q, 51, w)
		agree(t, table, p)
		agree(t, c, q)
		closes(t, table, p, 0)
		opens(t, table, p, 60, r)
		closes(t, table, p, 31)
		agree(t, table, p)
		agree(t, c, q)
		agree(t, c.Copy(), q)
	}
}

// same says whether two are the same, whichever stands first.
func same(t *testing.T, a, b *fds.Table, want bool) {
	t.Helper()
	if got := fds.Same(a, b); got != want {
		t.Errorf("%v and %v: %v", gone(a), gone(b), got)
	}
	if got := fds.Same(b, a); got != want {
		t.Errorf("%v and %v: %v", gone(b), gone(a), got)
	}
}

// P17.3: Same is told of each place, and of each thing that stands there
func TestSame(t *testing.T) {
	same(t, fds.New(), fds.New(), true)
	for fd := range 32 {
		for _, p := range []plain{{}, full(), {0: {Inode: 1, Flags: r}, 17: {Inode: 2, Flags: w}}} {
			delete(p, fd)
			without := of(t, p)
			same(t, without, of(t, p), true)
			same(t, without, without, true)
			tables := []*fds.Table{without}
			for _, f := range []api.Fd{{Inode: 1, Flags: r}, {Inode: 1, Flags: w}, {Inode: 1, Flags: r + w}, {Inode: 2, Flags: r}, {Inode: 1 + 1<<32, Flags: r}, {Inode: math.MaxInt, Flags: w}} {
				p[fd] = f
				tables = append(tables, of(t, p))
			}
			for i, a := range tables {
				for j, b := range tables {
					same(t, a, b, i == j)
					same(t, a, b.Copy(), i == j)
				}
			}
		}
	}
	once, never := fds.New(), fds.New() // what was open does not matter
	once.Open(5, w)
	same(t, once, never, false)
	once.Close(0)
	same(t, once, never, true)
}

// A nil one, and a zero one, which is as a nil one
func TestNil(t *testing.T) {
	for _, table := range []*fds.Table{nil, {}, new(fds.Table)} {
		for _, f := range []api.Fd{{Inode: 1, Flags: r}, {Inode: 0, Flags: r}, {Inode: 1, Flags: 0}, {Inode: -1, Flags: -1}} {
			if fd, e := table.Open(f.Inode, f.Flags); fd != 0 || e != api.ErrNil {
				t.Error(f, fd, e)
			}
		}
		for _, fd := range []int{math.MinInt, -1, 0, 1, 31, 32, math.MaxInt} {
			if e := table.Close(fd); e != api.ErrNil {
				t.Error(fd, e)
			}
			if f, e := table.Get(fd); f != (api.Fd{}) || e != api.ErrNil {
				t.Error(fd, f, e)
			}
			if n := table.Count(fd); n != 0 {
				t.Error(fd, n)
			}
		}
		if n := table.Free(); n != 0 {
			t.Error(n)
		}
		if l := gone(table); len(l) != 0 {
			t.Error(l)
		}
		if c := table.Copy(); c != nil {
			t.Error(c)
		}
		same(t, table, nil, true)
		same(t, table, &fds.Table{}, true)
		same(t, table, table, true)
		same(t, table, fds.New(), false)
		same(t, table, of(t, full()), false)
	}
}

// P17.4: what follows of any run, held against the plain one
func TestAny(t *testing.T) {
	random := rand.New(rand.NewSource(17))
	told := map[api.Errno]int{}
	for range 300 {
		table, p := fds.New(), plain{}
		var parts []*fds.Table
		var plains []plain
		more := 2 + random.Intn(7) // of ten, so many open
		for range 200 {
			inode, flags, fd := random.Intn(6), random.Intn(5), random.Intn(34)-1
			switch n := random.Intn(10); {
			case n < more:
				_, e := maps.Clone(p).open(inode, flags)
				told[e]++
				opens(t, table, p, inode, flags)
			case n < 9:
				_, e := table.Get(fd)
				told[e]++
				closes(t, table, p, fd)
			default:
				parts, plains = append(parts, table.Copy()), append(plains, maps.Clone(p))
			}
			agree(t, table, p)
			follows(t, table)
		}
		for i, part := range parts {
			agree(t, part, plains[i])
			same(t, part, table, maps.Equal(plains[i], p))
		}
	}
	for _, e := range []api.Errno{api.OK, api.ErrArg, api.ErrNone, api.ErrFull} {
		if told[e] < 300 {
			t.Error("too few were told", e, told[e])
		}
	}
}

// follows says what holds of a table, by what it tells alone: what Open tells was free, and it is among those that are open then; Free and these are 32.
func follows(t *testing.T, table *fds.Table) {
	t.Helper()
	now := gone(table)
	if table.Free()+len(now) != api.MaxFds {
		t.Error(table.Free(), now)
	}
	for i, o := range now {
		if i > 0 && now[i-1].fd >= o.fd || o.fd < 0 || o.fd >= api.MaxFds || o.is.Inode < 1 {
			t.Error(now)
		}
	}
	c := table.Copy()
	fd, e := c.Open(77, r)
	full := len(now) == api.MaxFds
	stood := slices.ContainsFunc(now, func(o one) bool { return o.fd == fd })
	if e == api.OK && stood || (e == api.ErrFull) != full {
		t.Error(fd, e, now)
	}
	if e == api.OK && !slices.Contains(gone(c), one{fd, api.Fd{Inode: 77, Flags: r}}) {
		t.Error(fd, gone(c))
	}
}
