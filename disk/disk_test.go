package disk_test

import (
	"bytes"
	"math"
	"math/rand"
	"slices"
	"testing"

	"hornbook/api"
	"hornbook/disk"
)

var noughts api.Sector

// full is a sector that has this byte everywhere, and others at its edges.
func full(x byte) api.Sector {
	var s api.Sector
	for i := range s {
		s[i] = x
	}
	s[0], s[api.SectorSize-1] = x^1, x^2
	return s
}

var a, b, c = full('a'), full('b'), full('c')

// made is a disk of so many sectors.
func made(t *testing.T, sectors int) *disk.Disk {
	t.Helper()
	d, e := disk.New(sectors)
	if e != api.OK || d == nil {
		t.Fatal("New", sectors, d, e)
	}
	return d
}

// write writes sectors, each of which must be done.
func write(t *testing.T, d *disk.Disk, i int, l ...api.Sector) {
	t.Helper()
	for k, s := range l {
		if e := d.Write(i, s); e != api.OK {
			t.Fatal("Write", i, k, e)
		}
	}
}

// barrier makes one that must be done.
func barrier(t *testing.T, d *disk.Disk) {
	t.Helper()
	if e := d.Barrier(); e != api.OK {
		t.Fatal("Barrier", e)
	}
}

// read is all that a disk is read as.
func read(t *testing.T, d *disk.Disk) []api.Sector {
	t.Helper()
	var l []api.Sector
	for i := range d.Sectors() {
		s, e := d.Read(i)
		if e != api.OK {
			t.Fatal("Read", i, e)
		}
		l = append(l, s)
	}
	return l
}

// reads asks what a sector is read as.
func reads(t *testing.T, d *disk.Disk, i int, want api.Sector) {
	t.Helper()
	if s, e := d.Read(i); e != api.OK || s != want {
		t.Error("Read", i, e, "begins with", s[:4], "wanted", want[:4])
	}
}

// at is a place, and what stands there.
type at struct {
	i int
	s api.Sector
}

// listed is all that All goes over.
func listed(d *disk.Disk) []at {
	var l []at
	for i, s := range d.All() {
		l = append(l, at{i, s})
	}
	return l
}

func TestExamples(t *testing.T) {
	d := made(t, 4)
	write(t, d, 1, a, b)
	for _, x := range []struct {
		pick int
		want api.Sector
	}{{0, noughts}, {1, a}, {2, b}, {5, b}} {
		reads(t, d.Crash([]int{x.pick}), 1, x.want)
	}
	d = made(t, 4)
	d.Fuse(1)
	if e := d.Write(0, a); e != api.OK {
		t.Error("Write(0, a)", e)
	}
	if e := d.Write(1, a); e != api.ErrDead {
		t.Error("Write(1, a)", e)
	}
	reads(t, d, 1, noughts)
}

// P3.1: New, at its edges; its sectors are noughts, and last
func TestNew(t *testing.T) {
	for _, n := range []int{math.MinInt, -api.MaxDisk, -1, 0, api.MaxDisk + 1, 2 * api.MaxDisk, 1 << 32, 1<<32 + 1, math.MaxInt} {
		if d, e := disk.New(n); d != nil || e != api.ErrArg {
			t.Error(n, d, e)
		}
	}
	for _, n := range []int{1, 2, api.MinSectors, api.MaxSectors, api.MaxDisk - 1, api.MaxDisk} {
		d := made(t, n)
		if d.Sectors() != n || d.Dead() || d.Writes() != 0 || len(d.Loose()) != 0 || len(listed(d)) != 0 {
			t.Error(n, d.Sectors(), d.Dead(), d.Writes(), d.Loose())
		}
		reads(t, d, 0, noughts)
		reads(t, d, n-1, noughts)
		if !d.Crash([]int{1, 2, 3}).Same(d) {
			t.Error(n, "does not last")
		}
	}
}

// P3.1: Of, at its edges; its sectors last, and are apart from the list
func TestOf(t *testing.T) {
	for _, n := range []int{0, api.MaxDisk + 1} {
		if d, e := disk.Of(make([]api.Sector, n)); d != nil || e != api.ErrArg {
			t.Error(n, d, e)
		}
	}
	if d, e := disk.Of(nil); d != nil || e != api.ErrArg {
		t.Error(d, e)
	}
	for _, n := range []int{1, 3, api.MaxDisk} {
		l := make([]api.Sector, n, n+1)
		l[0], l[n-1] = a, b
		was := slices.Clone(l)
		d, e := disk.Of(l)
		if e != api.OK || d.Sectors() != n || d.Dead() || d.Writes() != 0 || len(d.Loose()) != 0 {
			t.Fatal(n, e)
		}
		if !slices.Equal(read(t, d), was) || !slices.Equal(read(t, d.Crash([]int{1, 1})), was) {
			t.Error(n, "is not what was handed in")
		}
		l[0] = c
		reads(t, d, 0, was[0])
		l[0] = was[0]
		write(t, d, 0, c)
		barrier(t, d)
		if !slices.Equal(l, was) {
			t.Error(n, "what was handed in is changed")
		}
	}
}

var wrongSectors = []int{math.MinInt, -1 << 32, -5, -1, 4, 5, api.MaxDisk, 1 << 32, 1<<32 + 1, math.MaxInt}

// P3.2: a sector that is read is the newest; wrong ones are refused, and change nothing
func TestReadWrite(t *testing.T) {
	d := made(t, 4)
	write(t, d, 3, a)
	reads(t, d, 3, a)
	write(t, d, 3, b, c, b)
	write(t, d, 0, c)
	want := []api.Sector{c, noughts, noughts, b}
	if !slices.Equal(read(t, d), want) {
		t.Error("not the newest")
	}
	d.Fuse(1)
	for _, i := range wrongSectors {
		if s, e := d.Read(i); s != noughts || e != api.ErrArg {
			t.Error("Read", i, e)
		}
		if e := d.Write(i, a); e != api.ErrArg {
			t.Error("Write", i, e)
		}
	}
	if !slices.Equal(read(t, d), want) || d.Writes() != 5 || d.Dead() || !slices.Equal(d.Loose(), []int{0, 3}) {
		t.Error("what was refused has changed something", d.Writes(), d.Dead(), d.Loose())
	}
	write(t, d, 1, a) // the fuse is as it was
	if e := d.Write(1, b); e != api.ErrDead {
		t.Error(e)
	}
	for _, i := range wrongSectors {
		if e := d.Write(i, a); e != api.ErrArg {
			t.Error("ErrArg stands ahead of ErrDead", i, e)
		}
	}
}

// P3.2: behind a barrier all lasts, the newest of each; what is written then does not
func TestBarrier(t *testing.T) {
	d := made(t, 4)
	barrier(t, d)
	write(t, d, 1, a, b)
	write(t, d, 3, c)
	barrier(t, d)
	if len(d.Loose()) != 0 || d.Writes() != 3 {
		t.Error(d.Loose(), d.Writes())
	}
	for _, picks := range [][]int{nil, {0, 0}, {1, 1}, {2, 2}, {-1, -1}} {
		if !slices.Equal(read(t, d.Crash(picks)), []api.Sector{noughts, b, noughts, c}) {
			t.Error(picks)
		}
	}
	write(t, d, 1, c)
	reads(t, d.Crash(nil), 1, b)
	reads(t, d.Crash([]int{1}), 1, c)
	barrier(t, d)
	reads(t, d.Crash(nil), 1, c)
}

// P3.2, P3.3: without power nothing is written, and nothing is made to last; it can be read
func TestWithoutPower(t *testing.T) {
	d := made(t, 4)
	write(t, d, 2, a)
	barrier(t, d)
	d.Fuse(1)
	write(t, d, 2, b)
	was := d.Copy()
	for range 3 {
		if e := d.Write(2, c); e != api.ErrDead {
			t.Error(e)
		}
		if e := d.Barrier(); e != api.ErrDead {
			t.Error(e)
		}
		if !d.Dead() || d.Writes() != 2 || !slices.Equal(d.Loose(), []int{2}) || !d.Same(was) {
			t.Error(d.Dead(), d.Writes(), d.Loose())
		}
		reads(t, d, 2, b)
		reads(t, d.Crash(nil), 2, a)
		reads(t, d.Crash([]int{1}), 2, b)
		reads(t, d.Crash([]int{2}), 2, a) // what was refused is not among them
	}
}

// P3.3: a fuse of n lets n writes be done
func TestFuse(t *testing.T) {
	for n := range 6 {
		d := made(t, 4)
		d.Fuse(n)
		for i := range n {
			write(t, d, i%4, a)
			barrier(t, d) // a barrier is no write
			if d.Dead() {
				t.Error(n, i)
			}
		}
		barrier(t, d)
		if d.Dead() {
			t.Error(n, "it is gone ahead of the write behind the last one")
		}
		if e := d.Write(0, c); e != api.ErrDead || !d.Dead() || d.Writes() != n {
			t.Error(n, e, d.Dead(), d.Writes())
		}
		for _, again := range []int{-1, 0, 7} { // what is gone stays gone
			d.Fuse(again)
			if e := d.Write(0, c); e != api.ErrDead || !d.Dead() || d.Writes() != n {
				t.Error(n, again, e)
			}
			if e := d.Barrier(); e != api.ErrDead {
				t.Error(n, again, e)
			}
		}
	}
}

// P3.3: one fuse lies in the place of the one that was; below 0 there is none
func TestFuseAnew(t *testing.T) {
	d := made(t, 4)
	for _, n := range []int{0, 1, -1, 0, -2, 0, math.MinInt, math.MaxInt, 0, math.MinInt + 1, 2} {
		d.Fuse(n)
		if d.Dead() {
			t.Error(n)
		}
	}
	write(t, d, 0, a, a)
	d.Fuse(1)
	write(t, d, 0, a)
	d.Fuse(1)
	write(t, d, 0, a)
	for _, n := range []int{-1, -2, math.MinInt, math.MaxInt} {
		d.Fuse(0)
		d.Fuse(n)
		for i := range 9 {
			write(t, d, i%4, b)
		}
	}
	if d.Dead() || d.Writes() != 40 {
		t.Error(d.Dead(), d.Writes())
	}
	d.Fuse(0)
	if e := d.Write(0, a); e != api.ErrDead || d.Writes() != 40 {
		t.Error(e, d.Writes())
	}
}

// P3.3: Loose rises, whatever was written first; a write of what stands there is one, too
func TestLoose(t *testing.T) {
	const n = 300
	d := made(t, n)
	var want []int
	for k := range n / 2 {
		i := (k*154 + 100) % n
		write(t, d, i, full(byte(k)))
		want = append(want, i)
	}
	slices.Sort(want)
	if l := d.Loose(); !slices.Equal(l, want) {
		t.Error(l)
	}
	d.Loose()[0] = 77
	if l := d.Loose(); !slices.Equal(l, want) {
		t.Error("what was answered is kept", l)
	}
	barrier(t, d)
	write(t, d, 9, noughts)
	write(t, d, 5, noughts, noughts)
	if l := d.Loose(); !slices.Equal(l, []int{5, 9}) {
		t.Error(l)
	}
}

// P3.4: which of picks is whose, and what it chooses
func TestCrash(t *testing.T) {
	d := made(t, 6)
	write(t, d, 4, c)
	write(t, d, 0, c)
	barrier(t, d)
	write(t, d, 4, a, b)
	write(t, d, 1, a)
	write(t, d, 3, a, b, a, noughts)
	was, loose, writes := read(t, d), d.Loose(), d.Writes()
	one := []api.Sector{noughts, a}
	three := []api.Sector{noughts, a, b, a, noughts}
	four := []api.Sector{c, a, b}
	of := func(l []api.Sector, pick int) api.Sector {
		return l[uint64(pick)%uint64(len(l))]
	}
	some := []int{0, 1, 2, 3, 4, 5, 6, 14, 15, 16, -1, -2, -3, -7, math.MaxInt, math.MaxInt - 1, math.MinInt, math.MinInt + 1}
	for _, x := range some {
		for _, y := range some {
			for _, z := range some {
				picks := []int{x, y, z, 1, 1}
				o := d.Crash(picks)
				want := []api.Sector{c, of(one, x), noughts, of(three, y), of(four, z), noughts}
				if !slices.Equal(read(t, o), want) {
					t.Error(x, y, z)
				}
				if !slices.Equal(picks, []int{x, y, z, 1, 1}) {
					t.Error("picks are changed")
				}
			}
		}
	}
	for n, want := range [][]api.Sector{{noughts, noughts, c}, {a, noughts, c}, {a, b, c}, {a, b, a}} {
		o := d.Crash([]int{1, 2, 1}[:n]) // 0 behind their end
		if !slices.Equal(read(t, o), []api.Sector{c, want[0], noughts, want[1], want[2], noughts}) {
			t.Error(n)
		}
	}
	if !slices.Equal(read(t, d), was) || !slices.Equal(d.Loose(), loose) || d.Writes() != writes || d.Dead() {
		t.Error("the disk does not stay")
	}
}

// P3.4: what comes of a loss of power has its power, no fuse, nothing written, and is apart
func TestCrashAnew(t *testing.T) {
	d := made(t, 4)
	write(t, d, 0, a)
	d.Fuse(2)
	write(t, d, 1, a)
	for _, dead := range []bool{false, true} {
		if dead {
			write(t, d, 1, b)
			if e := d.Write(2, a); e != api.ErrDead {
				t.Fatal(e)
			}
		}
		o := d.Crash([]int{1, 1})
		if o.Dead() || o.Writes() != 0 || len(o.Loose()) != 0 || d.Dead() != dead {
			t.Error(dead, o.Dead(), o.Writes(), o.Loose(), d.Dead())
		}
		want := []api.Sector{a, a, noughts, noughts}
		if !slices.Equal(read(t, o), want) || !slices.Equal(read(t, o.Crash([]int{1, 1})), want) {
			t.Error(dead, "what it is does not last")
		}
		write(t, o, 0, c, c, c, c)
		barrier(t, o)
		if o.Writes() != 4 {
			t.Error(dead, o.Writes())
		}
		reads(t, d, 0, a)
		reads(t, d.Crash(nil), 0, noughts)
	}
}

// P3.4: a copy goes on apart, with all that was written, its fuse, and what was counted
func TestCopy(t *testing.T) {
	d := made(t, 4)
	write(t, d, 0, c)
	barrier(t, d)
	write(t, d, 0, a, b, c) // so that what is appended to their list would be in the same memory
	d.Fuse(2)
	o := d.Copy()
	if o == d || !o.Same(d) || o.Writes() != 4 || o.Dead() || !slices.Equal(o.Loose(), []int{0}) {
		t.Fatal(o.Writes(), o.Dead(), o.Loose())
	}
	write(t, d, 0, full(1))
	write(t, o, 0, full(2))
	write(t, d, 1, full(3))
	for pick, want := range []api.Sector{c, a, b, c, full(1)} {
		reads(t, d.Crash([]int{pick}), 0, want)
	}
	for pick, want := range []api.Sector{c, a, b, c, full(2)} {
		reads(t, o.Crash([]int{pick}), 0, want)
	}
	if !slices.Equal(d.Loose(), []int{0, 1}) || !slices.Equal(o.Loose(), []int{0}) || d.Writes() != 6 || o.Writes() != 5 {
		t.Error(d.Loose(), o.Loose(), d.Writes(), o.Writes())
	}
	if e := d.Write(2, a); e != api.ErrDead || !d.Dead() || o.Dead() {
		t.Error(e, d.Dead(), o.Dead())
	}
	barrier(t, o)
	reads(t, d.Crash(nil), 0, c)
	write(t, o, 3, a)
	if e := o.Write(3, b); e != api.ErrDead {
		t.Error("the copy's fuse", e)
	}
	if p := d.Copy(); !p.Dead() || p.Write(0, a) != api.ErrDead || p.Barrier() != api.ErrDead || p.Writes() != 6 {
		t.Error("a copy of one without power", p.Dead(), p.Writes())
	}
}

// P3.4: what lasts and what is read are held against each other, and nothing else
func TestSame(t *testing.T) {
	d := made(t, 4)
	same := func(name string, o *disk.Disk, want bool) {
		t.Helper()
		if d.Same(o) != want || o.Same(d) != want || !d.Same(d) || !o.Same(o) {
			t.Error(name, d.Same(o), o.Same(d))
		}
	}
	same("two new ones", made(t, 4), true)
	same("fewer sectors", made(t, 3), false)
	same("more sectors", made(t, 5), false)
	o := d.Copy()
	write(t, o, 3, a)
	same("one is written", o, false)
	write(t, d, 3, a)
	same("both are written", o, true)
	barrier(t, o)
	same("one lasts", o, false)
	barrier(t, d)
	same("both last", o, true)
	write(t, o, 0, b, noughts)
	write(t, o, 3, a)
	same("what is read is as it was", o, true)
	write(t, d, 0, c, noughts)
	same("what was written on the way", o, true)
	s := noughts
	s[api.SectorSize-1] = 1
	write(t, o, 1, s)
	same("the last byte", o, false)
	barrier(t, o)
	write(t, o, 1, noughts)
	same("what lasts is another, what is read the same", o, false)
	barrier(t, o)
	o.Fuse(0)
	o.Write(0, a)
	same("fuse, power, and writes", o, true)
}

// P3.4: All goes over what is read as something else than noughts, as it was when All was called
func TestAll(t *testing.T) {
	d := made(t, 300)
	last := noughts
	last[api.SectorSize-1] = 1
	write(t, d, 299, last)
	write(t, d, 7, a)
	write(t, d, 8, a)
	barrier(t, d)
	write(t, d, 8, noughts)
	write(t, d, 0, a, b)
	write(t, d, 7, c)
	want := []at{{0, b}, {7, c}, {299, last}}
	all := d.All()
	write(t, d, 0, noughts)
	write(t, d, 1, a)
	barrier(t, d)
	for range 2 { // as often as one likes
		var l []at
		for i, s := range all {
			l = append(l, at{i, s})
			d.Write(7, full(9)) // not while it is gone through, either
			s[0]++
		}
		if !slices.Equal(l, want) {
			t.Error(len(l))
		}
	}
	for n := range want {
		var l []at
		for i, s := range all {
			if len(l) == n {
				break
			}
			l = append(l, at{i, s})
		}
		if !slices.Equal(l, want[:n]) {
			t.Error("left", n)
		}
	}
	if l := listed(d); !slices.Equal(l, []at{{1, a}, {7, full(9)}, {299, last}}) {
		t.Error(len(l))
	}
}

// Errors: a nil and a zero disk
func TestNone(t *testing.T) {
	var zero, other disk.Disk
	d := made(t, 1)
	for name, o := range map[string]*disk.Disk{"nil": nil, "zero": &zero} {
		for _, i := range []int{-1, 0, 1, math.MaxInt} {
			if s, e := o.Read(i); s != noughts || e != api.ErrNil {
				t.Error(name, i, e)
			}
			if e := o.Write(i, a); e != api.ErrNil {
				t.Error(name, i, e)
			}
		}
		for _, n := range []int{0, 1, -1} {
			o.Fuse(n)
			if e := o.Write(0, a); e != api.ErrNil {
				t.Error(name, n, e)
			}
		}
		if e := o.Barrier(); e != api.ErrNil {
			t.Error(name, e)
		}
		if o.Sectors() != 0 || o.Dead() || o.Writes() != 0 || len(o.Loose()) != 0 || len(listed(o)) != 0 {
			t.Error(name, o.Sectors(), o.Dead(), o.Writes(), o.Loose())
		}
		if o.Crash(nil) != nil || o.Crash([]int{1}) != nil || o.Copy() != nil {
			t.Error(name, "something comes of it")
		}
		if !o.Same(nil) || !o.Same(&other) || o.Same(d) || d.Same(o) {
			t.Error(name, "Same")
		}
	}
}

// plain is a disk as the document tells it: what lasts, and all that was written since, one behind the other.
type plain struct {
	lasts   []api.Sector
	written []at
	fuse    int
	dead    bool
	writes  int
}

func (p *plain) write(i int, s api.Sector) api.Errno {
	p.dead = p.dead || p.fuse == 0
	if p.dead {
		return api.ErrDead
	}
	p.written = append(p.written, at{i, s})
	p.fuse--
	p.writes++
	return api.OK
}

// choices are what a sector may be behind a loss of power.
func (p *plain) choices(i int) []api.Sector {
	l := []api.Sector{p.lasts[i]}
	for _, w := range p.written {
		if w.i == i {
			l = append(l, w.s)
		}
	}
	return l
}

func (p *plain) read() []api.Sector {
	l := slices.Clone(p.lasts)
	for _, w := range p.written {
		l[w.i] = w.s
	}
	return l
}

func (p *plain) barrier() api.Errno {
	if p.dead {
		return api.ErrDead
	}
	p.lasts, p.written = p.read(), nil
	return api.OK
}

func (p *plain) crash(picks []int) []api.Sector {
	l := slices.Clone(p.lasts)
	for i := range l {
		c := p.choices(i)
		if len(c) == 1 {
			continue
		}
		if len(picks) > 0 {
			l[i] = c[uint64(picks[0])%uint64(len(c))]
			picks = picks[1:]
		}
	}
	return l
}

// P3.2 to P3.5: runs of any steps come to what the document's disk comes to
func TestRuns(t *testing.T) {
	for seed := range int64(60) {
		r := rand.New(rand.NewSource(seed))
		n := 1 + r.Intn(6)
		d, p := made(t, n), &plain{lasts: make([]api.Sector, n), fuse: -1}
		for range 120 {
			var e, want api.Errno
			switch k := r.Intn(20); {
			case k < 13:
				i, s := r.Intn(n), full(byte(r.Intn(4)))
				e, want = d.Write(i, s), p.write(i, s)
			case k < 16:
				e, want = d.Barrier(), p.barrier()
			case k < 17:
				p.fuse = r.Intn(30) - 2
				d.Fuse(p.fuse)
			case k < 18:
				d = d.Copy()
			case p.dead || k < 19:
				picks := make([]int, r.Intn(n+2))
				for i := range picks {
					picks[i] = int(r.Uint64())
				}
				p = &plain{lasts: p.crash(picks), fuse: -1}
				d = d.Crash(picks)
			}
			if e != want {
				t.Fatal(seed, e, want)
			}
			hold(t, d, p, seed)
		}
	}
}

// hold holds a disk against the document's.
func hold(t *testing.T, d *disk.Disk, p *plain, seed int64) {
	t.Helper()
	var loose []int
	var all []at
	for i, s := range p.read() {
		if len(p.choices(i)) > 1 {
			loose = append(loose, i)
		}
		if !bytes.Equal(s[:], noughts[:]) {
			all = append(all, at{i, s})
		}
	}
	if !slices.Equal(read(t, d), p.read()) || !slices.Equal(d.Loose(), loose) || d.Writes() != p.writes || d.Dead() != p.dead {
		t.Fatal(seed, d.Loose(), loose, d.Writes(), p.writes, d.Dead(), p.dead)
	}
	if !slices.Equal(listed(d), all) {
		t.Fatal(seed, "All")
	}
	newest := make([]int, len(loose))
	for k, i := range loose {
		newest[k] = len(p.choices(i)) - 1
	}
	if !slices.Equal(read(t, d.Crash(newest)), p.read()) || !slices.Equal(read(t, d.Crash(nil)), p.lasts) {
		t.Fatal(seed, "what may last")
	}
}

// P3.5: behind a barrier each Crash is what is read; else each sector is what it was then, or something written since
func TestWhatFollows(t *testing.T) {
	r := rand.New(rand.NewSource(1))
	d := made(t, 5)
	for range 40 {
		may := read(t, d)
		since := make([][]api.Sector, 5)
		for range r.Intn(9) {
			i, s := r.Intn(5), full(byte(r.Intn(9)))
			write(t, d, i, s)
			since[i] = append(since[i], s)
		}
		for range 20 {
			for i, s := range read(t, d.Crash([]int{r.Int(), -r.Int(), r.Intn(3), r.Intn(3)})) {
				if s != may[i] && !slices.Contains(since[i], s) {
					t.Fatal(i, "is nothing that it was")
				}
			}
		}
		barrier(t, d)
		for range 5 {
			o := d.Crash([]int{r.Int(), -r.Int(), r.Intn(3)})
			if !slices.Equal(read(t, o), read(t, d)) || !o.Same(d) {
				t.Fatal("behind a barrier")
			}
		}
	}
}
