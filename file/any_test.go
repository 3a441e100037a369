package file_test

import (
	"math/rand"
	"testing"

	"hornbook/api"
	"hornbook/file"
	"hornbook/itable"
)

// run is a store, and which files are to be in it, by their inodes.
type run struct {
	*bench
	files map[int]*plain
}

// copied is what is to be, that goes on apart.
func (x *run) copied() *run {
	y := &run{bench: x.bench, files: map[int]*plain{}}
	for i, f := range x.files {
		y.files[i] = f.copied()
	}
	return y
}

// offOf is where a file is written, read, cut: about its end, a block's bound, or anywhere within the first blocks, and now and then far off.
func offOf(r *rand.Rand, f *plain) int {
	switch r.Intn(9) {
	case 0, 1:
		return max(len(f.l)+r.Intn(5)-2, 0)
	case 2, 3, 4:
		return max(248*r.Intn(40)+r.Intn(5)-2, 0)
	case 5:
		return 248*r.Intn(4096) + r.Intn(249)
	}
	return r.Intn(9000)
}

// many is how many bytes are asked for.
func many(r *rand.Rand) int {
	switch r.Intn(5) {
	case 0:
		return r.Intn(4)
	case 1:
		return 246 + r.Intn(5)
	case 2:
		return r.Intn(1985)
	}
	return r.Intn(400)
}

// step does one thing to both: was it done?
func (x *run) step(t *testing.T, r *rand.Rand) bool {
	t.Helper()
	i := 1 + r.Intn(len(x.files))
	f := x.files[i]
	off, n := min(offOf(r, f), api.MaxSize), many(r)
	switch k := r.Intn(10); {
	case k < 5:
		n = min(n, api.MaxSize-off)
		l := text(n, r.Intn(251))
		free := x.free(t)
		e := file.Write(x.s, x.t, i, int64(off), []byte(l))
		if took := free - x.free(t); took > file.Needs(int64(off), n) {
			t.Fatal(off, n, took)
		}
		f.write(off, l)
		if e != api.OK && e != api.ErrFull {
			t.Fatal(off, n, e)
		}
		return e == api.OK
	case k < 7:
		e := file.Cut(x.s, x.t, i, int64(off))
		f.cut(off)
		if e != api.OK && e != api.ErrFull {
			t.Fatal(off, e)
		}
		return e == api.OK
	}
	x.tells(t, read(i, int64(off), n), f.read(off, n))
	return true
}

// P14.5: any calls, held against plain files; now and then a transaction is changed back
func TestAny(t *testing.T) {
	for seed := range int64(12) {
		r := rand.New(rand.NewSource(seed))
		n := []int{64, 91, 300, 1400}[seed%4]
		x := &run{bench: made(t, n), files: map[int]*plain{}}
		free := x.free(t)
		for i := 1; i <= 3; i++ {
			x.files[i] = newPlain()
			x.sets(t, i, api.Inode{Kind: api.InodeFile + api.InodeKind(i%2)})
		}
		was := x.copied()
		for i := range 600 {
			done := x.step(t, r)
			switch {
			case !done || r.Intn(7) == 0:
				ok(t, x.s.Rollback(x.t))
				x = was.copied()
				x.begin(t)
			case n < 300 || r.Intn(3) > 0:
				x.commit(t)
				was = x.copied()
			}
			if i%60 == 0 {
				for i, f := range x.files {
					x.is(t, i, f)
				}
			}
		}
		ok(t, x.s.Rollback(x.t))
		x = was.copied()
		x.begin(t)
		for i, f := range x.files {
			for at := len(f.l); at > 0; at = max(at-248*8, 0) {
				x.tells(t, cut(i, int64(at)), nothing{})
				f.cut(at)
				x.commit(t)
			}
			x.is(t, i, f)
			x.tells(t, cut(i, 0), nothing{})
			x.is(t, i, newPlain())
			if got := x.inode(t, i); got != (api.Inode{Kind: got.Kind}) {
				t.Error(got)
			}
			ok(t, itable.Set(x.s, x.t, i, api.Inode{}))
			x.commit(t)
		}
		if got := x.free(t); got != free {
			t.Error(seed, free, got)
		}
	}
}
