package dir_test

import (
	"math/rand"
	"testing"

	"hornbook/api"
	"hornbook/dir"
)

// run is a store, and which directories are to be in it, by their inodes.
type run struct {
	*bench
	dirs map[int]*plain
}

// copied is what is to be, that goes on apart.
func (x *run) copied() *run {
	y := &run{bench: x.bench, dirs: map[int]*plain{}}
	for i, f := range x.dirs {
		y.dirs[i] = f.copied()
	}
	return y
}

// told says what a call tells of a name that is there, and of one that is not.
func told(t *testing.T, e, has, hasNot api.Errno, there bool) bool {
	t.Helper()
	want := hasNot
	if there {
		want = has
	}
	if e != want && e != api.ErrFull || e == api.ErrFull && want != api.OK {
		t.Fatal(e, want)
	}
	return e == api.OK
}

// step does one thing to both: is what was done to stay?
func (x *run) step(t *testing.T, r *rand.Rand, most int) bool {
	t.Helper()
	i := 1 + r.Intn(len(x.dirs))
	f := x.dirs[i]
	l := named(r.Intn(4), most)
	name := l[r.Intn(most)]
	_, place := f.at(headOf(name), name)
	there, to := place >= 0, 1+r.Intn(65535)
	switch k := r.Intn(10); {
	case k < 5:
		free := x.free(t)
		e := dir.Add(x.s, x.t, i, name, to)
		if took := free - x.free(t); took > dir.Needs() {
			t.Fatal(took)
		}
		done := told(t, e, api.ErrState, api.OK, there)
		if done {
			f.add(name, to)
		}
		return done || there
	case k < 7:
		done := told(t, dir.Drop(x.s, x.t, i, name), api.OK, api.ErrNone, there)
		f.turn(name, api.Entry{})
		return done || !there
	case k < 9:
		done := told(t, dir.Change(x.s, x.t, i, name, to), api.OK, api.ErrNone, there)
		f.turn(name, api.Entry{Name: name, Inode: to})
		return done || !there
	}
	got, e := dir.Find(x.s, i, name)
	want, none := 0, api.ErrNone
	if there {
		block, place := f.at(headOf(name), name)
		want, none = f.l[block].places[place].Inode, api.OK
	}
	if got != want || e != none {
		t.Fatal(got, e, want)
	}
	return true
}

// P15.4: any calls, held against plain directories; now and then a transaction is changed back
func TestAny(t *testing.T) {
	for seed := range int64(12) {
		r := rand.New(rand.NewSource(seed))
		n := []int{64, 91, 300, 1400}[seed%4]
		x := &run{bench: made(t, n), dirs: map[int]*plain{}}
		for i := 1; i <= 3; i++ {
			x.dirs[i] = newPlain()
			x.sets(t, i, api.Inode{Kind: api.InodeDir})
		}
		was := x.copied()
		for k := range 900 {
			done := x.step(t, r, 1+k/10%90)
			switch {
			case !done || r.Intn(7) == 0:
				ok(t, x.s.Rollback(x.t))
				x = was.copied()
				x.begin(t)
			case n < 300 || r.Intn(3) > 0:
				x.commit(t)
				was = x.copied()
			}
			if k%60 == 0 {
				for i, f := range x.dirs {
					x.is(t, i, f)
				}
			}
		}
		for i, f := range x.dirs {
			x.is(t, i, f)
		}
	}
}
