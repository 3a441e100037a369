package extent_test

import (
	"maps"
	"math/rand"
	"slices"
	"testing"

	"hornbook/api"
)

// run is a store, and what is to be in it: a land with trees.
type run struct {
	*bench
	land  *land
	trees [3]*page
	dead  bool // something was refused in the midst
}

// copied is what is to be, that goes on apart.
func (x *run) copied() *run {
	y := &run{bench: x.bench, land: x.land.copied()}
	for i, tree := range x.trees {
		y.trees[i] = tree.copied()
	}
	return y
}

// blockOf is where a tree grows: at its end, anywhere, or within few blocks.
func blockOf(r *rand.Rand, i int, tree *page) int {
	l, _ := under(tree)
	switch {
	case i == 0 && len(l) > 0:
		last := l[len(l)-1]
		return min(last.Block+last.Count+r.Intn(3), 4095)
	case i == 1:
		return r.Intn(4096)
	}
	return r.Intn(90)
}

// lastBut is from which block on a tree has so many.
func lastBut(tree *page, many int) int {
	l, _ := under(tree)
	at := slices.Sorted(maps.Keys(spread(l)))
	if len(at) < many {
		return 0
	}
	return at[len(at)-many]
}

// step does one thing to both.
func (x *run) step(t *testing.T, r *rand.Rand, grows int) {
	t.Helper()
	i := r.Intn(len(x.trees))
	tree := x.trees[i]
	block := blockOf(r, i, tree)
	l, _ := under(tree)
	sector, has := spread(l)[block]
	switch {
	case r.Intn(12) == 0:
		x.tells(t, find(number(tree), block), sector)
	case has && r.Intn(2) == 0:
		x.keeps(t, x.t, put(0, number(tree), block, sector), api.ErrState)
	case !has && r.Intn(10) < grows:
		x.grow(t, r, i, block)
	case r.Intn(3) == 0:
		x.trees[i] = x.cuts(t, x.land, tree, max(block, lastBut(tree, 1+r.Intn(20))))
	}
}

// grow takes a block for a tree's, and puts it; it may be that nothing is free.
func (x *run) grow(t *testing.T, r *rand.Rand, i, block int) {
	t.Helper()
	g := r.Intn(len(x.land.first))
	m := x.land
	sector := m.take(g)
	if !m.full {
		x.takes(t, g, sector)
		was := number(x.trees[i])
		x.trees[i] = m.puts(x.trees[i], g, block, sector)
		if !m.full {
			x.tells(t, put(g, was, block, sector), x.trees[i].at)
			return
		}
		refused(t, x.s, x.t, put(g, was, block, sector), api.ErrFull)
	}
	x.dead = true
}

// P13.5: any calls, held against the land; now and then a transaction is changed back
func TestAny(t *testing.T) {
	for seed := range int64(20) {
		r := rand.New(rand.NewSource(seed))
		n := []int{91, 200, 420, 1400}[r.Intn(4)]
		x := &run{bench: made(t, n), land: start(n)}
		was := x.copied()
		for i := range 1500 {
			x.step(t, r, 4+(i/100)%6)
			if i%100 == 0 && !x.dead {
				x.is(t, x.land)
				for _, tree := range x.trees {
					x.has(t, tree)
				}
			}
			if !x.dead && n > 200 && r.Intn(3) > 0 {
				continue
			}
			if x.dead || r.Intn(4) == 0 {
				ok(t, x.s.Rollback(x.t))
				x = was.copied()
				x.begin(t)
			} else {
				x.commit(t)
			}
			was = x.copied()
		}
		x.is(t, x.land)
		for i, tree := range x.trees {
			x.finds(t, tree)
			for tree != nil {
				tree = x.cuts(t, x.land, tree, lastBut(tree, 18))
				x.commit(t)
			}
			x.trees[i] = tree
		}
		x.is(t, x.land)
		if len(x.land.used) != 0 {
			t.Error(x.land.used)
		}
	}
}
