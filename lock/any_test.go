package lock_test

import (
	"math/rand"
	"slices"
	"testing"

	"hornbook/api"
	"hornbook/lock"
)

// claim is a lock that is held, or waited for.
type claim struct {
	owner uint64
	key   api.LockKey
	mode  api.LockMode
}

// plain is a table told by the document's words alone: lists, gone through from end to end.
type plain struct{ held, waiting []claim } // of a key those that wait in their line's order

// clash: do two claims of one key not go together?
func (q claim) clash(o claim) bool {
	return q.key == o.key && q.owner != o.owner && (q.mode != s || o.mode != s)
}

func (p *plain) holds(owner uint64, k api.LockKey) api.LockMode {
	for _, h := range p.held {
		if h.owner == owner && h.key == k {
			return h.mode
		}
	}
	return 0
}

func (p *plain) waits(owner uint64) (claim, bool) {
	for _, w := range p.waiting {
		if w.owner == owner {
			return w, true
		}
	}
	return claim{}, false
}

func (p *plain) line(k api.LockKey) []claim {
	var all []claim
	for _, w := range p.waiting {
		if w.key == k {
			all = append(all, w)
		}
	}
	return all
}

// whom is whom an owner waits for.
func (p *plain) whom(owner uint64) []uint64 {
	w, is := p.waits(owner)
	if !is {
		return nil
	}
	var all []uint64
	for _, h := range p.held {
		if h.clash(w) {
			all = append(all, h.owner)
		}
	}
	for _, o := range p.line(w.key) {
		if o.owner == owner {
			break
		}
		if o.clash(w) {
			all = append(all, o.owner)
		}
	}
	slices.Sort(all)
	return slices.Compact(all)
}

// leads: does one wait, perhaps through others, for another one? Who is reached is told in rounds.
func (p *plain) leads(from, to uint64) bool {
	reached := p.whom(from)
	for i := 0; i < len(reached); i++ {
		for _, o := range p.whom(reached[i]) {
			if !slices.Contains(reached, o) {
				reached = append(reached, o)
			}
		}
	}
	return slices.Contains(reached, to)
}

// copied is one that goes on apart.
func (p *plain) copied() *plain {
	return &plain{slices.Clone(p.held), slices.Clone(p.waiting)}
}

// free: does a claim go together with all others that are held?
func (p *plain) free(q claim) bool { return !slices.ContainsFunc(p.held, q.clash) }

// take lets it be held: in place of what the owner held of that key.
func (p *plain) take(q claim) {
	p.held = slices.DeleteFunc(p.held, func(h claim) bool { return h.owner == q.owner && h.key == q.key })
	p.held = append(p.held, q)
}

// stand lets it stand in the line.
func (p *plain) stand(q claim) {
	place := len(p.waiting)
	if p.holds(q.owner, q.key) != 0 {
		first := func(w claim) bool { return w.key == q.key && p.holds(w.owner, w.key) == 0 }
		if i := slices.IndexFunc(p.waiting, first); i >= 0 {
			place = i
		}
	}
	p.waiting = slices.Insert(p.waiting, place, q)
}

func (p *plain) ask(q claim) api.Errno {
	if q.mode != s && q.mode != x {
		return api.ErrArg
	}
	if w, is := p.waits(q.owner); is && w == q {
		return api.ErrWait
	} else if is {
		return api.ErrState
	}
	has := p.holds(q.owner, q.key)
	if has == q.mode || has == x {
		return api.OK
	}
	if p.free(q) && (has != 0 || len(p.line(q.key)) == 0) {
		p.take(q)
		return api.OK
	}
	then := p.copied()
	then.stand(q)
	if then.leads(q.owner, q.owner) {
		return api.ErrLock
	}
	*p = *then
	return api.ErrWait
}

func (p *plain) let(owner uint64) []uint64 {
	gone := func(q claim) bool { return q.owner == owner }
	var keys []api.LockKey
	for _, q := range slices.Concat(p.held, p.waiting) {
		if gone(q) {
			keys = append(keys, q.key)
		}
	}
	slices.SortFunc(keys, func(k, l api.LockKey) int {
		if k.Kind != l.Kind {
			return k.Kind - l.Kind
		}
		return k.Number - l.Number
	})
	p.held, p.waiting = slices.DeleteFunc(p.held, gone), slices.DeleteFunc(p.waiting, gone)
	var came []uint64
	for _, k := range keys {
		for line := p.line(k); len(line) > 0 && p.free(line[0]); line = line[1:] {
			p.take(line[0])
			p.waiting = slices.DeleteFunc(p.waiting, func(w claim) bool { return w == line[0] })
			came = append(came, line[0].owner)
		}
	}
	return came
}

// agree holds all that a table tells against what the plain one does.
func agree(t *testing.T, l *lock.Table, p *plain, owners uint64, keys []api.LockKey) {
	t.Helper()
	many(t, l, len(p.held)+len(p.waiting))
	for o := range owners {
		w, _ := p.waits(o)
		waits(t, l, o, w.key, w.mode)
		whom(t, l, o, p.whom(o)...)
		var all []has
		for _, k := range keys {
			m := p.holds(o, k)
			holds(t, l, o, k, m)
			if m != 0 {
				all = append(all, has{k, m})
			}
		}
		holding(t, l, o, all...)
	}
	for _, k := range keys {
		var all []uint64
		for _, w := range p.line(k) {
			all = append(all, w.owner)
		}
		line(t, l, k, all...)
	}
}

// follows says what holds of each table, by what it tells alone (P10.4).
func follows(t *testing.T, l *lock.Table, owners uint64, keys []api.LockKey) {
	t.Helper()
	for _, k := range keys {
		var modes []api.LockMode
		for o := range owners {
			if m := l.Holds(o, k); m != 0 {
				modes = append(modes, m)
			}
		}
		if len(modes) > 1 && slices.Contains(modes, x) {
			t.Error(k, "is held by several, and in X")
		}
		first := l.Line(k)
		if len(first) > 0 && !slices.ContainsFunc(l.For(first[0]), func(o uint64) bool { return l.Holds(o, k) != 0 }) {
			t.Error(k, "nobody holds what the first one waits for", first[0], l.For(first[0]))
		}
	}
	for o := range owners {
		reached := l.For(o)
		for i := 0; i < len(reached); i++ {
			for _, n := range l.For(reached[i]) {
				if !slices.Contains(reached, n) {
					reached = append(reached, n)
				}
			}
		}
		if slices.Contains(reached, o) {
			t.Error(o, "waits for itself")
		}
	}
}

// ends lets all go that hold something and wait for nothing, one behind the other: each that waits comes to what it waited for.
func ends(t *testing.T, r *rand.Rand, l *lock.Table, owners uint64) {
	t.Helper()
	waited := map[uint64]has{}
	var going []uint64
	for o := range owners {
		if k, m, is := l.Waits(o); is {
			waited[o] = has{k, m}
		} else if len(held(l, o)) > 0 {
			going = append(going, o)
		}
	}
	for len(going) > 0 {
		i := r.Intn(len(going))
		o := going[i]
		going = slices.Delete(going, i, i+1)
		for _, n := range l.Free(o) {
			want, is := waited[n]
			if !is || l.Holds(n, want.key) != want.mode {
				t.Error(n, "came to", want, is)
			}
			delete(waited, n)
			going = append(going, n)
		}
	}
	if len(waited) > 0 || l.Len() != 0 {
		t.Error("left are", waited, l.Len())
	}
}

// someKeys are keys, rising.
func someKeys(n int) []api.LockKey {
	return []api.LockKey{{Kind: -1, Number: 9}, {Kind: 1, Number: -4}, {Kind: 1, Number: 0}, {Kind: 1, Number: 3}, {Kind: 2, Number: -7}, {Kind: 5, Number: 5}}[:n]
}

// TestRuns holds a table against the plain one, at random.
func TestRuns(t *testing.T) {
	seen := map[api.Errno]int{}
	for seed := range int64(600) {
		r := rand.New(rand.NewSource(seed))
		owners, keys := uint64(2+r.Intn(7)), someKeys(1+r.Intn(6))
		shared, lets := 1+r.Intn(9), 4+r.Intn(40)
		l, p := lock.New(), &plain{}
		for step := range 120 {
			o := uint64(r.Intn(int(owners)))
			if r.Intn(lets) == 0 {
				frees(t, l, o, p.let(o)...)
			} else {
				q := claim{o, keys[r.Intn(len(keys))], x}
				if r.Intn(10) < shared {
					q.mode = s
				}
				if r.Intn(40) == 0 {
					q.mode = api.LockMode(r.Intn(7) - 2)
				}
				want := p.ask(q)
				seen[want]++
				asks(t, l, ask{q.owner, q.key, q.mode, want})
			}
			if r.Intn(30) == 0 { // a copy goes on, and what the first one does then is nothing to it
				first := l
				l = l.Copy()
				first.Free(uint64(r.Intn(int(owners))))
				first.Ask(0, keys[0], x)
			}
			agree(t, l, p, owners, keys)
			if t.Failed() {
				t.Fatal("seed", seed, "step", step)
			}
		}
		follows(t, l, owners, keys)
		ends(t, r, l, owners)
		if t.Failed() {
			t.Fatal("seed", seed)
		}
	}
	for _, e := range []api.Errno{api.OK, api.ErrArg, api.ErrState, api.ErrWait, api.ErrLock} {
		if seen[e] < 50 {
			t.Error("too few of", e, seen)
		}
	}
}

// TestManyOwners holds with many owners what follows, and that all come to an end.
func TestManyOwners(t *testing.T) {
	for seed := range int64(20) {
		r := rand.New(rand.NewSource(seed))
		const owners = 64
		keys := someKeys(6)
		l := lock.New()
		for range 600 {
			o := uint64(r.Intn(owners))
			switch _, _, is := l.Waits(o); {
			case is && r.Intn(20) > 0:
			case r.Intn(12) == 0:
				l.Free(o)
			default:
				l.Ask(o, keys[r.Intn(len(keys))], api.LockMode(1+r.Intn(5)/4))
			}
		}
		follows(t, l, owners, keys)
		ends(t, r, l, owners)
	}
}
