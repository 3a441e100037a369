package lock_test

import (
	"fmt"
	"math"
	"slices"
	"testing"

	"hornbook/api"
	"hornbook/lock"
)

const (
	s = api.LockS
	x = api.LockX
)

var (
	a = api.LockKey{Kind: 1, Number: 1}
	b = api.LockKey{Kind: 1, Number: 2}
	c = api.LockKey{Kind: 2, Number: 1}
	d = api.LockKey{Kind: 3, Number: 0}
)

// ask is what is asked for, and what is answered.
type ask struct {
	owner uint64
	key   api.LockKey
	mode  api.LockMode
	want  api.Errno
}

// has is a key, and the mode in which it is held.
type has struct {
	key  api.LockKey
	mode api.LockMode
}

// run is what is asked, and then what is looked at.
type run struct {
	name string
	asks []ask
	then ask
}

// asks asks one behind the other.
func asks(t *testing.T, l *lock.Table, all ...ask) {
	t.Helper()
	for i, q := range all {
		if e := l.Ask(q.owner, q.key, q.mode); e != q.want {
			t.Errorf("the %d. Ask(%d, %v, %d): %v, not %v", i+1, q.owner, q.key, q.mode, e, q.want)
		}
	}
}

// after is a table of which these were asked.
func after(t *testing.T, all ...ask) *lock.Table {
	t.Helper()
	l := lock.New()
	asks(t, l, all...)
	return l
}

// frees lets an owner's go, and says who comes to what it waited for.
func frees(t *testing.T, l *lock.Table, owner uint64, want ...uint64) {
	t.Helper()
	if got := l.Free(owner); !slices.Equal(got, want) {
		t.Errorf("Free(%d): %v, not %v", owner, got, want)
	}
}

// line says who stands in a key's line.
func line(t *testing.T, l *lock.Table, k api.LockKey, want ...uint64) {
	t.Helper()
	if got := l.Line(k); !slices.Equal(got, want) {
		t.Errorf("Line(%v): %v, not %v", k, got, want)
	}
}

// whom says whom an owner waits for.
func whom(t *testing.T, l *lock.Table, owner uint64, want ...uint64) {
	t.Helper()
	if got := l.For(owner); !slices.Equal(got, want) {
		t.Errorf("For(%d): %v, not %v", owner, got, want)
	}
}

// holds says in which mode an owner holds a key.
func holds(t *testing.T, l *lock.Table, owner uint64, k api.LockKey, want api.LockMode) {
	t.Helper()
	if got := l.Holds(owner, k); got != want {
		t.Errorf("Holds(%d, %v): %d, not %d", owner, k, got, want)
	}
}

// waits says what an owner waits for: in the mode 0 for nothing.
func waits(t *testing.T, l *lock.Table, owner uint64, k api.LockKey, m api.LockMode) {
	t.Helper()
	if at, how, is := l.Waits(owner); at != k || how != m || is != (m != 0) {
		t.Errorf("Waits(%d): %v %d %v, not %v %d", owner, at, how, is, k, m)
	}
}

// many says how many locks there are.
func many(t *testing.T, l *lock.Table, want int) {
	t.Helper()
	if got := l.Len(); got != want {
		t.Errorf("Len: %d, not %d", got, want)
	}
}

// held is what an owner holds, in the order in which it is gone over.
func held(l *lock.Table, owner uint64) []has {
	var all []has
	for k, m := range l.Held(owner) {
		all = append(all, has{k, m})
	}
	return all
}

// holding says what an owner holds, in that order.
func holding(t *testing.T, l *lock.Table, owner uint64, want ...has) {
	t.Helper()
	if got := held(l, owner); !slices.Equal(got, want) {
		t.Errorf("Held(%d): %v, not %v", owner, got, want)
	}
}

// picture is all that can be seen of the owners 0 to 9, and the keys a to d.
func picture(l *lock.Table) string {
	text := fmt.Sprint(l.Len())
	for o := range uint64(10) {
		k, m, is := l.Waits(o)
		text += fmt.Sprintln(o, k, m, is, l.For(o), held(l, o))
	}
	for _, k := range []api.LockKey{a, b, c, d} {
		text += fmt.Sprintln(k, l.Line(k))
	}
	return text
}

// refused asks for what is refused: nothing changes.
func refused(t *testing.T, l *lock.Table, all ...ask) {
	t.Helper()
	for _, q := range all {
		was := picture(l)
		asks(t, l, q)
		if now := picture(l); now != was {
			t.Errorf("Ask(%d, %v, %d) changed\n%sto\n%s", q.owner, q.key, q.mode, was, now)
		}
	}
}

func TestExamples(t *testing.T) {
	l := after(t, ask{1, a, s, api.OK}, ask{2, a, s, api.OK}, ask{1, a, x, api.ErrWait}, ask{3, a, s, api.ErrWait}, ask{2, a, x, api.ErrLock})
	frees(t, l, 2, 1)
	line(t, l, a, 3)
	holds(t, l, 1, a, x)
	frees(t, l, 1, 3)
	after(t, ask{1, a, x, api.OK}, ask{2, b, x, api.OK}, ask{1, b, s, api.ErrWait}, ask{2, a, s, api.ErrLock})
}

func TestNew(t *testing.T) {
	l := lock.New()
	if l == nil {
		t.Fatal("New is nil")
	}
	many(t, l, 0)
	holds(t, l, 1, a, 0)
	waits(t, l, 1, api.LockKey{}, 0)
	whom(t, l, 1)
	line(t, l, a)
	holding(t, l, 1)
	frees(t, l, 1)
	asks(t, l, ask{1, a, x, api.OK})
	many(t, lock.New(), 0)
}

func TestNone(t *testing.T) {
	var zero lock.Table
	for _, l := range []*lock.Table{nil, &zero} {
		asks(t, l, ask{1, a, s, api.ErrNil}, ask{1, a, x, api.ErrNil}, ask{1, a, 0, api.ErrNil}, ask{0, api.LockKey{}, 3, api.ErrNil})
		frees(t, l, 1)
		holds(t, l, 1, a, 0)
		waits(t, l, 1, api.LockKey{}, 0)
		whom(t, l, 1)
		line(t, l, a)
		holding(t, l, 1)
		many(t, l, 0)
		if l.Copy() != nil {
			t.Error("a copy of none is there")
		}
	}
}

func TestAskModes(t *testing.T) {
	l := after(t, ask{1, a, x, api.OK}, ask{2, a, s, api.ErrWait})
	for _, m := range []api.LockMode{0, 3, 4, -1, -2, math.MaxInt, math.MinInt, 1 << 32, 1<<32 + 1, 257, 258} {
		refused(t, l,
			ask{3, b, m, api.ErrArg}, // free
			ask{1, a, m, api.ErrArg}, // held
			ask{2, a, m, api.ErrArg}, // waited for
			ask{2, b, m, api.ErrArg}) // by one that waits
	}
	many(t, l, 2)
}

func TestAskHas(t *testing.T) {
	l := after(t, ask{1, a, s, api.OK}, ask{2, b, x, api.OK})
	refused(t, l, ask{1, a, s, api.OK}, ask{2, b, x, api.OK}, ask{2, b, s, api.OK})
	holds(t, l, 1, a, s)
	holds(t, l, 2, b, x)
	asks(t, l, ask{3, a, x, api.ErrWait}, ask{4, b, s, api.ErrWait}) // what it has, it has also where others stand in the line
	refused(t, l, ask{1, a, s, api.OK}, ask{2, b, x, api.OK}, ask{2, b, s, api.OK})
	many(t, l, 4)
}

func TestAskMay(t *testing.T) {
	l := after(t, ask{1, a, s, api.OK}, ask{2, a, s, api.OK}, ask{3, a, s, api.OK}, ask{1, b, x, api.OK}, ask{1, c, x, api.OK})
	for o := range uint64(3) {
		holds(t, l, o+1, a, s)
	}
	holds(t, l, 1, b, x)
	holds(t, l, 1, d, 0)
	holds(t, l, 2, b, 0)
	many(t, l, 5)
	line(t, l, a)
	asks(t, l,
		ask{4, b, s, api.ErrWait}, // X with S
		ask{5, b, x, api.ErrWait}, // X with X
		ask{6, a, x, api.ErrWait}, // S with X
		ask{7, a, s, api.ErrWait}) // it would go together with all that hold it, but somebody stands in the line
	line(t, l, a, 6, 7)
	line(t, l, b, 4, 5)
	holds(t, l, 4, b, 0)
	holds(t, l, 6, a, 0)
	waits(t, l, 6, a, x)
	waits(t, l, 7, a, s)
	many(t, l, 9)
}

func TestAskAnyKeyAnyOwner(t *testing.T) {
	l := lock.New()
	var n int
	for _, kind := range []int{math.MinInt, -1, 0, 1, math.MaxInt} {
		for _, number := range []int{math.MinInt, -1, 0, 1, math.MaxInt} {
			k := api.LockKey{Kind: kind, Number: number}
			asks(t, l, ask{0, k, s, api.OK}, ask{math.MaxUint64, k, s, api.OK})
			holds(t, l, math.MaxUint64, k, s)
			holds(t, l, 0, k, s)
			n += 2
			many(t, l, n)
		}
	}
	asks(t, l, ask{0, a, x, api.ErrWait}, ask{1 << 63, api.LockKey{}, x, api.ErrWait})
	whom(t, l, 0, math.MaxUint64)
	whom(t, l, 1<<63, 0, math.MaxUint64)
	frees(t, l, math.MaxUint64, 0)
}

func TestAskUpgrade(t *testing.T) {
	l := after(t, ask{1, a, s, api.OK}, ask{1, a, x, api.OK}) // nobody else holds it
	holds(t, l, 1, a, x)
	many(t, l, 1)
	asks(t, l, ask{2, a, s, api.ErrWait})

	l = after(t, ask{1, a, s, api.OK}, ask{2, a, x, api.ErrWait}, ask{3, a, s, api.ErrWait}, ask{1, a, x, api.OK}) // also where others stand in the line
	holds(t, l, 1, a, x)
	line(t, l, a, 2, 3)
	whom(t, l, 2, 1)
	whom(t, l, 3, 1, 2)
	many(t, l, 3)

	l = after(t, ask{1, a, s, api.OK}, ask{2, a, s, api.OK}, ask{3, a, x, api.ErrWait}, ask{4, a, s, api.ErrWait}, ask{1, a, x, api.ErrWait})
	line(t, l, a, 1, 3, 4) // ahead of all that don't
	holds(t, l, 1, a, s)
	waits(t, l, 1, a, x)
	whom(t, l, 1, 2)
	whom(t, l, 3, 1, 2)
	whom(t, l, 4, 1, 3)
	many(t, l, 5)
	asks(t, l, ask{5, a, x, api.ErrWait}, ask{6, a, s, api.ErrWait})
	line(t, l, a, 1, 3, 4, 5, 6)
}

func TestAskStands(t *testing.T) {
	l := after(t, ask{1, a, s, api.OK}, ask{2, a, s, api.OK}, ask{3, b, x, api.OK}, ask{3, a, x, api.ErrWait}, ask{1, a, x, api.ErrWait}, ask{4, a, s, api.ErrWait})
	refused(t, l,
		ask{3, a, x, api.ErrWait}, ask{1, a, x, api.ErrWait}, ask{4, a, s, api.ErrWait}, // just that again
		ask{3, a, s, api.ErrState}, ask{4, a, x, api.ErrState}, // in another mode
		ask{3, c, x, api.ErrState}, ask{4, c, s, api.ErrState}, // another key, though it is free
		ask{3, b, x, api.ErrState}, ask{3, b, s, api.ErrState}, // also one that it holds
		ask{1, a, s, api.ErrState},                             // also the one that it waits for, as it holds it
		ask{4, b, s, api.ErrState}, ask{1, b, x, api.ErrState}) // also where that would be a deadlock
	line(t, l, a, 1, 3, 4)
}

func TestAskDeadlock(t *testing.T) {
	for _, r := range []run{
		{"both upgrade", []ask{{1, a, s, api.OK}, {2, a, s, api.OK}, {1, a, x, api.ErrWait}}, ask{2, a, x, api.ErrLock}},
		{"two keys, in X", []ask{{1, a, x, api.OK}, {2, b, x, api.OK}, {1, b, x, api.ErrWait}}, ask{2, a, x, api.ErrLock}},
		{"two keys, in S", []ask{{1, a, s, api.OK}, {2, b, s, api.OK}, {1, b, x, api.ErrWait}}, ask{2, a, x, api.ErrLock}},
		{"through a third one", []ask{{1, a, x, api.OK}, {2, b, x, api.OK}, {3, c, x, api.OK}, {1, b, s, api.ErrWait}, {2, c, s, api.ErrWait}}, ask{3, a, s, api.ErrLock}},
		{"through one of several holders", []ask{{1, a, s, api.OK}, {2, a, s, api.OK}, {3, a, s, api.OK}, {4, b, x, api.OK}, {2, b, s, api.ErrWait}}, ask{4, a, x, api.ErrLock}},
		{"through the last one of a line", []ask{{1, a, x, api.OK}, {2, b, x, api.OK}, {3, a, s, api.ErrWait}, {4, a, x, api.ErrWait}, {2, a, s, api.ErrWait}}, ask{1, b, s, api.ErrLock}},
		{"through who stands ahead", []ask{{1, a, s, api.OK}, {2, b, x, api.OK}, {3, a, x, api.ErrWait}, {1, b, s, api.ErrWait}}, ask{2, a, s, api.ErrLock}},
		{"through who stands ahead, twice", []ask{{1, a, s, api.OK}, {2, b, s, api.OK}, {3, a, x, api.ErrWait}, {4, b, x, api.ErrWait}, {1, b, s, api.ErrWait}}, ask{2, a, s, api.ErrLock}},
		{"by upgrading, through another key", []ask{{1, a, s, api.OK}, {2, a, s, api.OK}, {1, b, x, api.OK}, {2, b, s, api.ErrWait}}, ask{1, a, x, api.ErrLock}},
		{"for who upgrades", []ask{{1, a, s, api.OK}, {2, a, s, api.OK}, {2, b, x, api.OK}, {1, a, x, api.ErrWait}}, ask{2, a, x, api.ErrLock}},
		{"for who waits for one that upgrades", []ask{{1, a, s, api.OK}, {2, a, s, api.OK}, {3, b, x, api.OK}, {1, a, x, api.ErrWait}, {3, a, s, api.ErrWait}}, ask{2, b, x, api.ErrLock}},
	} {
		l := lock.New()
		asks(t, l, r.asks...)
		refused(t, l, r.then)
		refused(t, l, r.then) // it is as it was, so it is again
		waits(t, l, r.then.owner, api.LockKey{}, 0)
		asks(t, l, ask{r.then.owner, d, x, api.OK}) // it stands in no line
		if t.Failed() {
			t.Fatal(r.name)
		}
	}
}

func TestAskNoDeadlock(t *testing.T) {
	for _, r := range []run{
		{"for one that waits", []ask{{1, a, x, api.OK}, {2, b, x, api.OK}, {2, a, s, api.ErrWait}}, ask{3, b, s, api.ErrWait}},
		{"for one that is waited for", []ask{{1, a, x, api.OK}, {1, b, x, api.OK}, {2, a, s, api.ErrWait}}, ask{3, b, s, api.ErrWait}},
		{"while it is waited for", []ask{{1, a, x, api.OK}, {2, b, x, api.OK}, {3, a, s, api.ErrWait}}, ask{1, b, s, api.ErrWait}},
		{"while it is waited for, for one that waits", []ask{{1, a, x, api.OK}, {2, b, x, api.OK}, {4, c, x, api.OK}, {3, a, s, api.ErrWait}, {2, c, s, api.ErrWait}}, ask{1, b, s, api.ErrWait}},
		{"behind those who wait for it for another key", []ask{{1, a, x, api.OK}, {2, b, x, api.OK}, {3, b, s, api.ErrWait}, {4, a, s, api.ErrWait}}, ask{1, b, s, api.ErrWait}},
		{"for two that wait for one", []ask{{1, a, x, api.OK}, {2, b, s, api.OK}, {3, b, s, api.OK}, {2, a, s, api.ErrWait}, {3, a, x, api.ErrWait}, {4, c, x, api.OK}, {5, c, x, api.ErrWait}}, ask{4, b, x, api.ErrWait}},
		{"as it is held so", []ask{{1, a, s, api.OK}, {2, b, s, api.OK}, {1, b, s, api.OK}}, ask{2, a, s, api.OK}},
		{"as it may have it", []ask{{1, a, s, api.OK}, {2, b, s, api.OK}, {2, a, x, api.ErrWait}}, ask{1, b, s, api.OK}},
		{"as it upgrades at once", []ask{{1, a, s, api.OK}, {2, a, x, api.ErrWait}}, ask{1, a, x, api.OK}},
		{"as it upgrades, and waits", []ask{{1, a, s, api.OK}, {2, a, s, api.OK}, {3, a, x, api.ErrWait}}, ask{1, a, x, api.ErrWait}},
	} {
		l := lock.New()
		asks(t, l, append(r.asks, r.then)...)
		if t.Failed() {
			t.Fatal(r.name)
		}
	}
}

func TestAskAgainBehindADeadlock(t *testing.T) {
	l := after(t, ask{1, a, x, api.OK}, ask{2, b, x, api.OK}, ask{1, b, s, api.ErrWait}, ask{2, a, s, api.ErrLock})
	frees(t, l, 2, 1)
	asks(t, l, ask{2, a, s, api.ErrWait})
	frees(t, l, 1, 2)
	holds(t, l, 2, a, s)
	holds(t, l, 2, b, 0)
}

// TestAskThroughMany lets each of many wait for the next one: either end first.
func TestAskThroughMany(t *testing.T) {
	const n = 3000
	key := func(i int) api.LockKey { return api.LockKey{Kind: 1, Number: i} }
	for _, up := range []bool{true, false} {
		l := lock.New()
		for i := range n {
			l.Ask(uint64(i), key(i), x)
		}
		for j := range n - 1 {
			i := j
			if !up {
				i = n - 2 - j
			}
			if e := l.Ask(uint64(i), key(i+1), s); e != api.ErrWait {
				t.Fatal(i, e)
			}
		}
		asks(t, l, ask{n - 1, key(0), s, api.ErrLock}, ask{n - 1, key(n / 2), s, api.ErrLock}, ask{n - 1, key(n), s, api.OK})
		many(t, l, 2*n)
		frees(t, l, n-1, n-2)
		asks(t, l, ask{n - 1, key(0), s, api.ErrWait}, ask{n - 2, key(0), s, api.ErrLock})
	}
}

func TestFree(t *testing.T) {
	l := after(t, ask{1, a, x, api.OK}, ask{2, a, s, api.ErrWait}, ask{3, a, s, api.ErrWait}, ask{4, a, x, api.ErrWait}, ask{5, a, s, api.ErrWait})
	frees(t, l, 9) // who has nothing
	many(t, l, 5)
	frees(t, l, 1, 2, 3) // till one may not
	holds(t, l, 1, a, 0)
	holds(t, l, 2, a, s)
	holds(t, l, 3, a, s)
	waits(t, l, 2, api.LockKey{}, 0)
	line(t, l, a, 4, 5)
	many(t, l, 4)
	frees(t, l, 1) // it has nothing any more
	frees(t, l, 2)
	line(t, l, a, 4, 5)
	frees(t, l, 3, 4)
	holds(t, l, 4, a, x)
	line(t, l, a, 5)
	frees(t, l, 4, 5)
	many(t, l, 1)
	frees(t, l, 5)
	many(t, l, 0)
	line(t, l, a)
	asks(t, l, ask{6, a, x, api.OK})
}

func TestFreeOneInX(t *testing.T) {
	l := after(t, ask{1, a, s, api.OK}, ask{2, a, x, api.ErrWait}, ask{3, a, x, api.ErrWait}, ask{4, a, s, api.ErrWait})
	frees(t, l, 1, 2)
	line(t, l, a, 3, 4)
	whom(t, l, 4, 2, 3)
	frees(t, l, 2, 3)
	frees(t, l, 3, 4)
	holds(t, l, 4, a, s)
}

func TestFreeInALine(t *testing.T) {
	stand := []ask{{1, a, s, api.OK}, {2, a, x, api.ErrWait}, {3, a, s, api.ErrWait}, {4, a, s, api.ErrWait}, {5, a, x, api.ErrWait}, {6, a, s, api.ErrWait}}
	l := after(t, stand...)
	frees(t, l, 2, 3, 4) // the first one goes: they go together with who holds it
	line(t, l, a, 5, 6)
	many(t, l, 5)
	l = after(t, stand...)
	frees(t, l, 3)
	line(t, l, a, 2, 4, 5, 6)
	frees(t, l, 6)
	line(t, l, a, 2, 4, 5)
	waits(t, l, 6, api.LockKey{}, 0)
	many(t, l, 4)
	frees(t, l, 2, 4)
	frees(t, l, 5)
	line(t, l, a)
}

func TestFreeUpgrade(t *testing.T) {
	stand := []ask{{1, a, s, api.OK}, {2, a, s, api.OK}, {3, a, s, api.OK}, {4, a, x, api.ErrWait}, {5, a, s, api.ErrWait}, {1, a, x, api.ErrWait}}
	l := after(t, stand...)
	frees(t, l, 2)
	holds(t, l, 1, a, s)
	frees(t, l, 3, 1) // nobody else holds it
	holds(t, l, 1, a, x)
	waits(t, l, 1, api.LockKey{}, 0)
	line(t, l, a, 4, 5)
	many(t, l, 3)
	holding(t, l, 1, has{a, x})
	frees(t, l, 1, 4)
	l = after(t, stand...)
	frees(t, l, 1) // neither holds it nor stands there
	holds(t, l, 1, a, 0)
	waits(t, l, 1, api.LockKey{}, 0)
	line(t, l, a, 4, 5)
	many(t, l, 4)
	frees(t, l, 3)
	frees(t, l, 2, 4)
	frees(t, l, 4, 5)
	l = after(t, ask{1, a, s, api.OK}, ask{2, a, s, api.OK}, ask{3, a, s, api.OK}, ask{1, a, x, api.ErrWait}, ask{4, a, s, api.ErrWait}, ask{5, a, s, api.ErrWait})
	frees(t, l, 1, 4, 5) // they stood behind one that upgrades
	many(t, l, 4)
}

func TestFreeKeyByKey(t *testing.T) {
	at := func(kind, number int) api.LockKey { return api.LockKey{Kind: kind, Number: number} }
	keys := []api.LockKey{at(2, -5), at(-1, 7), at(1, 300), at(math.MaxInt, 0), at(1, -300), at(math.MinInt, math.MaxInt), at(1, 2), at(-1, math.MinInt), at(0, 0), at(2, math.MaxInt)}
	want := []uint64{5, 7, 1, 8, 4, 6, 2, 0, 9, 3}
	l := lock.New()
	for i, k := range keys {
		asks(t, l, ask{100, k, x, api.OK}, ask{uint64(i), k, s, api.ErrWait}, ask{uint64(50 + i), k, s, api.ErrWait})
	}
	var order []has
	var both []uint64
	for _, i := range want {
		order = append(order, has{keys[i], x})
		both = append(both, i, 50+i)
	}
	holding(t, l, 100, order...)
	frees(t, l, 100, both...)
	many(t, l, 20)
}

// TestFreeWhereItStood lets go one that holds keys, and stands in the line of another one, which comes first, between, or last.
func TestFreeWhereItStood(t *testing.T) {
	for i, at := range []api.LockKey{a, b, c} {
		l := after(t, ask{9, at, s, api.OK})
		var want []uint64
		for j, k := range []api.LockKey{a, b, c} {
			if j != i {
				asks(t, l, ask{1, k, x, api.OK}, ask{uint64(10 + j), k, s, api.ErrWait})
			}
			want = append(want, uint64(10+j))
		}
		asks(t, l, ask{1, at, x, api.ErrWait}, ask{uint64(10 + i), at, s, api.ErrWait})
		many(t, l, 7)
		frees(t, l, 1, want...)
		many(t, l, 4)
		holds(t, l, 9, at, s)
		holding(t, l, 1)
		waits(t, l, 1, api.LockKey{}, 0)
	}
}

func TestFor(t *testing.T) {
	l := after(t, ask{8, a, s, api.OK}, ask{3, a, s, api.OK}, ask{5, a, s, api.OK}, ask{7, a, x, api.ErrWait}, ask{2, a, s, api.ErrWait}, ask{1, a, s, api.ErrWait}, ask{6, a, x, api.ErrWait}, ask{4, a, s, api.ErrWait})
	whom(t, l, 8) // it stands in no line
	whom(t, l, 7, 3, 5, 8)
	whom(t, l, 2, 7)
	whom(t, l, 1, 7) // S goes together with S: also of one ahead
	whom(t, l, 6, 1, 2, 3, 5, 7, 8)
	whom(t, l, 4, 6, 7)
	asks(t, l, ask{5, a, x, api.ErrWait})
	whom(t, l, 5, 3, 8)    // not for itself
	whom(t, l, 7, 3, 5, 8) // 5 holds it, and stands ahead: once
	whom(t, l, 2, 5, 7)    // 5 holds it in S, and stands ahead in X
	frees(t, l, 3)
	frees(t, l, 8, 5)
	whom(t, l, 5)
	whom(t, l, 7, 5)
	whom(t, l, 2, 5, 7) // X goes together with none
	got := l.For(6)
	got[0] = 99
	whom(t, l, 6, 1, 2, 5, 7)
}

func TestLine(t *testing.T) {
	l := after(t, ask{1, a, x, api.OK}, ask{9, a, s, api.ErrWait}, ask{3, a, x, api.ErrWait}, ask{5, a, s, api.ErrWait}, ask{1, b, x, api.OK}, ask{4, b, s, api.ErrWait})
	line(t, l, a, 9, 3, 5) // in the order in which they came
	line(t, l, b, 4)
	line(t, l, c)
	got := l.Line(a)
	got[0], got[1] = 7, 7
	line(t, l, a, 9, 3, 5)
	_ = append(got[:1], 6, 6, 6)
	line(t, l, a, 9, 3, 5)
	woken := l.Free(1)
	if !slices.Equal(woken, []uint64{9, 4}) {
		t.Error("Free", woken)
	}
	woken[0] = 3
	line(t, l, a, 3, 5)
	holds(t, l, 9, a, s)
}

func TestWaits(t *testing.T) {
	l := after(t, ask{1, a, x, api.OK}, ask{2, a, s, api.ErrWait}, ask{3, a, x, api.ErrWait}, ask{1, b, s, api.OK}, ask{4, b, s, api.OK}, ask{4, b, x, api.ErrWait})
	waits(t, l, 1, api.LockKey{}, 0)
	waits(t, l, 2, a, s)
	waits(t, l, 3, a, x)
	waits(t, l, 4, b, x)
	holds(t, l, 4, b, s)
	waits(t, l, 5, api.LockKey{}, 0)
	frees(t, l, 1, 2, 4)
	for o := range uint64(6) {
		if o != 3 {
			waits(t, l, o, api.LockKey{}, 0)
		}
	}
	waits(t, l, 3, a, x)
}

func TestHeld(t *testing.T) {
	l := after(t, ask{1, d, s, api.OK}, ask{1, b, x, api.OK}, ask{1, c, s, api.OK}, ask{1, a, s, api.OK}, ask{2, a, s, api.OK}, ask{2, b, s, api.ErrWait})
	all := []has{{a, s}, {b, x}, {c, s}, {d, s}}
	holding(t, l, 1, all...)
	holding(t, l, 2, has{a, s}) // what it waits for it does not hold
	holding(t, l, 3)
	for n := range 5 { // it is left at any time
		var got []has
		for k, m := range l.Held(1) {
			if len(got) == n {
				break
			}
			got = append(got, has{k, m})
		}
		if !slices.Equal(got, all[:n]) {
			t.Error(n, got)
		}
	}
	walk := l.Held(1)
	for range 3 { // it is gone through again, and again while it is gone through
		var n int
		for range walk {
			for range walk {
				n++
			}
		}
		if n != 16 {
			t.Error("gone through", n)
		}
	}
}

// TestHeldAsItWas changes what is held while it is gone over, and behind the call.
func TestHeldAsItWas(t *testing.T) {
	l := after(t, ask{1, a, s, api.OK}, ask{1, c, s, api.OK})
	gone := func(walk func(func(api.LockKey, api.LockMode) bool), each func()) []has {
		var got []has
		for k, m := range walk {
			got = append(got, has{k, m})
			each()
		}
		return got
	}
	walk := l.Held(1)
	was := []has{{a, s}, {c, s}}
	got := gone(walk, func() { l.Ask(1, b, x); l.Ask(1, c, x) })
	if !slices.Equal(got, was) {
		t.Error("while it is gone over", got)
	}
	holding(t, l, 1, has{a, s}, has{b, x}, has{c, x})
	if got := gone(l.Held(1), func() { l.Free(1) }); !slices.Equal(got, []has{{a, s}, {b, x}, {c, x}}) {
		t.Error("while it is let go", got)
	}
	holding(t, l, 1)
	if got := gone(walk, func() {}); !slices.Equal(got, was) {
		t.Error("behind it", got)
	}
}

func TestCopy(t *testing.T) {
	l := after(t, ask{1, a, s, api.OK}, ask{2, a, s, api.OK}, ask{3, a, x, api.ErrWait}, ask{4, a, s, api.ErrWait}, ask{1, b, x, api.OK}, ask{5, b, x, api.ErrWait}, ask{2, a, x, api.ErrWait})
	was := picture(l)
	o := l.Copy()
	if o == nil || o == l {
		t.Fatal("no other table")
	}
	if now := picture(o); now != was {
		t.Errorf("the copy of\n%sis\n%s", was, now)
	}
	frees(t, o, 1, 2, 5)
	asks(t, o, ask{6, a, x, api.ErrWait}, ask{5, c, x, api.OK}, ask{2, d, s, api.OK}, ask{5, a, s, api.ErrWait})
	frees(t, o, 3)
	if now := picture(l); now != was {
		t.Errorf("what the copy did changed\n%sto\n%s", was, now)
	}
	changed := picture(o)
	frees(t, l, 3)
	asks(t, l, ask{1, d, x, api.OK}, ask{7, b, s, api.ErrWait}, ask{5, b, x, api.ErrWait})
	frees(t, l, 2, 4)
	frees(t, l, 1, 5)
	if now := picture(o); now != changed {
		t.Errorf("what the first one did changed\n%sto\n%s", changed, now)
	}
	many(t, lock.New().Copy(), 0)
	asks(t, lock.New().Copy(), ask{1, a, x, api.OK})
}

// full is a table with as many locks as may be: the owner 1 has all keys of the kind 1 but two, in S; 2 has d in S, and 3 waits for it in X.
func full(t *testing.T) *lock.Table {
	t.Helper()
	l := after(t, ask{2, d, s, api.OK}, ask{3, d, x, api.ErrWait})
	for i := range api.MaxLocks - 2 {
		if e := l.Ask(1, api.LockKey{Kind: 1, Number: i}, s); e != api.OK {
			t.Fatal(i, e)
		}
	}
	many(t, l, api.MaxLocks)
	return l
}

func TestFull(t *testing.T) {
	l := full(t)
	last := api.LockKey{Kind: 1, Number: api.MaxLocks - 3}
	asks(t, l,
		ask{1, last, s, api.OK}, ask{2, d, s, api.OK}, // what it has
		ask{3, d, x, api.ErrWait}, ask{3, d, s, api.ErrState}, ask{3, c, s, api.ErrState}, // what it waits for
		ask{1, a, 3, api.ErrArg},
		ask{4, c, x, api.ErrFull}, ask{1, c, s, api.ErrFull}, ask{4, last, s, api.ErrFull}, // what it may have
		ask{4, last, x, api.ErrFull}, ask{4, d, s, api.ErrFull}) // what it would wait for
	many(t, l, api.MaxLocks)
	holds(t, l, 4, c, 0)
	waits(t, l, 4, api.LockKey{}, 0)
	line(t, l, last)
	line(t, l, d, 3)
	frees(t, l, 4)
	frees(t, l, 3) // one that waited makes room for one
	many(t, l, api.MaxLocks-1)
	asks(t, l, ask{4, last, s, api.OK}, ask{4, c, s, api.ErrFull}, ask{4, last, x, api.ErrFull})
	many(t, l, api.MaxLocks)
	holds(t, l, 4, last, s)
	frees(t, l, 1)
	many(t, l, 2)
	asks(t, l, ask{4, last, x, api.OK}, ask{5, last, x, api.ErrWait})
}

// TestFullAheadOfDeadlock holds the order of the two: where both could be told, it is ErrFull.
func TestFullAheadOfDeadlock(t *testing.T) {
	l := full(t)
	frees(t, l, 3)
	asks(t, l, ask{2, api.LockKey{Kind: 1, Number: 5}, x, api.ErrWait}) // for 1
	asks(t, l, ask{1, d, x, api.ErrFull})
	many(t, l, api.MaxLocks)
	o := after(t, ask{2, d, s, api.OK}, ask{1, a, s, api.OK}, ask{2, a, x, api.ErrWait})
	asks(t, o, ask{1, d, x, api.ErrLock})
}

// TestManyOfOneKey has one key held by many, and waited for by as many.
func TestManyOfOneKey(t *testing.T) {
	const half = 2000
	l := lock.New()
	for i := range uint64(half) {
		if e := l.Ask(i, a, s); e != api.OK {
			t.Fatal(i, e)
		}
	}
	for i := range uint64(half) {
		if e := l.Ask(half+i, a, x); e != api.ErrWait {
			t.Fatal(i, e)
		}
	}
	many(t, l, 2*half)
	if got := l.For(2*half - 1); len(got) != 2*half-1 || !slices.IsSorted(got) {
		t.Error("For", len(got))
	}
	for i := range uint64(half - 1) {
		frees(t, l, i)
	}
	for i := range uint64(half) {
		frees(t, l, half-1+i, half+i)
	}
	many(t, l, 1)
}
