package record_test

import (
	"bytes"
	"encoding/binary"
	"hash/crc32"
	"math"
	"math/rand"
	"slices"
	"testing"

	"hornbook/api"
	"hornbook/record"
)

// places are places of the log, near and far.
var places = []uint64{0, 1, 5, 231, 232, 35, 1 << 32, 1<<62 + 3, 1 << 63, math.MaxUint64 - 34, math.MaxUint64}

// raw are bytes with a right length and sum at a place, whatever the body is: by another way than the program's.
func raw(at uint64, body []byte) []byte {
	size := binary.LittleEndian.AppendUint16(nil, uint16(len(body)))
	return sealed(at, size, body)
}

// sealed are bytes of any length word, with a right sum of it and the body.
func sealed(at uint64, size, body []byte) []byte {
	text := slices.Concat(binary.LittleEndian.AppendUint64(nil, at), size, body)
	sum := crc32.Checksum(text, crc32.MakeTable(crc32.Castagnoli))
	return slices.Concat(size, binary.LittleEndian.AppendUint32(nil, sum), body)
}

// body is a record's body as the document lays it, whether the record may be or not; so many bytes it says After has.
func body(r api.Record, many int) []byte {
	b := []byte{byte(r.Kind)}
	b = binary.LittleEndian.AppendUint64(b, r.Txn)
	b = binary.LittleEndian.AppendUint64(b, r.Prev)
	b = binary.LittleEndian.AppendUint64(b, r.Next)
	b = binary.LittleEndian.AppendUint16(b, uint16(r.Page))
	b = append(b, byte(r.Off), byte(many))
	return slices.Concat(b, r.Before, r.After)
}

// laid are a record's bytes as the document lays them.
func laid(r api.Record, at uint64) []byte { return raw(at, body(r, len(r.After))) }

// some is so many bytes of which no two neighbours are the same.
func some(n, seed int) []byte {
	b := make([]byte, n)
	for i := range b {
		b[i] = byte(37*i + 11*seed + 5)
	}
	return b
}

// within is b, with other bytes ahead of and behind it in the same memory.
func within(b []byte) []byte {
	m := bytes.Repeat([]byte{0xee}, len(b)+32)
	copy(m[16:], b)
	return m[16 : 16+len(b)]
}

// clone is a record whose lists are memory of its own.
func clone(r api.Record) api.Record {
	r.Before, r.After = bytes.Clone(r.Before), bytes.Clone(r.After)
	return r
}

// same is Same by another way than the program's.
func same(a, b api.Record) bool {
	return bytes.Equal(a.Before, b.Before) && bytes.Equal(a.After, b.After) &&
		a.Kind == b.Kind && a.Txn == b.Txn && a.Prev == b.Prev && a.Next == b.Next && a.Page == b.Page && a.Off == b.Off
}

// zero: is nothing told?
func zero(r api.Record) bool { return same(r, api.Record{}) }

func update(txn, prev uint64, page, off int, before, after []byte) api.Record {
	return api.Record{Kind: api.RecUpdate, Txn: txn, Prev: prev, Page: page, Off: off, Before: before, After: after}
}

func back(txn, prev, next uint64, page, off int, after []byte) api.Record {
	return api.Record{Kind: api.RecBack, Txn: txn, Prev: prev, Next: next, Page: page, Off: off, After: after}
}

func commit(txn, prev uint64) api.Record {
	return api.Record{Kind: api.RecCommit, Txn: txn, Prev: prev}
}

func end(txn, prev uint64) api.Record { return api.Record{Kind: api.RecEnd, Txn: txn, Prev: prev} }

// good are records that may be, with the edges of what each part may be.
func good() []api.Record {
	var l []api.Record
	words := []uint64{0, 1, 255, 256, 1 << 31, 1 << 32, 1<<63 - 1, 1 << 63, math.MaxUint64}
	for i, w := range words {
		v := words[(i*5+2)%len(words)]
		txn := max(w, 1)
		l = append(l, commit(txn, v), end(txn, v),
			update(txn, v, 7, 3, []byte{1}, []byte{2}),
			back(txn, v, words[(i*7+3)%len(words)], 7, 3, []byte{2}))
	}
	for _, n := range []int{1, 2, 3, 4, 7, 8, 31, 100, 246, 247, 248} {
		for _, off := range []int{0, 1, 247 - n, 248 - n} {
			if off < 0 || off+n > 248 {
				continue
			}
			for _, page := range []int{0, 1, 255, 256, 2048, 4094, 4095} {
				l = append(l, update(9, 77, page, off, some(n, off), some(n, page+1)), back(9, 88, 77, page, off, some(n, page)))
			}
		}
	}
	l = append(l, update(1, 0, 0, 0, make([]byte, 248), make([]byte, 248)), back(1, 0, 0, 0, 0, make([]byte, 248)))
	l = append(l, update(1, 2, 3, 4, []byte{5}, []byte{5})) // one that changes nothing may be, too
	return l
}

// badChanges are changes of a page that may not be: updates, and the same as what changes back.
func badChanges() []api.Record {
	var l []api.Record
	both := func(page, off int, before, after []byte) {
		l = append(l, update(9, 77, page, off, before, after), back(9, 88, 77, page, off, after))
	}
	for _, page := range []int{-1, -4096, 4096, 4097, 8192, 65535, 65536, 65537, 1 << 32, math.MinInt, math.MaxInt} {
		both(page, 3, []byte{1}, []byte{2})
	}
	for _, off := range []int{-1, -248, -256, 248, 249, 255, 256, 259, 1 << 32, math.MinInt, math.MinInt + 1, math.MaxInt, math.MaxInt - 247} {
		both(5, off, []byte{1}, []byte{2})
	}
	for _, n := range []int{1, 2, 8, 247, 248} {
		both(5, 249-n, some(n, 1), some(n, 2))
		both(5, 250-n, some(n, 1), some(n, 2))
	}
	for _, n := range []int{0, 249, 250, 255, 256, 257, 504, 1000, 70000} {
		both(5, 0, some(n, 1), some(n, 2))
	}
	both(5, 0, []byte{}, []byte{})
	for _, n := range []int{0, 1, 3, 5, 248, 256 + 4} { // not as many
		l = append(l, update(9, 77, 5, 0, some(n, 1), some(4, 2)), update(9, 77, 5, 0, some(4, 2), some(n, 1)))
	}
	for _, n := range []int{1, 4, 5} { // what changes back has no Before
		r := back(9, 88, 77, 5, 0, some(4, 1))
		r.Before = some(n, 2)
		l = append(l, r)
	}
	return l
}

// bad are records that may not be.
func bad() []api.Record {
	l := append(badChanges(), api.Record{}, api.Record{Txn: 1}, api.Record{Txn: 1, Prev: 5})
	for _, r := range []api.Record{commit(9, 77), end(9, 77), update(9, 77, 5, 3, []byte{1}, []byte{2}), back(9, 88, 77, 5, 3, []byte{2})} {
		none := r
		none.Txn = 0
		l = append(l, none)
		for _, k := range []api.RecKind{0, -1, 5, 6, 7, 8, 128, 255, 256, 257, 258, 259, 260, 1 << 32, 1<<32 + 3, math.MinInt, math.MaxInt} {
			r.Kind = k
			l = append(l, r)
		}
	}
	for _, r := range []api.Record{commit(9, 77), end(9, 77)} { // what is not named
		for _, change := range []func(*api.Record){
			func(r *api.Record) { r.Next = 1 },
			func(r *api.Record) { r.Next = math.MaxUint64 },
			func(r *api.Record) { r.Page = 1 },
			func(r *api.Record) { r.Page = -1 },
			func(r *api.Record) { r.Page = 65536 },
			func(r *api.Record) { r.Off = 1 },
			func(r *api.Record) { r.Off = -1 },
			func(r *api.Record) { r.Off = 256 },
			func(r *api.Record) { r.Before = []byte{0} },
			func(r *api.Record) { r.After = []byte{0} },
			func(r *api.Record) { r.Before, r.After = []byte{1}, []byte{2} },
		} {
			x := r
			change(&x)
			l = append(l, x)
		}
	}
	for _, next := range []uint64{1, 77, 1 << 63, math.MaxUint64} { // an update names no Next
		r := update(9, 77, 5, 3, []byte{1}, []byte{2})
		r.Next = next
		l = append(l, r)
	}
	return l
}

// reads asks Of for a record of so many bytes.
func reads(t *testing.T, b []byte, at uint64, r api.Record, n int) {
	t.Helper()
	if got, m, e := record.Of(b, at); e != api.OK || m != n || !same(got, r) {
		t.Error("Of", at, "answered", got, m, e, "wanted", r, n)
	}
}

// refuses asks Of for a record that isn't there.
func refuses(t *testing.T, b []byte, at uint64) {
	t.Helper()
	if r, n, e := record.Of(b, at); e != api.ErrBytes || n != 0 || !zero(r) {
		t.Error("Of", b, at, "answered", r, n, e)
	}
}

func TestExamples(t *testing.T) {
	c, u := commit(1, 0), update(1, 0, 0, 3, []byte{1}, []byte{2})
	if n := record.Size(c); n != 35 {
		t.Error("of a commit", n)
	}
	if n := record.Size(u); n != 37 {
		t.Error("of an update of a byte", n)
	}
	for _, r := range []api.Record{c, u} {
		b, e := record.Bytes(r, 5)
		if e != api.OK {
			t.Fatal(r, e)
		}
		reads(t, b, 5, r, len(b))
		refuses(t, b, 6)
	}
	p, ok := record.Redo(u, api.Page{})
	if want := (api.Page{3: 2}); !ok || p != want {
		t.Error(p, ok)
	}
}

// P5.1: May and Size, of what may be
func TestMay(t *testing.T) {
	most := 0
	for _, r := range good() {
		n := 35 + len(r.Before) + len(r.After)
		if !record.May(r) || record.Size(r) != n {
			t.Error(r, record.Size(r))
		}
		most = max(most, n)
		r.Before, r.After = append([]byte{}, r.Before...), append([]byte{}, r.After...) // an empty list is as none
		if !record.May(r) || record.Size(r) != n {
			t.Error("of empty lists", r, record.Size(r))
		}
	}
	if most != api.MaxRecord {
		t.Error("the greatest", most)
	}
}

// P5.1: each place within a page, with each number of bytes
func TestMayWhere(t *testing.T) {
	list := some(260, 1)
	for off := -2; off <= 260; off++ {
		for n := range 260 {
			should := off >= 0 && n >= 1 && off+n <= 248
			if record.May(update(1, 0, 0, off, list[:n], list[:n])) != should || record.May(back(1, 0, 0, 0, off, list[:n])) != should {
				t.Fatal(off, n)
			}
		}
	}
}

// P5.1: what may not be has no size and no bytes
func TestMayNot(t *testing.T) {
	for _, r := range bad() {
		if record.May(r) || record.Size(r) != 0 {
			t.Error(r, record.Size(r))
		}
		for _, at := range places {
			if b, e := record.Bytes(r, at); e != api.ErrArg || len(b) != 0 {
				t.Error(r, at, b, e)
			}
		}
	}
}

// P5.1: Bytes, one by one
func TestBytes(t *testing.T) {
	u := update(0x0102030405060708, 0x1112131415161718, 0x0a0b, 0x2c, []byte{61, 62}, []byte{71, 72})
	want := []byte{33, 0, 0, 0, 0, 0, 1,
		8, 7, 6, 5, 4, 3, 2, 1, 0x18, 0x17, 0x16, 0x15, 0x14, 0x13, 0x12, 0x11, 0, 0, 0, 0, 0, 0, 0, 0,
		0x0b, 0x0a, 0x2c, 2, 61, 62, 71, 72}
	at := uint64(0x8070605040302010)
	summed := slices.Concat([]byte{0x10, 0x20, 0x30, 0x40, 0x50, 0x60, 0x70, 0x80, 33, 0}, want[6:])
	binary.LittleEndian.PutUint32(want[2:], crc32.Checksum(summed, crc32.MakeTable(crc32.Castagnoli)))
	if b, e := record.Bytes(u, at); e != api.OK || !bytes.Equal(b, want) {
		t.Error(b, e, want)
	}
	for _, r := range good() {
		for _, at := range places {
			if b, e := record.Bytes(r, at); e != api.OK || len(b) != record.Size(r) || !bytes.Equal(b, laid(r, at)) {
				t.Fatal(r, at, b, e)
			}
		}
	}
}

// P5.2, P5.4: Of of Bytes, with anything behind them
func TestOf(t *testing.T) {
	for _, r := range good() {
		for _, at := range places {
			b := laid(r, at)
			reads(t, b, at, r, len(b))
			reads(t, within(b), at, r, len(b))
			reads(t, slices.Concat(b, []byte{0}), at, r, len(b))
			reads(t, slices.Concat(b, some(600, 3)), at, r, len(b))
			reads(t, slices.Concat(b, b), at, r, len(b))
		}
	}
}

// P5.4: at another place it is none
func TestOfElsewhere(t *testing.T) {
	for _, r := range good() {
		for _, at := range places {
			b := laid(r, at)
			for bit := range 32 { // places that differ within 32 bits have unlike sums
				refuses(t, b, at^1<<bit)
				refuses(t, b, at^1<<(bit+32))
			}
		}
	}
}

// P5.2: what ends ahead of its end is none
func TestOfShort(t *testing.T) {
	for _, r := range []api.Record{commit(9, 77), end(9, 77), update(9, 77, 5, 3, some(9, 1), some(9, 2)), back(9, 88, 77, 5, 3, some(20, 1)), update(1, 2, 4095, 0, some(248, 1), some(248, 2))} {
		b := laid(r, 5)
		for n := range b {
			refuses(t, b[:n:n], 5)
			refuses(t, b[:n], 5) // what lies behind in the same memory is not looked at
		}
	}
	refuses(t, nil, 0)
	refuses(t, []byte{}, 0)
}

// P5.4: each bit turned
func TestTurned(t *testing.T) {
	for _, r := range []api.Record{commit(9, 77), end(9, 77), commit(1, 0), end(math.MaxUint64, math.MaxUint64), update(9, 77, 5, 3, []byte{1}, []byte{2}), update(9, 77, 5, 3, some(9, 1), some(9, 2)), back(9, 88, 77, 5, 3, some(20, 1)), update(1, 2, 4095, 0, some(248, 1), some(248, 2)), back(1, 2, 3, 0, 0, make([]byte, 248))} {
		b := slices.Concat(laid(r, 5), some(1000, 7))
		for bit := range 8 * record.Size(r) {
			b[bit/8] ^= 1 << (bit % 8)
			refuses(t, b, 5)
			refuses(t, b[:record.Size(r)], 5)
			b[bit/8] ^= 1 << (bit % 8)
		}
		reads(t, b, 5, r, record.Size(r))
	}
}

// P5.2: bodies that are no record's, though length and sum be right
func TestOfRefuses(t *testing.T) {
	for _, r := range bad() {
		low := r
		low.Kind, low.Page, low.Off = api.RecKind(uint8(r.Kind)), int(uint16(r.Page)), int(uint8(r.Off))
		if record.May(low) || len(r.After) > 60000 { // what its body holds of it is a record's, or it is too long for one
			continue
		}
		refuses(t, slices.Concat(laid(low, 5), some(600, 1)), 5)
	}
	u, k, c := update(9, 77, 5, 3, some(4, 1), some(4, 2)), back(9, 88, 77, 5, 3, some(8, 1)), commit(9, 77)
	for _, r := range []api.Record{u, k, c, end(9, 77)} {
		for many := range 256 { // any other number of bytes
			if b := raw(5, body(r, many)); many != len(r.After) {
				refuses(t, b, 5)
				refuses(t, slices.Concat(b, some(600, 1)), 5)
			}
		}
		whole := body(r, len(r.After))
		for n := range whole { // a body that ends within itself
			refuses(t, slices.Concat(raw(5, whole[:n]), whole[n:]), 5)
		}
		for _, more := range []int{1, 2, 4, 8, 100, 1000} { // and one that goes on
			refuses(t, raw(5, slices.Concat(whole, some(more, 1))), 5)
			refuses(t, raw(5, slices.Concat(whole, make([]byte, more))), 5)
		}
		for kind := range 256 { // that of another kind
			x := r
			x.Kind = api.RecKind(kind)
			if !record.May(x) {
				refuses(t, laid(x, 5), 5)
			}
		}
	}
}

// P5.2: lengths that are not the body's, though the sum be right of them
func TestOfLengths(t *testing.T) {
	for _, r := range []api.Record{commit(9, 77), update(9, 77, 5, 3, some(4, 1), some(4, 2)), back(9, 88, 77, 5, 3, some(8, 1))} {
		text := body(r, len(r.After))
		for _, n := range []int{0, 1, 28, 29, 30, 33, 37, 38, 45, 255, 256, 285, 293, 525, 526, 65535} {
			if n == len(text) {
				continue
			}
			size := binary.LittleEndian.AppendUint16(nil, uint16(n))
			refuses(t, sealed(5, size, text), 5)
			refuses(t, slices.Concat(sealed(5, size, text), some(600, 1)), 5)
		}
		swapped := []byte{byte(len(text) >> 8), byte(len(text))}
		refuses(t, sealed(5, swapped, text), 5)
	}
}

// P5.2: any bytes are none
func TestOfAny(t *testing.T) {
	r := rand.New(rand.NewSource(5))
	for n := range 700 {
		b := make([]byte, n)
		refuses(t, b, 0)
		for i := range b {
			b[i] = byte(r.Intn(256))
		}
		refuses(t, b, 0)
		for i := range b {
			b[i] = 255
		}
		refuses(t, b, 0)
	}
}

// row is what All is told to go over, and where each record ends.
type row struct {
	bytes []byte
	at    uint64
	recs  []api.Record
	ends  []uint64
}

// rowed are records one behind the other from a place on.
func rowed(at uint64, l ...api.Record) row {
	w := row{at: at, recs: l}
	for _, r := range l {
		w.bytes = append(w.bytes, laid(r, at)...)
		at += uint64(record.Size(r))
		w.ends = append(w.ends, at)
	}
	return w
}

// goes holds what All goes over against what it should, up to so many records; all are done when it goes on to others.
func goes(t *testing.T, w row, b []byte, upto int) {
	t.Helper()
	seq := record.All(b, w.at)
	for _, stop := range []int{upto + 1, 1, upto, upto + 1} { // left, and gone through anew
		i := 0
		for end, r := range seq {
			if i >= upto || end != w.ends[i] || !same(r, w.recs[i]) {
				t.Error(i, end, r)
				return
			}
			i++
			if i == stop {
				break
			}
		}
		if i != min(stop, upto) {
			t.Error("went over", i, "of", upto, "stopping at", stop)
		}
	}
}

// P5.2: All
func TestAll(t *testing.T) {
	u, k := update(9, 77, 5, 3, some(4, 1), some(4, 2)), back(9, 88, 77, 5, 3, some(8, 1))
	for _, at := range append([]uint64{math.MaxUint64 - 100}, places...) { // of the greatest places the next one's is the number that wraps round
		for _, l := range [][]api.Record{nil, {u}, {k}, {u, k, end(9, 3)}, {commit(1, 0), commit(1, 0), commit(1, 0), u, u, u}, good()} {
			w := rowed(at, l...)
			n := len(l)
			goes(t, w, w.bytes, n)
			goes(t, w, slices.Concat(w.bytes, make([]byte, 700)), n)
			goes(t, w, slices.Concat(w.bytes, some(700, 1)), n)
			if n > 0 { // the last one is not whole, or has a bit turned
				goes(t, w, w.bytes[:len(w.bytes)-1], n-1)
				goes(t, w, slices.Concat(w.bytes[:len(w.bytes)-1], []byte{w.bytes[len(w.bytes)-1] ^ 1}, laid(u, w.ends[n-1])), n-1)
			}
			goes(t, w, slices.Concat(w.bytes, laid(u, at+uint64(len(w.bytes))+1)), n) // one that isn't of this place
			goes(t, w, slices.Concat(w.bytes, []byte{0}, laid(u, at+uint64(len(w.bytes))+1)), n)
		}
	}
	for end, r := range record.All(nil, 7) {
		t.Error(end, r)
	}
	for end, r := range record.All(laid(u, 8), 7) {
		t.Error(end, r)
	}
}

// P5.2: All within All, and of one whose bytes are others by then
func TestAllTwice(t *testing.T) {
	w := rowed(3, commit(1, 0), update(9, 77, 5, 3, some(4, 1), some(4, 2)), end(2, 9))
	seq := record.All(w.bytes, w.at)
	n := 0
	for range seq {
		for end, r := range seq {
			if i := n % 3; end != w.ends[i] || !same(r, w.recs[i]) {
				t.Error(n, end, r)
			}
			n++
		}
	}
	if n != 9 {
		t.Error(n)
	}
	clear(w.bytes)
	n = 0
	for end, r := range seq {
		if end != w.ends[n] || !same(r, w.recs[n]) {
			t.Error("bytes of the caller's", n, end, r)
		}
		n++
	}
	if n != 3 {
		t.Error(n)
	}
}

// P5.3: Back
func TestBack(t *testing.T) {
	for _, r := range good() {
		for _, prev := range places {
			got, e := record.Back(r, prev)
			if r.Kind != api.RecUpdate {
				if e != api.ErrArg || !zero(got) {
					t.Error(r, prev, got, e)
				}
				continue
			}
			want := back(r.Txn, prev, r.Prev, r.Page, r.Off, r.Before)
			if e != api.OK || !same(got, want) || !record.May(got) {
				t.Error(r, prev, got, e)
			}
		}
	}
	for _, r := range bad() {
		if got, e := record.Back(r, 5); e != api.ErrArg || !zero(got) {
			t.Error(r, got, e)
		}
	}
}

// page is one of which no two neighbours are the same.
func page(seed int) api.Page { return api.Page(some(api.PageSize, seed)) }

// P5.3: Redo
func TestRedo(t *testing.T) {
	for k, r := range good() {
		for _, p := range []api.Page{{}, page(k)} {
			want, changes := p, r.Kind == api.RecUpdate || r.Kind == api.RecBack
			if changes {
				copy(want[r.Off:], r.After)
			}
			if got, ok := record.Redo(r, p); got != want || ok != changes {
				t.Error(r, p, got, ok)
			}
		}
	}
	for k, r := range bad() {
		p := page(k)
		if got, ok := record.Redo(r, p); got != p || ok {
			t.Error(r, got, ok)
		}
	}
}

// P5.4: redone, and changed back by Back's
func TestRedoBack(t *testing.T) {
	for k, r := range good() {
		if r.Kind != api.RecUpdate {
			continue
		}
		was := page(k)
		copy(was[r.Off:], r.Before)
		now, ok := record.Redo(r, was)
		if !ok || !bytes.Equal(now[r.Off:r.Off+len(r.After)], r.After) {
			t.Error(r, now, ok)
		}
		undo, e := record.Back(r, 5)
		if e != api.OK {
			t.Error(r, e)
		}
		if got, ok := record.Redo(undo, now); got != was || !ok {
			t.Error(r, got, was, ok)
		}
		if again, ok := record.Redo(r, now); again != now || !ok {
			t.Error("twice is once", r, again)
		}
	}
}

// P5.3: Same
func TestSame(t *testing.T) {
	l := append(good(), bad()...)
	for i, a := range l {
		if !record.Same(a, clone(a)) {
			t.Error(a)
		}
		for _, b := range l[i:] {
			if record.Same(a, b) != same(a, b) || record.Same(b, a) != same(a, b) {
				t.Error(a, b)
			}
		}
	}
	a := api.Record{Kind: 2, Txn: 3, Prev: 4, Next: 5, Page: 6, Off: 7, Before: []byte{8, 9}, After: []byte{10, 11}}
	for k, change := range []func(*api.Record){
		func(r *api.Record) { r.Kind++ },
		func(r *api.Record) { r.Txn++ },
		func(r *api.Record) { r.Prev += 1 << 63 },
		func(r *api.Record) { r.Next += 1 << 32 },
		func(r *api.Record) { r.Page += 65536 },
		func(r *api.Record) { r.Off += 256 },
		func(r *api.Record) { r.Before = []byte{8} },
		func(r *api.Record) { r.Before = []byte{8, 8} },
		func(r *api.Record) { r.Before = nil },
		func(r *api.Record) { r.After = []byte{10, 11, 0} },
		func(r *api.Record) { r.After = []byte{11, 11} },
		func(r *api.Record) { r.After = []byte{} },
		func(r *api.Record) { r.Before, r.After = r.After, r.Before },
		func(r *api.Record) { r.Before, r.After = []byte{8, 9, 10}, []byte{11} },
	} {
		b := a
		change(&b)
		if record.Same(a, b) || record.Same(b, a) {
			t.Error(k, b)
		}
	}
	if !record.Same(api.Record{}, api.Record{Before: []byte{}, After: []byte{}}) {
		t.Error("empty lists are as none")
	}
}

// What is handed in is not changed, not even the memory around it.
func TestHandedIn(t *testing.T) {
	for _, r := range append(good(), bad()...) {
		mine := r
		mine.Before, mine.After = within(r.Before), within(r.After)
		before, after := mine.Before[:len(r.Before)+16], mine.After[:len(r.After)+16]
		wasBefore, wasAfter := bytes.Clone(before), bytes.Clone(after)
		record.May(mine)
		record.Size(mine)
		record.Bytes(mine, 5)
		record.Back(mine, 5)
		record.Redo(mine, api.Page{})
		record.Same(mine, r)
		if !same(mine, r) || !bytes.Equal(before, wasBefore) || !bytes.Equal(after, wasAfter) {
			t.Error(r, before, after)
		}
		if !record.May(r) {
			continue
		}
		b := within(slices.Concat(laid(r, 5), laid(r, 5+uint64(record.Size(r)))))
		around := b[:len(b)+16]
		was := bytes.Clone(around)
		got, _, _ := record.Of(b, 5)
		overwrite(got)
		for _, x := range record.All(b, 5) {
			overwrite(x)
		}
		if !bytes.Equal(around, was) {
			t.Error(r, around)
		}
	}
}

// overwrite turns all bits of a record's lists over, and of what may be appended to them.
func overwrite(r api.Record) {
	turn(r.Before)
	turn(r.After)
}

func turn(b []byte) {
	b = b[:cap(b)]
	for i := range b {
		b[i] ^= 255
	}
}

// What is answered shares no memory with what was handed in, nor with another answer, nor one list of it with the other.
func TestAnswered(t *testing.T) {
	r := update(9, 77, 5, 3, within(some(4, 1)), within(some(4, 2)))
	was := clone(r)
	b := laid(r, 5)
	want := bytes.Clone(b)
	undo := back(9, 50, 77, 5, 3, some(4, 1))

	first, _ := record.Bytes(r, 5)
	second, _ := record.Bytes(r, 5)
	turn(first)
	if !bytes.Equal(second, want) || !same(r, was) {
		t.Error("Bytes", second, r)
	}
	x, _ := record.Back(r, 50)
	y, _ := record.Back(r, 50)
	overwrite(x)
	if !same(y, undo) || !same(r, was) {
		t.Error("Back", y, r)
	}
	x, _, _ = record.Of(b, 5)
	y, _, _ = record.Of(b, 5)
	turn(x.Before)
	if !bytes.Equal(x.After, was.After) {
		t.Error("Before and After", x)
	}
	turn(x.After)
	if !same(y, was) || !bytes.Equal(b, want) {
		t.Error("Of", y, b)
	}
	seq := record.All(b, 5)
	for range 2 {
		for _, x := range seq {
			if !same(x, was) {
				t.Error("All", x)
			}
			overwrite(x)
		}
	}
	turn(b)
	overwrite(r)
	if !same(y, was) || !bytes.Equal(second, want) {
		t.Error("hang on what was handed in", y, second)
	}
	if z, _ := record.Back(was, 50); !same(z, undo) {
		t.Error(z)
	}
}
