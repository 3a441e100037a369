package wire_test

import (
	"bytes"
	"encoding/binary"
	"encoding/hex"
	"math"
	"strings"
	"testing"

	"hornbook/api"
	"hornbook/wire"
)

// eight is the lowest bytes of a number, by another way than the program's.
func eight(n uint64) []byte { return binary.LittleEndian.AppendUint64(nil, n) }

// greatest is the greatest number of so many bytes.
func greatest(size int) uint64 { return math.MaxUint64 >> (64 - 8*size) }

// page is bytes of which no two neighbours are the same.
func page(n int) []byte {
	b := make([]byte, n)
	for i := range b {
		b[i] = byte(37*i + 11)
	}
	return b
}

// within is b, with other bytes ahead of and behind it in the same memory.
func within(b []byte) []byte {
	m := bytes.Repeat([]byte{0xee}, len(b)+32)
	copy(m[16:], b)
	return m[16 : 16+len(b)]
}

var wrongSizes = []int{math.MinInt, -8, -1, 0, 9, 10, 16, 64, 256, math.MaxInt}

func TestExamples(t *testing.T) {
	if b, e := wire.Put(258, 2); e != api.OK || !bytes.Equal(b, []byte{2, 1}) {
		t.Error("Put(258, 2)", b, e)
	}
	if b, e := wire.Put(256, 1); e != api.ErrArg || len(b) != 0 {
		t.Error("Put(256, 1)", b, e)
	}
	if b, e := wire.Put(1, 9); e != api.ErrArg || len(b) != 0 {
		t.Error("Put(1, 9)", b, e)
	}
	if n, e := wire.Get([]byte{2, 1}); e != api.OK || n != 258 {
		t.Error("Get(2, 1)", n, e)
	}
	if n, e := wire.At([]byte{9, 2, 1, 9}, 1, 2); e != api.OK || n != 258 {
		t.Error("At(9, 2, 1, 9; 1, 2)", n, e)
	}
	if b, e := wire.Set([]byte{0, 0, 0}, 1, 258, 2); e != api.OK || !bytes.Equal(b, []byte{0, 2, 1}) {
		t.Error("Set(0, 0, 0; 1, 258, 2)", b, e)
	}
	if n, e := wire.At([]byte{1}, 1, 1); e != api.ErrArg || n != 0 {
		t.Error("At(1; 1, 1)", n, e)
	}
	if s := wire.Hex([]byte{255, 1}); s != "ff01" {
		t.Error("Hex(255, 1)", s)
	}
	for _, s := range []string{"FF", "f"} {
		if b, e := wire.Unhex(s); e != api.ErrBytes || len(b) != 0 {
			t.Error("Unhex", s, b, e)
		}
	}
}

// P1.1: Put
func TestPut(t *testing.T) {
	for size := 1; size <= 8; size++ {
		for _, n := range []uint64{0, 1, 0x7f, 0x80, 0xff, greatest(size) / 3, greatest(size) - 1, greatest(size)} {
			if b, e := wire.Put(n, size); e != api.OK || !bytes.Equal(b, eight(n)[:size]) {
				t.Error(n, size, b, e)
			}
		}
		if size == 8 {
			continue
		}
		for _, n := range []uint64{greatest(size) + 1, greatest(size) + 2, greatest(size) << 8, 1 << 63, math.MaxUint64} {
			if b, e := wire.Put(n, size); e != api.ErrArg || len(b) != 0 {
				t.Error(n, size, b, e)
			}
		}
	}
	for _, size := range wrongSizes {
		for _, n := range []uint64{0, 1, math.MaxUint64} {
			if b, e := wire.Put(n, size); e != api.ErrArg || len(b) != 0 {
				t.Error(n, size, b, e)
			}
		}
	}
}

// P1.1: Get
func TestGet(t *testing.T) {
	for _, c := range []struct {
		b []byte
		n uint64
	}{
		{[]byte{0}, 0},
		{[]byte{255}, 255},
		{[]byte{1, 2}, 0x0201},
		{[]byte{0, 0, 128}, 0x800000},
		{[]byte{1, 2, 3, 4, 5}, 0x0504030201},
		{[]byte{0, 0, 0, 0, 0, 0, 1}, 1 << 48},
		{[]byte{8, 7, 6, 5, 4, 3, 2, 1}, 0x0102030405060708},
		{bytes.Repeat([]byte{255}, 8), math.MaxUint64},
	} {
		if n, e := wire.Get(c.b); e != api.OK || n != c.n {
			t.Error(c.b, n, e)
		}
		if n, e := wire.Get(within(c.b)); e != api.OK || n != c.n {
			t.Error("within others", c.b, n, e)
		}
	}
	for _, b := range [][]byte{nil, {}, within(nil), {1, 2, 3, 4, 5, 6, 7, 8, 9}, make([]byte, 9), page(16), page(248)} {
		if n, e := wire.Get(b); e != api.ErrArg || n != 0 {
			t.Error(b, n, e)
		}
	}
}

// P1.2: At
func TestAt(t *testing.T) {
	b := within(page(api.PageSize))
	long := append(bytes.Clone(b), make([]byte, 8)...)
	for size := 1; size <= 8; size++ {
		for from := 0; from <= len(b)-size; from++ {
			want := binary.LittleEndian.Uint64(long[from:]) & greatest(size)
			if n, e := wire.At(b, from, size); e != api.OK || n != want {
				t.Error(from, size, n, e)
			}
		}
		for _, from := range []int{len(b) - size + 1, len(b), len(b) + 1, -1, -size, -8, math.MinInt, math.MaxInt, math.MaxInt - size + 1} {
			if n, e := wire.At(b, from, size); e != api.ErrArg || n != 0 {
				t.Error(from, size, n, e)
			}
		}
	}
	for _, size := range wrongSizes {
		for _, from := range []int{0, 8, len(b), len(b) + 1, -1, math.MaxInt, math.MinInt} {
			if n, e := wire.At(b, from, size); e != api.ErrArg || n != 0 {
				t.Error(from, size, n, e)
			}
		}
	}
	for _, none := range [][]byte{nil, {}, within(nil)} {
		if n, e := wire.At(none, 0, 1); e != api.ErrArg || n != 0 {
			t.Error(none, n, e)
		}
	}
}

// P1.2: Set
func TestSet(t *testing.T) {
	old := page(api.PageSize)
	for size := 1; size <= 8; size++ {
		for _, from := range []int{0, 1, 7, 8, 100, len(old) - size - 1, len(old) - size} {
			for _, n := range []uint64{0, 1, greatest(size) / 3, greatest(size)} {
				want := bytes.Clone(old)
				copy(want[from:], eight(n)[:size])
				if b, e := wire.Set(old, from, n, size); e != api.OK || !bytes.Equal(b, want) {
					t.Error(from, n, size, b, e)
				}
			}
			if size == 8 {
				continue
			}
			for _, n := range []uint64{greatest(size) + 1, math.MaxUint64} {
				if b, e := wire.Set(old, from, n, size); e != api.ErrArg || len(b) != 0 {
					t.Error(from, n, size, b, e)
				}
			}
		}
	}
	whole := []byte{1, 2, 3, 4, 5, 6, 7, 8}
	if b, e := wire.Set(whole, 0, 0, 8); e != api.OK || !bytes.Equal(b, make([]byte, 8)) {
		t.Error("all of them", b, e)
	}
}

// P1.2: what Set refuses by its place, or by its size
func TestSetWhere(t *testing.T) {
	b := within(page(api.PageSize))
	for size := 1; size <= 8; size++ {
		for _, from := range []int{len(b) - size + 1, len(b), len(b) + 1, -1, -size, math.MinInt, math.MaxInt, math.MaxInt - size + 1} {
			if o, e := wire.Set(b, from, 1, size); e != api.ErrArg || len(o) != 0 {
				t.Error(from, size, o, e)
			}
		}
	}
	for _, size := range wrongSizes {
		for _, from := range []int{0, 8, len(b), -1, math.MaxInt, math.MinInt} {
			if o, e := wire.Set(b, from, 0, size); e != api.ErrArg || len(o) != 0 {
				t.Error(from, size, o, e)
			}
		}
	}
	for _, none := range [][]byte{nil, {}, within(nil)} {
		if o, e := wire.Set(none, 0, 0, 1); e != api.ErrArg || len(o) != 0 {
			t.Error(none, o, e)
		}
	}
}

// P1.2: Word
func TestWord(t *testing.T) {
	for n := 0; n <= 26; n++ {
		b := within(page(n))
		long := append(bytes.Clone(b), make([]byte, 48)...)
		for i := range 5 {
			if w := wire.Word(b, i); w != binary.LittleEndian.Uint64(long[8*i:]) {
				t.Error(n, i, w)
			}
		}
		// 1<<60 and 1<<61 are numbers whose eightfold wraps round: far behind the end all the same
		for _, i := range []int{-1, -2, math.MinInt, 1<<60 - 1, 1 << 60, 1<<60 + 1, 1 << 61, 1<<61 + 1, 1 << 62, math.MaxInt} {
			if w := wire.Word(b, i); w != 0 {
				t.Error(n, i, w)
			}
		}
	}
	if w := wire.Word(nil, 0); w != 0 {
		t.Error("of nil", w)
	}
	for _, c := range []struct {
		i int
		n uint64
	}{{0, 0x0807060504030201}, {1, 0x0b0a09}, {2, 0}, {-1, 0}} {
		if w := wire.Word([]byte{1, 2, 3, 4, 5, 6, 7, 8, 9, 10, 11}, c.i); w != c.n {
			t.Error(c, w)
		}
	}
}

// P1.3: Join
func TestJoin(t *testing.T) {
	a, b := within([]byte{1, 2, 3}), within([]byte{4})
	for _, c := range []struct {
		l    [][]byte
		want []byte
	}{
		{nil, nil},
		{[][]byte{}, nil},
		{[][]byte{nil}, nil},
		{[][]byte{{}, nil, {}}, nil},
		{[][]byte{a}, []byte{1, 2, 3}},
		{[][]byte{a, b}, []byte{1, 2, 3, 4}},
		{[][]byte{b, a}, []byte{4, 1, 2, 3}},
		{[][]byte{nil, a, {}, nil, b, {}}, []byte{1, 2, 3, 4}},
		{[][]byte{a, a, b, a}, []byte{1, 2, 3, 1, 2, 3, 4, 1, 2, 3}},
		{[][]byte{{0}, {0, 0}}, []byte{0, 0, 0}},
	} {
		if o := wire.Join(c.l...); !bytes.Equal(o, c.want) {
			t.Error(c.l, o)
		}
	}
	if o := wire.Join(); len(o) != 0 {
		t.Error("no lists", o)
	}
}

// P1.3: Same
func TestSame(t *testing.T) {
	for _, c := range []struct {
		a, b []byte
		want bool
	}{
		{nil, nil, true},
		{nil, []byte{}, true},
		{within(nil), nil, true},
		{nil, []byte{0}, false},
		{[]byte{0}, []byte{0}, true},
		{[]byte{0}, []byte{0, 0}, false},
		{[]byte{1, 2, 3}, []byte{1, 2}, false},
		{[]byte{1, 2, 3}, []byte{1, 2, 3}, true},
		{[]byte{1, 2, 3}, within([]byte{1, 2, 3}), true},
		{[]byte{1, 2, 3}, []byte{0, 2, 3}, false},
		{[]byte{1, 2, 3}, []byte{1, 0, 3}, false},
		{[]byte{1, 2, 3}, []byte{1, 2, 131}, false},
		{[]byte{1, 2, 3}, []byte{3, 2, 1}, false},
	} {
		if wire.Same(c.a, c.b) != c.want || wire.Same(c.b, c.a) != c.want {
			t.Error(c.a, c.b)
		}
	}
	for x := range 256 {
		for y := range 256 {
			if wire.Same([]byte{7, byte(x)}, []byte{7, byte(y)}) != (x == y) {
				t.Error(x, y)
			}
		}
	}
}

// P1.4: Hex
func TestHex(t *testing.T) {
	for x := range 256 {
		b := []byte{byte(x)}
		if s := wire.Hex(b); s != hex.EncodeToString(b) {
			t.Error(x, s)
		}
	}
	for _, b := range [][]byte{nil, {}, {0}, {0, 0}, {1, 35, 69, 103, 137, 171, 205, 239}, page(248)} {
		if s := wire.Hex(b); s != hex.EncodeToString(b) {
			t.Error(b, s)
		}
		if o, e := wire.Unhex(wire.Hex(b)); e != api.OK || !bytes.Equal(o, b) {
			t.Error("and back", b, o, e)
		}
	}
}

// P1.4: Unhex
func TestUnhex(t *testing.T) {
	for _, c := range []struct {
		s    string
		want []byte
	}{
		{"", nil},
		{"00", []byte{0}},
		{"0a", []byte{10}},
		{"a0", []byte{160}},
		{"ff", []byte{255}},
		{"0000", []byte{0, 0}},
		{"0123456789abcdef", []byte{1, 35, 69, 103, 137, 171, 205, 239}},
	} {
		if b, e := wire.Unhex(c.s); e != api.OK || !bytes.Equal(b, c.want) {
			t.Error(c.s, b, e)
		}
	}
	// each byte in the place of each of four signs
	for x := range 256 {
		for i := range 4 {
			text := []byte("5555")
			text[i] = byte(x)
			b, e := wire.Unhex(string(text))
			if !strings.Contains("0123456789abcdef", string([]byte{byte(x)})) {
				if e != api.ErrBytes || len(b) != 0 {
					t.Errorf("%q %v %v", text, b, e)
				}
			} else if e != api.OK || hex.EncodeToString(b) != string(text) {
				t.Errorf("%q %v %v", text, b, e)
			}
		}
	}
	for _, s := range []string{"0", "f", "G", "000", "abcde", "0g", "g0", "0A", "A0", "aB", "DEADBEEF", "deadbeeF", "Deadbeef", "0x00", " 00", "00 ", "00 1", "0_", "+1", "-1", "00\n", "\x00\x00", "é", "００", "\xff\xff", "00g", "g00", "00000g", strings.Repeat("0", 495), strings.Repeat("0", 495) + "/", strings.Repeat("0", 495) + ":"} {
		if b, e := wire.Unhex(s); e != api.ErrBytes || len(b) != 0 {
			t.Errorf("%q %v %v", s, b, e)
		}
	}
}

// P1.5: what was set is there, until something is set over it
func TestSetStays(t *testing.T) {
	b, want := make([]byte, api.PageSize), make([]byte, api.PageSize)
	set := func(from int, n uint64, size int) {
		o, e := wire.Set(b, from, n, size)
		if e != api.OK {
			t.Fatal(from, n, size, e)
		}
		if m, e := wire.At(o, from, size); e != api.OK || m != n {
			t.Error(from, n, size, m, e)
		}
		copy(want[from:], eight(n)[:size])
		if !bytes.Equal(o, want) {
			t.Fatal(from, n, size, o)
		}
		b = o
	}
	for i := range 2000 {
		size := 1 + i%8
		from := i * 41 % (len(b) - size + 1)
		set(from, (uint64(i)+1)*0x9e3779b97f4a7c15&greatest(size), size)
	}
	set(0, math.MaxUint64, 8)
	set(8, 0x1122334455667788, 8)
	set(6, 0, 4)
	if n, m := wire.Word(b, 0), wire.Word(b, 1); n != 0x0000ffffffffffff || m != 0x1122334455660000 {
		t.Error("over two words", n, m)
	}
	if _, e := wire.Set(b, api.PageSize, 1, 1); e != api.ErrArg || !bytes.Equal(b, want) {
		t.Error("refused", e)
	}
}

// P1.5: words beside one another are one word
func TestWordsBeside(t *testing.T) {
	b := page(40)
	for low := 1; low < 8; low++ {
		for high := 1; low+high <= 8; high++ {
			for from := 0; from <= len(b)-low-high; from++ {
				n, _ := wire.At(b, from, low)
				m, _ := wire.At(b, from+low, high)
				if both, e := wire.At(b, from, low+high); e != api.OK || both != n|m<<(8*low) {
					t.Error(from, low, high, both, e)
				}
			}
			n, m := greatest(low)/5, greatest(high)/3
			first, _ := wire.Put(n, low)
			next, _ := wire.Put(m, high)
			if both, e := wire.Get(wire.Join(first, next)); e != api.OK || both != n|m<<(8*low) {
				t.Error(low, high, both, e)
			}
		}
	}
	for i := range len(b) / 8 {
		if n, e := wire.At(b, 8*i, 8); e != api.OK || n != wire.Word(b, i) {
			t.Error(i, n, e)
		}
	}
}

// What is handed in is not changed, not even the memory around it.
func TestHandedIn(t *testing.T) {
	for n := range 20 {
		b := within(page(n))
		around := b[:n+16]
		was := bytes.Clone(around)
		other := within([]byte{1, 2})
		wire.Get(b)
		for i := -1; i <= n; i++ {
			wire.At(b, i, 2)
			wire.Set(b, i, 0x5555, 2)
			wire.Word(b, i)
		}
		wire.Join(b, other)
		wire.Join(b[:n/2], other, b)
		wire.Same(b, other)
		wire.Hex(b)
		if !bytes.Equal(around, was) || !bytes.Equal(other, []byte{1, 2}) {
			t.Error(n, around)
		}
	}
	l := [][]byte{{1}, nil, {2}}
	wire.Join(l...)
	if !bytes.Equal(l[0], []byte{1}) || l[1] != nil || !bytes.Equal(l[2], []byte{2}) {
		t.Error(l)
	}
}

// What is answered shares no memory with what was handed in, nor with another answer.
func TestAnswered(t *testing.T) {
	in := page(16)
	for name, call := range map[string]func() []byte{
		"Put":            func() []byte { b, _ := wire.Put(0x0102, 2); return b },
		"Set":            func() []byte { b, _ := wire.Set(in, 3, 77, 2); return b },
		"Set, all":       func() []byte { b, _ := wire.Set(in[:8], 0, 77, 8); return b },
		"Set, as it was": func() []byte { b, _ := wire.Set(in, 0, uint64(in[0]), 1); return b },
		"Join, one":      func() []byte { return wire.Join(in) },
		"Join, one only": func() []byte { return wire.Join(nil, in, []byte{}) },
		"Join, two":      func() []byte { return wire.Join(in[:4], in[4:]) },
		"Unhex":          func() []byte { b, _ := wire.Unhex("00ff"); return b },
	} {
		was := bytes.Clone(in)
		first := call()
		want := bytes.Clone(first)
		second := call()
		overwrite(first)
		if !bytes.Equal(in, was) {
			t.Error(name, "shares with what was handed in")
		}
		if !bytes.Equal(second, want) || !bytes.Equal(call(), want) {
			t.Error(name, "shares with another answer")
		}
		third := call()
		overwrite(in)
		if !bytes.Equal(third, want) {
			t.Error(name, "hangs on what was handed in")
		}
		copy(in, was)
	}
}

// overwrite turns all bits of bytes over, and of those that may be appended to them.
func overwrite(b []byte) {
	b = b[:cap(b)]
	for i := range b {
		b[i] ^= 255
	}
}
