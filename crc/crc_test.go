package crc_test

import (
	"bytes"
	"encoding/binary"
	"hash/crc32"
	"math"
	"math/big"
	"math/bits"
	"testing"

	"hornbook/crc"
)

// known is the sum by another way than the program's.
func known(b []byte) uint32 {
	return crc32.Checksum(b, crc32.MakeTable(crc32.Castagnoli))
}

// divided is the sum, step by step as the document tells it, with polynomials as great numbers.
func divided(b []byte) uint32 {
	by := new(big.Int)
	for _, power := range []int{32, 28, 27, 26, 25, 23, 22, 20, 19, 18, 14, 13, 11, 10, 9, 8, 6, 0} {
		by.SetBit(by, power, 1)
	}
	n := 8 * len(b)
	all := new(big.Int) // the bits, the first one the highest, and 32 noughts behind them
	for i := range n {
		all.SetBit(all, n+31-i, uint(b[i/8]>>(i%8)&1))
	}
	for i := range 32 {
		all.SetBit(all, n+31-i, all.Bit(n+31-i)^1)
	}
	for power := n + 31; power >= 32; power-- {
		if all.Bit(power) == 1 {
			all.Xor(all, new(big.Int).Lsh(by, uint(power-32)))
		}
	}
	return ^bits.Reverse32(uint32(all.Uint64()))
}

// some are so many bytes that look like any.
func some(n int, seed uint32) []byte {
	b := make([]byte, n)
	for i := range b {
		seed = seed*1664525 + 1013904223
		b[i] = byte(seed >> 24)
	}
	return b
}

// changed is b with its four bytes at a place turned over by flips.
func changed(b []byte, place int, flips uint32) []byte {
	o := bytes.Clone(b)
	for i := range 4 {
		o[place+i] ^= byte(flips >> (8 * i))
	}
	return o
}

func eight(place uint64) []byte { return binary.LittleEndian.AppendUint64(nil, place) }

func TestExamples(t *testing.T) {
	for _, c := range []struct {
		name      string
		got, want uint32
	}{
		{"Sum()", crc.Sum(), 0},
		{"Sum(123456789)", crc.Sum([]byte("123456789")), 3808858755},
		{"Sum(a)", crc.Sum([]byte("a")), 3251651376},
		{"Sum(four noughts)", crc.Sum(make([]byte, 4)), 1214729159},
		{"At(0)", crc.At(0), crc.Sum(make([]byte, 8))},
		{"At(0, none)", crc.At(0, nil), crc.Sum(make([]byte, 8))},
		{"Patch(Sum(abcd), 0, 0)", crc.Patch(crc.Sum([]byte("abcd")), 0, 0), crc.Sum([]byte("abcd"))},
	} {
		if c.got != c.want {
			t.Error(c.name, c.got, c.want)
		}
	}
}

// P2.1: of one list, of each length about the edges of fewer than 4 bytes, and of each byte
func TestSumOfOne(t *testing.T) {
	for n := range 40 {
		for seed := range uint32(5) {
			b := some(n, seed)
			if s := crc.Sum(b); s != divided(b) || s != known(b) {
				t.Error(n, seed, s, divided(b), known(b))
			}
		}
		for _, x := range []byte{0, 1, 128, 255} {
			b := bytes.Repeat([]byte{x}, n)
			if s := crc.Sum(b); s != divided(b) {
				t.Error(n, x, s, divided(b))
			}
		}
	}
	for x := range 256 {
		if s := crc.Sum([]byte{byte(x)}); s != divided([]byte{byte(x)}) {
			t.Error(x, s)
		}
	}
	for _, n := range []int{248, 256, 531, 4096, 1<<20 + 3} {
		if b := some(n, 9); crc.Sum(b) != known(b) {
			t.Error(n, crc.Sum(b))
		}
	}
}

// P2.1: of no lists, of lists without bytes, and of several: as if they were one
func TestSumOfLists(t *testing.T) {
	for _, l := range [][][]byte{nil, {}, {nil}, {{}}, {nil, {}, nil}} {
		if s := crc.Sum(l...); s != 0 {
			t.Error(l, s)
		}
	}
	b := some(300, 4)
	want := known(b)
	for i := range len(b) + 1 {
		if s := crc.Sum(b[:i], b[i:]); s != want {
			t.Error(i, s)
		}
		if s := crc.Sum(nil, b[:i], nil, b[i:i], b[i:], []byte{}); s != want {
			t.Error("with none between", i, s)
		}
	}
	var each [][]byte
	for i := range b {
		each = append(each, b[i:i+1])
	}
	if s := crc.Sum(each...); s != want {
		t.Error("byte for byte", s)
	}
	if crc.Sum([]byte{1}, []byte{2}) == crc.Sum([]byte{2}, []byte{1}) {
		t.Error("the order of lists")
	}
	if s := crc.Sum(b, b); s != known(append(bytes.Clone(b), b...)) {
		t.Error("twice the same", s)
	}
}

// P2.2
func TestAt(t *testing.T) {
	for _, place := range []uint64{0, 1, 255, 256, 258, 0x0102030405060708, 1 << 31, 1 << 32, 1<<32 - 1, 1 << 63, math.MaxUint64} {
		b := some(256, uint32(place))
		if s := crc.At(place); s != known(eight(place)) || s != divided(eight(place)) {
			t.Error(place, s)
		}
		for _, l := range [][][]byte{{nil}, {{}}, {b}, {b[:100], b[100:]}, {nil, b[:1], nil, b[1:]}, {b, b}, {{0}}, {b[:3]}} {
			want := known(append(eight(place), bytes.Join(l, nil)...))
			if s := crc.At(place, l...); s != want {
				t.Error(place, len(l), s, want)
			}
		}
	}
	b := some(20, 1)
	if crc.At(1, b) == crc.At(1<<56, b) {
		t.Error("the place's bytes the other way round")
	}
}

// P2.3: each bit of a word, with each number of bytes behind it and ahead of it
func TestPatch(t *testing.T) {
	for ahead := range 6 {
		for behind := range 70 {
			b := some(ahead+4+behind, uint32(ahead*100+behind))
			for _, flips := range []uint32{0, 1, 0x80, 0x100, 0xff00, 1 << 31, 0x01020304, 0xdeadbeef, math.MaxUint32} {
				want := known(changed(b, ahead, flips))
				if s := crc.Patch(known(b), flips, behind); s != want {
					t.Error(ahead, behind, flips, s, want)
				}
			}
		}
	}
	b := some(248, 77)
	for i := range 32 {
		if s := crc.Patch(known(b), 1<<i, 100); s != known(changed(b, 144, 1<<i)) {
			t.Error(i, s)
		}
	}
}

// P2.3: the edges of how many bytes stand behind
func TestPatchEdges(t *testing.T) {
	const most = 1 << 20
	b := some(4+most, 5)
	for _, behind := range []int{most, most - 1, most/2 + 1, most / 2, 65536, 65535} {
		place := len(b) - 4 - behind
		for _, flips := range []uint32{1, 1 << 31, 0xcafe1234} {
			want := known(changed(b, place, flips))
			if s := crc.Patch(known(b), flips, behind); s != want {
				t.Error(behind, flips, s, want)
			}
		}
	}
	for _, behind := range []int{-1, -4, -5, -most, math.MinInt, math.MinInt + 1, most + 1, 2 * most, math.MaxInt32, math.MaxInt, math.MaxInt - 3, math.MaxInt - 4, 1 << 60, 1 << 61} {
		for _, sum := range []uint32{0, 1, 0x12345678, math.MaxUint32} {
			for _, flips := range []uint32{0, 1, math.MaxUint32} {
				if s := crc.Patch(sum, flips, behind); s != sum {
					t.Error(behind, sum, flips, s)
				}
			}
		}
	}
}

// P2.4: what a change does is the same whatever stands there; done twice it is undone; two changes are one
func TestPatchOfAny(t *testing.T) {
	for _, behind := range []int{0, 1, 4, 100, 1 << 20} {
		for _, flips := range []uint32{0, 1, 0x80000001, 0x13579bdf} {
			does := crc.Patch(0, flips, behind)
			for _, sum := range []uint32{1, 0xffff, 0x89abcdef, math.MaxUint32} {
				if s := crc.Patch(sum, flips, behind); s != sum^does {
					t.Error(behind, flips, sum, s)
				}
				if s := crc.Patch(crc.Patch(sum, flips, behind), flips, behind); s != sum {
					t.Error("twice", behind, flips, sum, s)
				}
				both := crc.Patch(crc.Patch(sum, flips, behind), 0x5a5a5a5a, behind)
				if s := crc.Patch(sum, flips^0x5a5a5a5a, behind); s != both {
					t.Error("both", behind, flips, sum, s)
				}
			}
			if (does == 0) != (flips == 0) {
				t.Error(behind, flips, does)
			}
		}
	}
}

// P2.4: bytes that differ within 32 bits that follow one another have unlike sums
func TestUnlike(t *testing.T) {
	b := some(64, 8)
	sum := crc.Sum(b)
	for first := range 8*len(b) - 31 {
		for _, word := range []uint32{1, 3, 0x80000001, 0xffffffff, 0x9abcdef1, 0x10001} {
			o := bytes.Clone(b)
			for i := range 32 {
				o[(first+i)/8] ^= byte(word >> i & 1 << ((first + i) % 8))
			}
			if crc.Sum(o) == sum {
				t.Error(first, word)
			}
		}
	}
}

// P2.4: the same bytes at places whose numbers differ within 32 bits have unlike sums
func TestUnlikePlaces(t *testing.T) {
	b := some(248, 8)
	for _, place := range []uint64{0, 77, 1 << 40, math.MaxUint64} {
		sum := crc.At(place, b)
		for first := range 33 {
			for _, word := range []uint64{1, 2, 0x80000001, 0xffffffff, 0x9abcdef1} {
				if crc.At(place^word<<first, b) == sum {
					t.Error(place, first, word)
				}
			}
		}
	}
	seen := map[uint32]uint64{}
	for place := range uint64(1 << 16) {
		s := crc.At(place, b)
		if other, ok := seen[s]; ok {
			t.Fatal(place, other)
		}
		seen[s] = place
	}
}

// What is handed in is not changed, and not kept.
func TestHandedIn(t *testing.T) {
	m := some(64, 3)
	b := m[8:40]
	was := bytes.Clone(m)
	l := make([][]byte, 2, 8)
	l[0], l[1] = b, nil
	crc.Sum(l...)
	crc.At(7, l...)
	if !bytes.Equal(m, was) || &l[0][0] != &m[8] || l[1] != nil || l[:3][2] != nil {
		t.Error("changed", m, l)
	}
	first := crc.Sum(b)
	b[0] ^= 1
	if crc.Sum(b) == first {
		t.Error("kept")
	}
	b[0] ^= 1
	if crc.Sum(b) != first {
		t.Error("kept")
	}
}
