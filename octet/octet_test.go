package octet

import (
	"bytes"
	"math"
	"slices"
	"testing"

	"tendril/api"
)

// The calls keep the signatures that the chapter lists.
var (
	_ func(...uint64) []byte                = Put
	_ func(...uint64) int                   = Size
	_ func([]byte) (uint64, int, api.Errno) = Take
	_ func([]byte) ([]uint64, api.Errno)    = All
)

// edges are the numbers at which an encoding grows, and their neighbours.
func edges() []uint64 {
	out := []uint64{0, 1, 2, 300, 16383, 16384, math.MaxUint32, math.MaxInt64, math.MaxUint64 - 1, math.MaxUint64}
	for shift := range 64 {
		n := uint64(1) << shift
		out = append(out, n-1, n, n+1)
	}
	return out
}

// divided encodes by division, unlike Put.
func divided(n uint64) []byte {
	if n/128 == 0 {
		return []byte{byte(n)}
	}
	return append([]byte{byte(n%128) + 128}, divided(n/128)...)
}

// many is k bytes 255 and then the last ones.
func many(k int, last ...byte) []byte {
	return append(bytes.Repeat([]byte{255}, k), last...)
}

func TestPutWritten(t *testing.T) { // 1.1
	cases := []struct {
		n    []uint64
		want []byte
	}{
		{nil, nil},
		{[]uint64{0}, []byte{0}},
		{[]uint64{1}, []byte{1}},
		{[]uint64{127}, []byte{127}},
		{[]uint64{128}, []byte{128, 1}},
		{[]uint64{300}, []byte{172, 2}},
		{[]uint64{16383}, []byte{255, 127}},
		{[]uint64{16384}, []byte{128, 128, 1}},
		{[]uint64{300, 0, 5}, []byte{172, 2, 0, 5}},
		{[]uint64{1 << 63}, []byte{128, 128, 128, 128, 128, 128, 128, 128, 128, 1}},
		{[]uint64{math.MaxUint64}, many(9, 1)},
		{[]uint64{0, math.MaxUint64, 0}, append([]byte{0}, many(9, 1, 0)...)},
	}
	for _, c := range cases {
		if got := Put(c.n...); !bytes.Equal(got, c.want) {
			t.Errorf("Put(%v) = %v, want %v", c.n, got, c.want)
		}
		if got := Size(c.n...); got != len(c.want) {
			t.Errorf("Size(%v) = %d, want %d", c.n, got, len(c.want))
		}
	}
}

func TestPutConcatenates(t *testing.T) { // 1.1
	var all []byte
	for _, n := range edges() {
		one := divided(n)
		if got := Put(n); !bytes.Equal(got, one) {
			t.Errorf("Put(%d) = %v, want %v", n, got, one)
		}
		if got := Size(n); got != len(one) {
			t.Errorf("Size(%d) = %d, want %d", n, got, len(one))
		}
		all = append(all, one...)
	}
	if got := Put(edges()...); !bytes.Equal(got, all) {
		t.Error("the encodings of several numbers are not those of each, in their order")
	}
	if got := Size(edges()...); got != len(all) {
		t.Errorf("Size of all edges = %d, want %d", got, len(all))
	}
}

func TestTake(t *testing.T) { // 1.2
	cases := []struct {
		b    []byte
		n    uint64
		size int
		err  api.Errno
	}{
		{[]byte{0}, 0, 1, api.OK},
		{[]byte{0, 0}, 0, 1, api.OK},
		{[]byte{127}, 127, 1, api.OK},
		{[]byte{128, 1}, 128, 2, api.OK},
		{[]byte{172, 2, 9}, 300, 2, api.OK},
		{many(8, 127), 1<<63 - 1, 9, api.OK},
		{many(9, 1), math.MaxUint64, 10, api.OK},
		{many(9, 1, 255), math.MaxUint64, 10, api.OK},
		{[]byte{128, 128, 128, 128, 128, 128, 128, 128, 128, 1}, 1 << 63, 10, api.OK},

		{many(10), 0, 0, api.ErrLong},
		{many(10, 1), 0, 0, api.ErrLong},
		{many(10, 0), 0, 0, api.ErrLong},
		{bytes.Repeat([]byte{128}, 10), 0, 0, api.ErrLong},
		{bytes.Repeat([]byte{128}, 1000), 0, 0, api.ErrLong},

		{nil, 0, 0, api.ErrShort},
		{[]byte{}, 0, 0, api.ErrShort},
		{[]byte{128}, 0, 0, api.ErrShort},
		{[]byte{255, 255}, 0, 0, api.ErrShort},
		{many(9), 0, 0, api.ErrShort},

		{many(9, 2), 0, 0, api.ErrRange},
		{many(9, 3), 0, 0, api.ErrRange},
		{many(9, 127), 0, 0, api.ErrRange},
		{[]byte{128, 128, 128, 128, 128, 128, 128, 128, 128, 2}, 0, 0, api.ErrRange},
		{many(9, 2, 0), 0, 0, api.ErrRange},

		{[]byte{128, 0}, 0, 0, api.ErrForm},
		{[]byte{255, 0}, 0, 0, api.ErrForm},
		{[]byte{255, 128, 0, 7}, 0, 0, api.ErrForm},
		{many(8, 0), 0, 0, api.ErrForm},
		{many(9, 0), 0, 0, api.ErrForm},
	}
	for _, c := range cases {
		n, size, err := Take(c.b)
		if n != c.n || size != c.size || err != c.err {
			t.Errorf("Take(%v) = %d, %d, %d; want %d, %d, %d", c.b, n, size, err, c.n, c.size, c.err)
		}
	}
}

func TestAll(t *testing.T) { // 1.3
	cases := []struct {
		b    []byte
		want []uint64
		err  api.Errno
	}{
		{nil, nil, api.OK},
		{[]byte{}, nil, api.OK},
		{[]byte{0}, []uint64{0}, api.OK},
		{[]byte{0, 0, 1}, []uint64{0, 0, 1}, api.OK},
		{[]byte{1, 172, 2}, []uint64{1, 300}, api.OK},
		{many(9, 1, 5), []uint64{math.MaxUint64, 5}, api.OK},

		{[]byte{1, 128}, nil, api.ErrShort},
		{[]byte{1, 128, 0}, nil, api.ErrForm},
		{append([]byte{1}, many(10)...), nil, api.ErrLong},
		{append([]byte{1}, many(9, 2)...), nil, api.ErrRange},
		{[]byte{128, 0, 128}, nil, api.ErrForm},
		{many(9, 2, 128, 0), nil, api.ErrRange},
		{many(10, 1, 128, 0), nil, api.ErrLong},
		{append([]byte{7, 128, 0}, many(10)...), nil, api.ErrForm},
	}
	for _, c := range cases {
		got, err := All(c.b)
		if !slices.Equal(got, c.want) || err != c.err {
			t.Errorf("All(%v) = %v, %d; want %v, %d", c.b, got, err, c.want, c.err)
		}
	}
}

func TestTakeUndoesPut(t *testing.T) { // 1.4
	tails := [][]byte{nil, {0}, {1}, {127}, {128}, {255}, many(20), many(9, 2), {128, 0}}
	for _, n := range edges() {
		b := Put(n)
		for _, tail := range tails {
			got, size, err := Take(append(slices.Clone(b), tail...))
			if got != n || size != len(b) || err != api.OK {
				t.Errorf("Take of %v and %v = %d, %d, %d", b, tail, got, size, err)
			}
		}
		for cut := range len(b) {
			if _, _, err := Take(b[:cut]); err != api.ErrShort {
				t.Errorf("Take(%v) = error %d, want ErrShort", b[:cut], err)
			}
		}
	}
	back, err := All(Put(edges()...))
	if err != api.OK || !slices.Equal(back, edges()) {
		t.Error("All does not return what Put was given")
	}
}

func TestOneEncoding(t *testing.T) { // 1.4
	seen := map[uint64]int{}
	for a := range 256 {
		for c := range 256 {
			b := []byte{byte(a), byte(c)}
			n, size, err := Take(b)
			if err != api.OK {
				if a < 128 || n != 0 || size != 0 {
					t.Fatalf("Take(%v) = %d, %d, %d", b, n, size, err)
				}
				continue
			}
			if !bytes.Equal(Put(n), b[:size]) {
				t.Fatalf("%v decodes to %d, whose encoding is %v", b[:size], n, Put(n))
			}
			if size == 2 {
				seen[n]++
			}
		}
	}
	for n, times := range seen {
		if times != 1 {
			t.Errorf("%d has %d encodings of two bytes", n, times)
		}
	}
	if len(seen) != 16384-128 {
		t.Errorf("%d numbers have two bytes, want %d", len(seen), 16384-128)
	}
}

func TestArgumentsStay(t *testing.T) { // R4
	n := []uint64{300, 1, math.MaxUint64}
	put := Put(n...)
	if !slices.Equal(n, []uint64{300, 1, math.MaxUint64}) {
		t.Error("Put changed its argument")
	}
	b := append(make([]byte, 0, 64), put...)
	Take(b)
	got, _ := All(b)
	if !bytes.Equal(b, put) || slices.ContainsFunc(b[len(b):cap(b)], func(spare byte) bool { return spare != 0 }) {
		t.Error("Take or All changed its argument")
	}
	clear(b)
	if !slices.Equal(got, n) {
		t.Error("the result of All hangs on its argument")
	}
}
