// Package octet is layer 1: unsigned integers as bytes, seven bits a byte.
package octet

import (
	"math/bits"

	"tendril/api"
)

const (
	groupBits = 7
	more      = 128 // added to every byte of an encoding but the last
	maxBytes  = 10  // ceiling of 64 bits in groups of seven
	topByte   = 1   // nine groups hold 63 bits, so the tenth has room for one
)

// Put returns the encodings of the numbers, one behind the other.
func Put(n ...uint64) []byte {
	out := make([]byte, 0, Size(n...))
	for _, x := range n {
		out = appendNumber(out, x)
	}
	return out
}

// Size returns how many bytes Put makes of the numbers.
func Size(n ...uint64) int {
	total := 0
	for _, x := range n {
		total += length(x)
	}
	return total
}

// Take decodes the number at the beginning of b and tells how many bytes it has there.
func Take(b []byte) (uint64, int, api.Errno) {
	n := uint64(0)
	for i := range min(len(b), maxBytes) {
		n |= uint64(b[i]%more) << (groupBits * i)
		if b[i] >= more {
			continue
		}
		if err := checkLast(i, b[i]); err != api.OK {
			return 0, 0, err
		}
		return n, i + 1, api.OK
	}
	if len(b) >= maxBytes {
		return 0, 0, api.ErrLong
	}
	return 0, 0, api.ErrShort
}

// All decodes the numbers whose encodings, one behind the other, are b.
func All(b []byte) ([]uint64, api.Errno) {
	var out []uint64
	for len(b) > 0 {
		n, size, err := Take(b)
		if err != api.OK {
			return nil, err
		}
		out = append(out, n)
		b = b[size:]
	}
	return out, api.OK
}

func appendNumber(out []byte, x uint64) []byte {
	for range length(x) - 1 {
		out = append(out, byte(x%more)+more)
		x >>= groupBits
	}
	return append(out, byte(x))
}

func length(x uint64) int {
	// 0 has no bits but is still written as one byte.
	return max(1, (bits.Len64(x)+groupBits-1)/groupBits)
}

// checkLast judges the last byte of an encoding, which stands at index i.
func checkLast(i int, last byte) api.Errno {
	if i == maxBytes-1 && last > topByte {
		return api.ErrRange
	}
	if i > 0 && last == 0 {
		return api.ErrForm
	}
	return api.OK
}
