// Package frame is layer 2: see shared/doc/02-frame.md.
package frame

import (
	"barograph/api"
	"barograph/leb"
)

// Max is the most bytes that a record may have.
const Max = 1 << 20

const (
	sumBytes   = 4
	headBytes  = 1 + 10 + sumBytes // the most bytes that stand ahead of a record's own
	polynomial = 0x82f63b78        // Castagnoli's polynomial, the lowest bit first
)

// Rec is a record: its kind, its bytes.
type Rec struct {
	Kind byte
	Data string
}

// More: the sum of bytes, behind that of others.
func More(sum uint32, s string) uint32 {
	sum = ^sum
	for i := range len(s) {
		sum ^= uint32(s[i])
		for range 8 {
			// The bit that leaves, taken below 0, is all ones or none: no branch hangs on it.
			sum = sum>>1 ^ polynomial&-(sum&1)
		}
	}
	return ^sum
}

// Sum: of bytes.
func Sum(s string) uint32 {
	return More(0, s)
}

// sumOf: the sum that a record carries.
func sumOf(r Rec) uint32 {
	return More(Sum(string([]byte{r.Kind})), r.Data)
}

// Append: bytes, and a record behind them.
func Append(b []byte, r Rec) []byte {
	// New memory each time: spare room behind b may be somebody else's.
	out := make([]byte, len(b), len(b)+headBytes+len(r.Data))
	copy(out, b)
	out = append(out, r.Kind)
	out = leb.Uint(out, uint64(len(r.Data)))
	out = putSum(out, sumOf(r))
	return append(out, r.Data...)
}

// putSum: bytes, and a sum behind them, its lowest byte first.
func putSum(b []byte, sum uint32) []byte {
	for i := range sumBytes {
		b = append(b, byte(sum>>(8*i)))
	}
	return b
}

// getSum: the sum at the beginning of bytes, of which there are enough.
func getSum(s string) uint32 {
	var sum uint32
	for i := range sumBytes {
		sum |= uint32(s[i]) << (8 * i)
	}
	return sum
}

// Next: the record at the beginning of bytes, what is left.
func Next(s string) (Rec, string, api.Errno) {
	kind, rest, err := leb.TakeByte(s)
	if err != api.OK {
		return Rec{}, "", err
	}
	n, rest, err := leb.TakeMost(rest, Max)
	if err != api.OK {
		return Rec{}, "", err
	}
	if len(rest) < sumBytes+n {
		return Rec{}, "", api.ErrEnd
	}
	r := Rec{Kind: kind, Data: rest[sumBytes : sumBytes+n]}
	if sumOf(r) != getSum(rest) {
		return Rec{}, "", api.ErrSum
	}
	return r, rest[sumBytes+n:], api.OK
}

// All: the records at the beginning of bytes, as far as they go, and how many bytes they have.
func All(s string) ([]Rec, int) {
	var l []Rec
	left := s
	for {
		r, rest, err := Next(left)
		if err != api.OK {
			return l, len(s) - len(left)
		}
		l = append(l, r)
		left = rest
	}
}
