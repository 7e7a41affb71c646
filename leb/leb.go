// Package leb is layer 1: see shared/doc/01-leb.md.
package leb

import (
	"barograph/api"
)

const (
	seven = 0x7f // the bits of a number that a byte holds
	more  = 0x80 // the bit of a byte behind which another one comes
	last  = 9    // the place of a number's tenth byte, which has room for one bit alone
)

// Uint: bytes, and a number behind them: seven bits a byte, the lowest first; all but the last byte have the bit 128.
func Uint(b []byte, v uint64) []byte {
	for v > seven {
		b = append(b, byte(v)|more)
		v >>= 7
	}
	return append(b, byte(v))
}

// Int: bytes, and a signed number behind them.
func Int(b []byte, v int64) []byte {
	return Uint(b, fold(v))
}

// fold: shifting the sign over all bits turns those of a number below 0, so that its least number needs no case of its own.
func fold(v int64) uint64 {
	return uint64(v)<<1 ^ uint64(v>>63)
}

// unfold: the signed number that fold made this one of.
func unfold(u uint64) int64 {
	return int64(u>>1) ^ -int64(u&1)
}

// Text: bytes, and a text behind them: how many bytes it has, and these.
func Text(b []byte, s string) []byte {
	return append(Uint(b, uint64(len(s))), s...)
}

// TakeUint: the number at the beginning of a text, what is left.
func TakeUint(s string) (uint64, string, api.Errno) {
	var v uint64
	for i := range len(s) {
		c := s[i]
		if i == last && c > 1 {
			return 0, "", api.ErrForm
		}
		if i > 0 && c == 0 {
			return 0, "", api.ErrForm
		}
		v |= uint64(c&seven) << (7 * i)
		if c < more {
			return v, s[i+1:], api.OK
		}
	}
	return 0, "", api.ErrEnd
}

// TakeInt: the signed number at the beginning of a text, what is left.
func TakeInt(s string) (int64, string, api.Errno) {
	u, rest, err := TakeUint(s)
	if err != api.OK {
		return 0, "", err
	}
	return unfold(u), rest, api.OK
}

// TakeMost: the number at the beginning of a text, of at most so much, what is left.
func TakeMost(s string, most int) (int, string, api.Errno) {
	v, rest, err := TakeUint(s)
	if err != api.OK {
		return 0, "", err
	}
	if v > uint64(max(most, 0)) {
		return 0, "", api.ErrBig
	}
	return int(v), rest, api.OK
}

// TakeText: the text at the beginning of a text, of at most so many bytes, what is left.
func TakeText(s string, most int) (string, string, api.Errno) {
	n, rest, err := TakeMost(s, most)
	if err != api.OK {
		return "", "", err
	}
	if n > len(rest) {
		return "", "", api.ErrEnd
	}
	return rest[:n], rest[n:], api.OK
}

// TakeByte: the byte at the beginning of a text, what is left.
func TakeByte(s string) (byte, string, api.Errno) {
	if s == "" {
		return 0, "", api.ErrEnd
	}
	return s[0], s[1:], api.OK
}
