// Package sum is layer 1: check sums: see shared/doc/01-sum.md.
package sum

import (
	"bytes"

	"jackstay/api"
)

const (
	// modulus is the greatest prime below 2^16: a sum's two numbers stay below it.
	modulus = 65521
	// stretch is the most bytes whose two numbers stay within 32 bits without a remainder taken, whatever they begin from.
	stretch = 5552
	// size is how many bytes a sum has behind what it seals.
	size = 4
)

// Of is the sum of all parts, one behind the other.
func Of(parts ...[]byte) uint32 {
	s := uint32(1)
	for _, part := range parts {
		s = More(s, part)
	}
	return s
}

// More is the sum that has come to s, with b's bytes more.
func More(s uint32, b []byte) uint32 {
	// Any s may be handed in, so that its halves may lie at the modulus or above.
	lower, upper := (s&0xFFFF)%modulus, (s>>16)%modulus
	for len(b) > 0 {
		n := min(len(b), stretch)
		for _, c := range b[:n] {
			lower += uint32(c)
			upper += lower
		}
		lower, upper = lower%modulus, upper%modulus
		b = b[n:]
	}
	return upper<<16 | lower
}

// Seal is b with its sum's bytes behind it.
func Seal(b []byte) []byte {
	// New memory: an append to b itself could write into what lies behind it.
	sealed := make([]byte, 0, len(b)+size)
	sealed = append(sealed, b...)
	return append(sealed, tail(Of(b))...)
}

// Open is what Seal was handed, if the sum behind it fits.
func Open(b []byte) ([]byte, api.Errno) {
	if len(b) < size {
		return nil, api.ErrSum
	}
	at := len(b) - size
	// Bytes are held against bytes, so that a sum whose halves were not reduced does not pass.
	if !bytes.Equal(b[at:], tail(Of(b[:at]))) {
		return nil, api.ErrSum
	}
	return bytes.Clone(b[:at]), api.OK
}

// tail is a sum's bytes, the highest first.
func tail(s uint32) []byte {
	return []byte{byte(s >> 24), byte(s >> 16), byte(s >> 8), byte(s)}
}
