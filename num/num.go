// Package num is layer 1: see shared/doc/01-num.md.
package num

import (
	"math/bits"

	"veneer/api"
)

const (
	maxWidth = 8   // bytes that hold every number
	maxVar   = 10  // sevens of bits that hold every number: nine, and one bit more
	more     = 128 // the bit by which a byte says that another one follows
)

// Fixed tells a number as so many bytes, the highest first; ReadFixed reads it.
func Fixed(v uint64, width int) ([]byte, api.Errno) {
	if !isWidth(width) {
		return nil, api.ErrArg
	}
	if v>>(8*width) != 0 { // a shift by all 64 bits leaves 0: the greatest width holds every number
		return nil, api.ErrBig
	}
	out := make([]byte, width)
	for i := range width {
		out[width-1-i] = byte(v >> (8 * i))
	}
	return out, api.OK
}

func ReadFixed(b []byte, width int) (uint64, api.Errno) {
	if !isWidth(width) {
		return 0, api.ErrArg
	}
	if len(b) < width {
		return 0, api.ErrEnd
	}
	var v uint64
	for i := range width {
		v = v<<8 | uint64(b[i])
	}
	return v, api.OK
}

func isWidth(width int) bool {
	return width >= 1 && width <= maxWidth
}

// Var tells a number by sevens of bits; ReadVar reads it, and tells how many bytes it has.
func Var(v uint64) []byte {
	last := sevens(v) - 1
	out := make([]byte, last+1)
	for i := range last {
		out[i] = byte(v>>(7*i)) | more
	}
	out[last] = byte(v >> (7 * last))
	return out
}

// sevens counts the sevens of bits that a number needs; 0 needs one as 1 does.
func sevens(v uint64) int {
	return (bits.Len64(v|1) + 6) / 7
}

func ReadVar(b []byte) (v uint64, n int, e api.Errno) {
	for i := range maxVar {
		if i >= len(b) {
			return 0, 0, api.ErrEnd
		}
		c := b[i]
		if i == maxVar-1 && c > 1 { // nine sevens leave one bit of 64
			return 0, 0, api.ErrForm
		}
		v |= uint64(c&^more) << (7 * i)
		if c >= more {
			continue
		}
		if c == 0 && i > 0 { // the number has a shorter form
			return 0, 0, api.ErrForm
		}
		return v, i + 1, api.OK
	}
	return 0, 0, api.ErrForm // not reached: the tenth byte is the last one, or refused
}

// Zig tells a number with a sign as one without; Zag back.
func Zig(n int64) uint64 {
	if n >= 0 {
		return 2 * uint64(n)
	}
	return 2*uint64(-(n+1)) + 1 // the least number's amount is no int64, that of the one above it is
}

func Zag(v uint64) int64 {
	half := int64(v / 2)
	if v%2 == 0 {
		return half
	}
	return -half - 1
}

// Add, Sub, Mul tell when the result is none.
func Add(a, b uint64) (uint64, api.Errno) {
	sum, carry := bits.Add64(a, b, 0)
	return within(sum, carry)
}

func Sub(a, b uint64) (uint64, api.Errno) {
	difference, borrow := bits.Sub64(a, b, 0)
	return within(difference, borrow)
}

func Mul(a, b uint64) (uint64, api.Errno) {
	high, low := bits.Mul64(a, b)
	return within(low, high)
}

// within refuses a result of which something stands outside 64 bits.
func within(v, outside uint64) (uint64, api.Errno) {
	if outside != 0 {
		return 0, api.ErrBig
	}
	return v, api.OK
}
