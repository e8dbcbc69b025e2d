// Package ints is layer 1: whole numbers of so many bits. See shared/doc/01-ints.md.
package ints

import "tallboy/api"

// widest is how many bits a number has at most.
const widest = 64

// Wrap is a number's lowest bits.
func Wrap(v uint64, n int) (uint64, api.Errno) {
	if !isWidth(n) {
		return 0, api.ErrRange
	}
	return lowest(v, n), api.OK
}

// Sign is a number of so many bits with its sign.
func Sign(v uint64, n int) (int64, api.Errno) {
	if !isWidth(n) {
		return 0, api.ErrRange
	}
	// With the sign's bit at the top, the shift to the right fills with it.
	spare := uint(widest - n)
	return int64(v<<spare) >> spare, api.OK
}

// Bits is a number with a sign in so many bits.
func Bits(v int64, n int) (uint64, api.Errno) {
	if !isWidth(n) {
		return 0, api.ErrRange
	}
	least := int64(-1) << uint(n-1)
	// The greatest one is the least one with all bits turned round: so 64 bits
	// need no number that an int64 has no room for.
	if v < least || v > ^least {
		return 0, api.ErrField
	}
	return lowest(uint64(v), n), api.OK
}

// Rotate is a number of 32 bits, turned to the left.
func Rotate(v uint32, by int) uint32 {
	// 32 divides 2^64: of a by below 0, too, the lowest five bits are the turn
	// to the left, and the least by of all needs no turning round.
	left := uint(by) % 32
	return v<<left | v>>(32-left)
}

// Narrow is a number as one of 8, 16 and 32 bits, with a sign and without.
func Narrow(v int64) (int8, uint8, int16, uint16, int32, uint32) {
	return int8(v), uint8(v), int16(v), uint16(v), int32(v), uint32(v)
}

// Shift is a number times, or divided by, a power of two.
func Shift(v uint64, by int) uint64 {
	// What is out of reach goes first: so -by below never leaves its type.
	if by <= -widest || by >= widest {
		return 0
	}
	if by < 0 {
		return v >> uint(-by)
	}
	return v << uint(by)
}

// isWidth tells whether a number may have so many bits.
func isWidth(n int) bool { return n >= 1 && n <= widest }

// lowest is a number's lowest n bits, n being from 1 to 64.
func lowest(v uint64, n int) uint64 {
	spare := uint(widest - n)
	return v << spare >> spare
}
