// Package le: little-endian integers at places; sums that saturate. Chapter 1.
package le

import (
	"math/bits"

	"mortise/api"
)

// Fits: does the number fit into so many bytes (1 to 8)?
func Fits(n uint64, width int) bool {
	// A shift by all 64 bits leaves 0, so that every number fits the width 8.
	return isWidth(width) && n>>(8*width) == 0
}

// Put: a number's bytes, the lowest first, at a place.
func Put(b []byte, at, width int, n uint64) api.Errno {
	if e := checkPlace(b, at, width); e != api.OK {
		return e
	}
	if !Fits(n, width) {
		return api.ErrWidth
	}
	for k := range width {
		b[at+k] = byte(n >> (8 * k))
	}
	return api.OK
}

// Get: back.
func Get(b []byte, at, width int) (uint64, api.Errno) {
	if e := checkPlace(b, at, width); e != api.OK {
		return 0, e
	}
	var n uint64
	for k := range width {
		n |= uint64(b[at+k]) << (8 * k)
	}
	return n, api.OK
}

// Plus: a sum of numbers from 0 on, at most api.Huge.
func Plus(list ...int) int {
	sum := 0
	for _, n := range list {
		part := asSize(n)
		// Twice Huge is above the greatest int: hold the part against the room that is left, and don't add first.
		if part > api.Huge-sum {
			return api.Huge
		}
		sum += part
	}
	return sum
}

// Times: a product of numbers from 0 on, at most api.Huge.
func Times(a, b int) int {
	high, low := bits.Mul64(uint64(asSize(a)), uint64(asSize(b)))
	if high != 0 || low > api.Huge {
		return api.Huge
	}
	return int(low)
}

func isWidth(width int) bool { return 1 <= width && width <= 8 }

func checkPlace(b []byte, at, width int) api.Errno {
	if !isWidth(width) {
		return api.ErrWidth
	}
	// at + width may wrap, a length less a width can't.
	if at < 0 || at > len(b)-width {
		return api.ErrPlace
	}
	return api.OK
}

func asSize(n int) int { return min(max(n, 0), api.Huge) }
