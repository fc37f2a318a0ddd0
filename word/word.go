// Package word is layer 1: words of 64 bits. See shared/doc/01-word.md.
package word

import "math/bits"

const (
	size     = 64
	half     = size / 2
	halfMask = 1<<half - 1
	maxPower = 1 << 62
)

// Turn answers x with each bit k places higher, modulo 64 (lower, if k is below 0).
func Turn(x uint64, k int) uint64 {
	// The low bits of a number below 0 are its remainder too, so no k needs a case of its own.
	up := uint(k) % size
	return x<<up | x>>(size-up)
}

// High answers the upper word of the product of a and b.
func High(a, b uint64) uint64 {
	aLow, aHigh := a&halfMask, a>>half
	bLow, bHigh := b&halfMask, b>>half

	multiply := halfMultiplier()
	multiply(aLow, bLow, 0) // only what it carries reaches the upper word
	second := multiply(aHigh, bLow, 0)
	third := multiply(0, 0, 0) // what is still carried ends the row

	multiply(aLow, bHigh, second)
	third = multiply(aHigh, bHigh, third)
	fourth := multiply(0, 0, 0)
	return fourth<<half | third
}

// halfMultiplier answers a closure that tells the lower half of x*y + add + what the call ahead carried, and keeps the upper half for the next call.
func halfMultiplier() func(x, y, add uint64) uint64 {
	var carried uint64
	return func(x, y, add uint64) uint64 {
		// Never runs over: of halves it is at most (2^32-1)^2 + 2*(2^32-1), which is 2^64-1.
		sum := x*y + add + carried
		carried = sum >> half
		return sum & halfMask
	}
}

// Ones answers how many bits of x are 1.
func Ones(x uint64) int {
	return bits.OnesCount64(x)
}

// Log answers the highest place of x with a 1, and -1 of 0.
func Log(x uint64) int {
	return bits.Len64(x) - 1
}

// Power answers the least power of 2 that is at least n, n brought between 1 and 2^62.
func Power(n int) int {
	n = min(max(n, 1), maxPower)
	// The place above the highest 1 of n-1: so a power of 2 stays what it is.
	return 1 << (Log(uint64(n-1)) + 1)
}

// Low answers the lowest k bits of x, k brought between 0 and 64.
func Low(x uint64, k int) uint64 {
	k = min(max(k, 0), size)
	// A shift by all 64 places leaves 0, of which one less is all ones: the whole word.
	return x & (uint64(1)<<k - 1)
}
