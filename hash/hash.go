// Package hash: a seeded hash of bytes (layer 1).
package hash

import (
	"math/bits"

	"tagcache/api"
)

// MaxSize is the maximum size of a table.
const MaxSize = 1 << 24

// Sum returns the hash of a string with a seed.
func Sum(seed uint64, s string) uint64 {
	h := seed
	for i := range len(s) {
		h = add(h, s[i])
	}
	return Mix(h)
}

// Bytes returns the hash of a list of bytes with a seed.
func Bytes(seed uint64, b []byte) uint64 {
	h := seed
	for _, c := range b {
		h = add(h, c)
	}
	return Mix(h)
}

// add takes one byte more into h. The 1 makes a byte of 0 count, too: without it, a seed of 0 would hide how many of them there are.
func add(h uint64, c byte) uint64 { return 31*h + uint64(c) + 1 }

// Mix returns a word whose bits are mixed.
func Mix(w uint64) uint64 {
	w ^= w << 13
	w ^= w >> 7
	return w ^ w<<17
}

// Index returns the index of a hash in a table, or an error.
func Index(sum uint64, size int) (int, api.Errno) {
	if !isSize(size) {
		return 0, api.ErrArg
	}
	return int(sum % uint64(size)), api.OK
}

// isSize reports whether a table may have a size.
func isSize(n int) bool {
	return n >= 1 && n <= MaxSize && bits.OnesCount64(uint64(n)) == 1
}

// Power returns the lowest power of two that is not less than a number, or an error.
func Power(n int) (int, api.Errno) {
	if n < 1 || n > MaxSize {
		return 0, api.ErrRange
	}
	return 1 << bits.Len64(uint64(n-1)), api.OK
}
