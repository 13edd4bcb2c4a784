// Package set is layer 1, sets of bytes: see shared/doc/01-set.md.
package set

import (
	"iter"
	"math/bits"
	"strings"

	"bonsai/api"
)

const wordBits = 64

// Of is P1.1.
func Of(s string) api.Bytes {
	var out api.Bytes
	for i := range len(s) {
		out[s[i]/wordBits] |= bit(s[i])
	}
	return out
}

// Range is P1.1.
func Range(a, b byte) api.Bytes {
	var out api.Bytes
	// Counted as an int: a byte behind 255 would be 0 again.
	for n := int(a); n <= int(b); n++ {
		out[n/wordBits] |= bit(byte(n))
	}
	return out
}

// All is P1.1.
func All() api.Bytes { return Not(api.Bytes{}) }

// Has is P1.1.
func Has(s api.Bytes, b byte) bool { return s[b/wordBits]&bit(b) != 0 }

// Len is P1.1.
func Len(s api.Bytes) int {
	n := 0
	for _, w := range s {
		n += bits.OnesCount64(w)
	}
	return n
}

// List is P1.1.
func List(s api.Bytes) string {
	var out strings.Builder
	for b := range each(s) {
		out.WriteByte(b)
	}
	return out.String()
}

// Only is P1.1.
func Only(s api.Bytes) (byte, bool) {
	for b := range each(s) {
		// The least byte alone decides: a set of one is the set of that.
		if Range(b, b) == s {
			return b, true
		}
		break
	}
	return 0, false
}

// Or is P1.2.
func Or(a, b api.Bytes) api.Bytes {
	for i, w := range b {
		a[i] |= w
	}
	return a
}

// And is P1.2.
func And(a, b api.Bytes) api.Bytes {
	for i, w := range b {
		a[i] &= w
	}
	return a
}

// Minus is P1.2.
func Minus(a, b api.Bytes) api.Bytes {
	for i, w := range b {
		a[i] &^= w
	}
	return a
}

// Not is P1.2.
func Not(s api.Bytes) api.Bytes {
	for i, w := range s {
		s[i] = ^w
	}
	return s
}

// Runs is P1.2.
func Runs(s api.Bytes) [][2]byte {
	var out [][2]byte
	for b := range each(s) {
		last := len(out) - 1
		// The sum can't wrap round: b stands behind the last run's end.
		if last >= 0 && out[last][1]+1 == b {
			out[last][1] = b
		} else {
			out = append(out, [2]byte{b, b})
		}
	}
	return out
}

// Subset is P1.2.
func Subset(a, b api.Bytes) bool { return And(a, b) == a }

// Meets is P1.2.
func Meets(a, b api.Bytes) bool { return And(a, b) != api.Bytes{} }

// Compare is P1.2.
func Compare(a, b api.Bytes) int {
	if a == b {
		return 0
	}
	return strings.Compare(List(a), List(b))
}

func bit(b byte) uint64 { return 1 << (b % wordBits) }

// each tells a set's bytes, rising.
func each(s api.Bytes) iter.Seq[byte] {
	return func(yield func(byte) bool) {
		for i, w := range s {
			for ; w != 0; w &= w - 1 {
				if !yield(byte(i*wordBits + bits.TrailingZeros64(w))) {
					return
				}
			}
		}
	}
}
