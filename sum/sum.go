// Package sum: names of bytes: see doc/01-sum.md.
package sum

// The numbers of Of: its initial value and its factor.
const (
	ofStart  uint64 = 14695981039346656037
	ofFactor uint64 = 1099511628211
)

// The factors of Mix, in the order in which they are used.
const (
	mixFirst  uint64 = 11400714819323198485
	mixSecond uint64 = 13787848793156543929
	mixThird  uint64 = 10723151780598845931
)

// Of returns the hash of a string.
func Of(s string) uint64 {
	x := ofStart
	// By index, because a range over the string would yield runes, not bytes.
	for i := range len(s) {
		x ^= uint64(s[i])
		x *= ofFactor
	}
	return x
}

// Mix returns a mixed value of three numbers; their order matters.
func Mix(a, b, c uint64) uint64 {
	x := a*mixFirst + b
	x = fold(x, 30)*mixSecond + c
	x = fold(x, 27) * mixThird
	return fold(x, 31)
}

// fold brings high bits down: the low bits of a product depend only on low bits.
func fold(x uint64, n uint) uint64 {
	return x ^ x>>n
}
