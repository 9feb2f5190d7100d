// Package number: numbers as bytes, the highest byte first.
package number

// Append lays n behind out, in size bytes (1 to 8).
func Append(out []byte, n int, size int) []byte {
	for i := size - 1; i >= 0; i-- {
		out = append(out, byte(uint64(n)>>(8*i)))
	}
	return out
}

// Unsigned reads at most eight bytes as a number of 0 or more: a count, so that none can seem to be below 0.
func Unsigned(b []byte) uint64 {
	var x uint64
	for _, c := range b {
		x = x<<8 | uint64(c)
	}
	return x
}

// Signed reads at most eight bytes as a number that may be below 0.
func Signed(b []byte) int {
	spare := 64 - 8*len(b)
	return int(int64(Unsigned(b)<<spare) >> spare)
}
