package file

// sumModulus is below 2^16, so that both halves of a sum have room in two bytes.
const sumModulus = 65521

// Sum is the sum of bytes.
func Sum(b []byte) int {
	a, c := 1, 0
	for _, x := range b {
		a = (a + int(x)) % sumModulus
		c = (c + a) % sumModulus
	}
	return c*65536 + a
}
