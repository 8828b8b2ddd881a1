// Package num is numbers in bytes, of fixed widths, the highest byte first.
package num

// Text is a number in so many bytes (0 to 8; of a number that needs more, the lowest ones).
func Text(v uint64, width int) string {
	var b [8]byte
	for i := range b {
		b[i] = byte(v >> (56 - 8*i))
	}
	width = min(max(width, 0), len(b))
	return string(b[len(b)-width:])
}

// Of is the number whose bytes these are (of more than 8 the last ones count).
func Of(s string) uint64 {
	var v uint64
	for i := range len(s) {
		v = v<<8 | uint64(s[i])
	}
	return v
}

// Blank says whether all bytes are 0.
func Blank(s string) bool {
	for i := range len(s) {
		if s[i] != 0 {
			return false
		}
	}
	return true
}
