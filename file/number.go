package file

const (
	radix     = 128 // of digits, one a byte; that has as much more, if another one follows
	maxDigits = 8   // of a number that is read
)

// appendNumber expects one that is not below 0.
func appendNumber(l []byte, n int) []byte {
	for n >= radix {
		l = append(l, byte(n%radix+radix))
		n /= radix
	}
	return append(l, byte(n))
}

// fold a number of any kind into one that is not below 0, so that a small amount stays small.
func fold(n int) int {
	if n < 0 {
		return -2*n - 1
	}
	return 2 * n
}

// unfold what was folded.
func unfold(n int) int {
	if n%2 != 0 {
		return -(n + 1) / 2
	}
	return n / 2
}
