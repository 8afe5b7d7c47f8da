package file

const (
	sealSize = 4
	sealRest = 65521
)

// seal of bytes. It hangs on their order, too: the second sum counts an early byte more often than a late one.
func seal(b []byte) []byte {
	first, second := 1, 0
	for _, c := range b {
		first = (first + int(c)) % sealRest
		second = (second + first) % sealRest
	}
	return []byte{byte(second >> 8), byte(second), byte(first >> 8), byte(first)}
}
