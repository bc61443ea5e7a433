package frame

const (
	polynomial = 0xedb88320
	stepBits   = 4 // so many bits of a byte are taken at once
	stepMask   = 1<<stepBits - 1
)

// Sum tells the check of the parts, one behind the other: P4.1.
func Sum(parts ...[]byte) uint32 {
	moved := table()
	n := ^uint32(0)
	for _, p := range parts {
		for _, c := range p {
			n ^= uint32(c)
			n = n>>stepBits ^ moved[n&stepMask]
			n = n>>stepBits ^ moved[n&stepMask]
		}
	}
	return ^n
}

// table tells for each row of four bits what the number is taken against when they have been moved out of it.
func table() [1 << stepBits]uint32 {
	var out [1 << stepBits]uint32
	fill := func(row uint32) {
		n := row
		for range stepBits {
			low := n & 1
			n >>= 1
			if low == 1 {
				n ^= polynomial
			}
		}
		out[row] = n
	}
	for row := range uint32(len(out)) {
		fill(row)
	}
	return out
}
