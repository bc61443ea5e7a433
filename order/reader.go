package order

// reader takes a text's bytes, from its beginning on.
type reader struct {
	left string
}

// take takes the next bytes, as long as a closure tells of each that it belongs to them, and so many at most.
func (r *reader) take(most int, belongs func(c byte) bool) string {
	n := 0
	for n < min(most, len(r.left)) && belongs(r.left[n]) {
		n++
	}
	taken := r.left[:n]
	r.left = r.left[n:]
	return taken
}

// just makes the closure that takes one byte and no other.
func just(one byte) func(c byte) bool {
	return func(c byte) bool { return c == one }
}

// but makes the closure that takes every byte but one.
func but(one byte) func(c byte) bool {
	return func(c byte) bool { return c != one }
}

// each takes every byte.
func each(byte) bool { return true }
