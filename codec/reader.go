package codec

import (
	"slices"

	"lectern/api"
)

// Reader reads bytes from their beginning on, until one of its calls fails.
type Reader struct {
	left []byte // what was not read; these bytes themselves are never changed
	err  api.Errno
}

// NewReader makes a reader of a copy of b: P2.2.
func NewReader(b []byte) *Reader { return &Reader{left: slices.Clone(b)} }

// Uint reads an unsigned number: P2.2.
func (r *Reader) Uint() uint64 { return read(r, r.takeUint) }

// Int reads a signed number: P2.2.
func (r *Reader) Int() int64 { return read(r, r.takeInt) }

// Size reads an unsigned number that may not be above most: P2.2.
func (r *Reader) Size(most int) int { return readUpto(r, r.takeSize, most) }

// Text reads a text of at most so many bytes: P2.2.
func (r *Reader) Text(most int) string { return readUpto(r, r.takeText, most) }

// Bytes reads the next n bytes: P2.2.
func (r *Reader) Bytes(n int) []byte { return readUpto(r, r.takeBytes, n) }

// Left tells how many bytes were not read: P2.2. With an error too: it is how one sees that the reader stayed where it was.
func (r *Reader) Left() int {
	if r == nil {
		return 0
	}
	return len(r.left)
}

// Err tells the reader's error: P2.2.
func (r *Reader) Err() api.Errno {
	if r == nil {
		return api.ErrCorrupt
	}
	return r.err
}

// End tells the reader's error; that there are bytes left is one: P2.2.
func (r *Reader) End() api.Errno {
	if r.Left() > 0 {
		r.err = api.ErrCorrupt
	}
	return r.Err()
}

// read makes a call of a reader that has no error. The call may stop anywhere: if it fails, the reader is put back to where it was.
func read[A any](r *Reader, call func() (A, bool)) A {
	var none A
	if r.Err() != api.OK {
		return none
	}
	left := r.left
	a, ok := call()
	if !ok {
		r.left, r.err = left, api.ErrCorrupt
		return none
	}
	return a
}

// readUpto makes a call that is handed a number.
func readUpto[A any](r *Reader, call func(int) (A, bool), n int) A {
	return read(r, func() (A, bool) { return call(n) })
}

func (r *Reader) takeUint() (uint64, bool) {
	var n uint64
	for i, c := range r.left[:min(formBytes, len(r.left))] {
		n |= uint64(c&0x7f) << (7 * i)
		if c < 0x80 {
			r.left = r.left[i+1:]
			return n, isLast(i, c)
		}
	}
	return 0, false
}

// isLast: can c be the byte i of a form, as its last one?
func isLast(i int, c byte) bool {
	if i == formBytes-1 {
		return c == 1 // one bit of 64 is left for it
	}
	return i == 0 || c > 0
}

func (r *Reader) takeInt() (int64, bool) {
	u, ok := r.takeUint()
	return signed(u), ok
}

func (r *Reader) takeSize(most int) (int, bool) {
	u, ok := r.takeUint()
	if !ok || most < 0 || u > uint64(most) {
		return 0, false
	}
	return int(u), true
}

func (r *Reader) takeText(most int) (string, bool) {
	n, ok := r.takeSize(most)
	if !ok || n > len(r.left) {
		return "", false
	}
	s := string(r.left[:n])
	r.left = r.left[n:]
	return s, true
}

func (r *Reader) takeBytes(n int) ([]byte, bool) {
	if n < 0 || n > len(r.left) {
		return nil, false
	}
	b := slices.Clone(r.left[:n])
	r.left = r.left[n:]
	return b, true
}
