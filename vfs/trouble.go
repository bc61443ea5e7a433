package vfs

import "lectern/api"

// halt is what Halt asked. It counts down, so that no sum with what is handed in can wrap.
type halt struct {
	asked bool
	left  int // how many changing calls are still done
}

// come: is the directory halted?
func (h *halt) come() bool {
	return h.asked && h.left == 0
}

// next: a changing call is done.
func (h *halt) next() {
	if h.left > 0 {
		h.left--
	}
}

// fail is what Fail asked; it counts down as halt does.
type fail struct {
	left int // which changing call from now on fails; 0: none
	err  api.Errno
	part int
}

// next tells the error that was asked of the changing call that comes now.
func (f *fail) next() api.Errno {
	if f.left == 0 {
		return api.OK
	}
	f.left--
	if f.left > 0 {
		return api.OK
	}
	return f.err
}

// share tells how many of n bytes an Append that fails still appends.
func (f *fail) share(n int) int {
	if f.part < 0 {
		return 0
	}
	return f.part % (n + 1)
}

// Halt stops the directory for ever behind n changing calls more: P1.3.
func (d *Dir) Halt(n int) {
	if d == nil || d.halt.come() {
		return
	}
	d.halt = halt{asked: true, left: max(n, 0)}
}

// Fail makes the n-th changing call from now on fail: P1.4.
func (d *Dir) Fail(n int, e api.Errno, part int) {
	if d == nil {
		return
	}
	// With n below 1 no call comes to be the one, and OK is no error: nothing is asked then.
	d.fail = fail{left: max(n, 0), err: e, part: part}
}
