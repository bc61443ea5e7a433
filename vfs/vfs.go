// Package vfs is layer 1, a directory of files that stands in for a disk: what is not synced can be lost, calls can fail, and power can go. See shared/doc/01-vfs.md.
package vfs

import (
	"maps"
	"slices"

	"lectern/api"
)

// file has its bytes, of which the first so many are synced.
type file struct {
	bytes  []byte
	synced int
}

// entries are a directory's files by their names. The directory and its durable form share the files themselves: what an Append or a Sync does to a file does not hang on SyncDir.
type entries map[string]*file

// Dir is a directory of files.
type Dir struct {
	now     entries
	durable entries
	changes []func(entries) // what Create, Rename and Delete did since SyncDir
	calls   int
	halt    halt
	fail    fail
}

// New: a directory without files.
func New() *Dir {
	return &Dir{now: entries{}, durable: entries{}}
}

// begin counts a changing call and tells why it must not go on, if it must not; asked, if that is Fail's doing.
func (d *Dir) begin(names ...string) (e api.Errno, asked bool) {
	if d == nil {
		return api.ErrNil, false
	}
	d.calls++
	halted := d.halt.come()
	d.halt.next()
	e = d.fail.next()
	switch {
	case halted:
		return api.ErrHalt, false
	case e != api.OK:
		return e, true
	case !areNames(names):
		return api.ErrArg, false
	}
	return api.OK, false
}

// change makes a change to the directory, and keeps it for a crash.
func (d *Dir) change(c func(entries)) {
	if d.now == nil { // a Dir that New did not make
		d.now = entries{}
	}
	c(d.now)
	d.changes = append(d.changes, c)
}

// Create makes an empty file: P1.1.
func (d *Dir) Create(name string) api.Errno {
	if e, _ := d.begin(name); e != api.OK {
		return e
	}
	if d.now[name] != nil {
		return api.ErrExists
	}
	if len(d.now) >= api.MaxFiles {
		return api.ErrLong
	}
	f := &file{}
	d.change(func(m entries) { m[name] = f })
	return api.OK
}

// Append puts bytes behind those of a file: P1.1. If Fail asked this call to fail, some of them may come to be there all the same: P1.4.
func (d *Dir) Append(name string, b []byte) api.Errno {
	e, asked := d.begin(name)
	if asked {
		d.put(name, b, d.fail.share(len(b)))
		return e
	}
	if e != api.OK {
		return e
	}
	return d.put(name, b, len(b))
}

// put puts the first n bytes of b behind those of a file, if all of b would fit.
func (d *Dir) put(name string, b []byte, n int) api.Errno {
	f := d.now[name]
	if f == nil {
		return api.ErrMissing
	}
	if len(b) > api.MaxFile-len(f.bytes) {
		return api.ErrLong
	}
	f.bytes = append(f.bytes, b[:n]...)
	return api.OK
}

// Sync makes all bytes of a file synced: P1.1.
func (d *Dir) Sync(name string) api.Errno {
	if e, _ := d.begin(name); e != api.OK {
		return e
	}
	f := d.now[name]
	if f == nil {
		return api.ErrMissing
	}
	f.synced = len(f.bytes)
	return api.OK
}

// SyncDir makes the directory the durable one: P1.1.
func (d *Dir) SyncDir() api.Errno {
	if e, _ := d.begin(); e != api.OK {
		return e
	}
	d.durable = maps.Clone(d.now)
	d.changes = nil
	return api.OK
}

// Rename gives a file another name, whoever had that: P1.1.
func (d *Dir) Rename(from, to string) api.Errno {
	if e, _ := d.begin(from, to); e != api.OK {
		return e
	}
	f := d.now[from]
	if f == nil {
		return api.ErrMissing
	}
	if from == to {
		return api.OK
	}
	d.change(func(m entries) {
		// Where only some changes are kept, the name may have no file, or another one that stays.
		if m[from] == f {
			delete(m, from)
		}
		m[to] = f
	})
	return api.OK
}

// Delete takes a file away: P1.1.
func (d *Dir) Delete(name string) api.Errno {
	if e, _ := d.begin(name); e != api.OK {
		return e
	}
	if d.now[name] == nil {
		return api.ErrMissing
	}
	d.change(func(m entries) { delete(m, name) })
	return api.OK
}

// Read tells a file's bytes: P1.2.
func (d *Dir) Read(name string) ([]byte, api.Errno) {
	switch {
	case d == nil:
		return nil, api.ErrNil
	case d.halt.come():
		return nil, api.ErrHalt
	case !isName(name):
		return nil, api.ErrArg
	case d.now[name] == nil:
		return nil, api.ErrMissing
	}
	return slices.Clone(d.now[name].bytes), api.OK
}

// List tells the names, rising: P1.2.
func (d *Dir) List() []string {
	if d == nil || d.halt.come() {
		return nil
	}
	return slices.Sorted(maps.Keys(d.now))
}

// Calls tells how many changing calls were counted: P1.2.
func (d *Dir) Calls() int {
	if d == nil {
		return 0
	}
	return d.calls
}

// Flip turns the bits of a mask in a file's byte: P1.6.
func (d *Dir) Flip(name string, at int, mask byte) api.Errno {
	switch {
	case d == nil:
		return api.ErrNil
	case !isName(name):
		return api.ErrArg
	case d.now[name] == nil:
		return api.ErrMissing
	case at < 0 || at >= len(d.now[name].bytes):
		return api.ErrArg
	}
	d.now[name].bytes[at] ^= mask
	return api.OK
}
