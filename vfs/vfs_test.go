package vfs_test

import (
	"bytes"
	"math"
	"slices"
	"strconv"
	"strings"
	"testing"

	"lectern/api"
	"lectern/vfs"
)

// want fails unless an answer is the one that is asked.
func want(t *testing.T, what string, got, want api.Errno) {
	t.Helper()
	if got != want {
		t.Errorf("%s: %d, want %d", what, got, want)
	}
}

// holds fails unless a file has just these bytes.
func holds(t *testing.T, d *vfs.Dir, name string, b ...byte) {
	t.Helper()
	if got, e := d.Read(name); e != api.OK || !bytes.Equal(got, b) {
		t.Errorf("Read %s: %v of %d bytes, %d, want %v", name, got[:min(len(got), 99)], len(got), e, b)
	}
}

// lists fails unless a directory has just these names, in this order.
func lists(t *testing.T, d *vfs.Dir, names ...string) {
	t.Helper()
	if got := d.List(); !slices.Equal(got, names) {
		t.Errorf("List: %q, want %q", got, names)
	}
}

// with makes a directory of files, all of it synced.
func with(t *testing.T, names ...string) *vfs.Dir {
	t.Helper()
	d := vfs.New()
	for _, n := range names {
		want(t, "Create", d.Create(n), api.OK)
		want(t, "Append", d.Append(n, []byte(n)), api.OK)
		want(t, "Sync", d.Sync(n), api.OK)
	}
	want(t, "SyncDir", d.SyncDir(), api.OK)
	return d
}

// changing are the changing calls, each with that name.
func changing(d *vfs.Dir, name string) map[string]func() api.Errno {
	return map[string]func() api.Errno{
		"Create":    func() api.Errno { return d.Create(name) },
		"Append":    func() api.Errno { return d.Append(name, []byte{1}) },
		"Sync":      func() api.Errno { return d.Sync(name) },
		"SyncDir":   func() api.Errno { return d.SyncDir() },
		"Rename":    func() api.Errno { return d.Rename(name, "z") },
		"Rename to": func() api.Errno { return d.Rename("z", name) },
		"Delete":    func() api.Errno { return d.Delete(name) },
	}
}

func TestNames(t *testing.T) {
	long := strings.Repeat("a", api.MaxName)
	for _, n := range []string{"a", "z", "0", "9", ".", "_", "..", "az09._", long} {
		want(t, "Create "+n, vfs.New().Create(n), api.OK)
	}
	for _, n := range []string{"", "A", "Z", "a/b", "a b", "a-b", "`", "{", "/", ":", "^", "-", "é", "a\x00", "\xff", long + "a"} {
		d := with(t, "z")
		told := strconv.Quote(n)
		for what, call := range changing(d, n) {
			if what != "SyncDir" {
				want(t, what+" "+told, call(), api.ErrArg)
			}
		}
		_, e := d.Read(n)
		want(t, "Read "+told, e, api.ErrArg)
		want(t, "Flip "+told, d.Flip(n, 0, 1), api.ErrArg)
		lists(t, d, "z")
	}
}

// TestNil is of P1.1 to P1.6 and P0.5.
func TestNil(t *testing.T) {
	var d *vfs.Dir
	for what, call := range changing(d, "A") {
		want(t, what, call(), api.ErrNil)
	}
	b, e := d.Read("A")
	want(t, "Read", e, api.ErrNil)
	want(t, "Flip", d.Flip("A", 0, 1), api.ErrNil)
	d.Fail(1, api.ErrIO, 0)
	d.Halt(0)
	if b != nil || d.List() != nil || d.Calls() != 0 || d.Crash([]int{1}) != nil {
		t.Error("a nil directory tells something")
	}
}

// TestZero: a Dir that New did not make has no files, and works.
func TestZero(t *testing.T) {
	d := &vfs.Dir{}
	lists(t, d)
	lists(t, d.Crash(nil))
	want(t, "SyncDir", d.SyncDir(), api.OK)
	want(t, "Rename", d.Rename("a", "b"), api.ErrMissing)
	want(t, "Create", d.Create("a"), api.OK)
	lists(t, d, "a")
	lists(t, d.Crash([]int{1}), "a")
}

func TestCreate(t *testing.T) {
	d := vfs.New()
	want(t, "Create", d.Create("a"), api.OK)
	holds(t, d, "a")
	want(t, "Append", d.Append("a", []byte{1}), api.OK)
	want(t, "Create again", d.Create("a"), api.ErrExists)
	holds(t, d, "a", 1)
}

func TestCreateFull(t *testing.T) {
	d := vfs.New()
	name := func(i int) string {
		return strings.Repeat("a", 1+i/1000) + string([]byte{'a' + byte(i/100%10), 'a' + byte(i/10%10), 'a' + byte(i%10)})
	}
	for i := range api.MaxFiles {
		if e := d.Create(name(i)); e != api.OK {
			t.Fatalf("Create %d: %d", i, e)
		}
	}
	want(t, "one too many", d.Create("zz"), api.ErrLong)
	want(t, "one that is there", d.Create(name(7)), api.ErrExists)
	want(t, "Rename", d.Rename(name(7), "zz"), api.OK)
	want(t, "still too many", d.Create(name(7)), api.ErrLong)
	want(t, "Delete", d.Delete("zz"), api.OK)
	want(t, "the last one", d.Create(name(7)), api.OK)
	if n := len(d.List()); n != api.MaxFiles {
		t.Errorf("%d files", n)
	}
}

func TestAppend(t *testing.T) {
	d := with(t, "a")
	want(t, "Append", d.Append("a", []byte{1, 0, 255}), api.OK)
	want(t, "Append of nothing", d.Append("a", nil), api.OK)
	want(t, "Append", d.Append("a", []byte{2}), api.OK)
	holds(t, d, "a", 'a', 1, 0, 255, 2)
	want(t, "Append", d.Append("b", nil), api.ErrMissing)
	lists(t, d, "a")
}

func TestAppendLong(t *testing.T) {
	d := vfs.New()
	d.Create("a")
	all := make([]byte, api.MaxFile+1)
	want(t, "too long at once", d.Append("a", all), api.ErrLong)
	holds(t, d, "a")
	want(t, "all but one", d.Append("a", all[2:]), api.OK)
	want(t, "two more", d.Append("a", []byte{1, 2}), api.ErrLong)
	if b, _ := d.Read("a"); len(b) != api.MaxFile-1 {
		t.Errorf("%d bytes", len(b))
	}
	want(t, "the last one", d.Append("a", []byte{1}), api.OK)
	want(t, "nothing more", d.Append("a", nil), api.OK)
	want(t, "one more", d.Append("a", []byte{1}), api.ErrLong)
	if b, _ := d.Read("a"); len(b) != api.MaxFile || b[api.MaxFile-1] != 1 {
		t.Errorf("%d bytes", len(b))
	}
}

func TestSync(t *testing.T) {
	d := with(t, "a", "b")
	d.Append("a", []byte{1, 2})
	d.Append("b", []byte{1, 2})
	want(t, "Sync", d.Sync("a"), api.OK)
	want(t, "Sync", d.Sync("c"), api.ErrMissing)
	d.Append("a", []byte{3})
	c := d.Crash(nil)
	holds(t, c, "a", 'a', 1, 2)
	holds(t, c, "b", 'b')
}

func TestRename(t *testing.T) {
	d := with(t, "a", "b")
	want(t, "Rename", d.Rename("c", "a"), api.ErrMissing)
	want(t, "Rename from itself to itself, missing", d.Rename("c", "c"), api.ErrMissing)
	want(t, "Rename from itself to itself", d.Rename("a", "a"), api.OK)
	lists(t, d, "a", "b")
	holds(t, d, "a", 'a')
	want(t, "Rename over another one", d.Rename("a", "b"), api.OK)
	lists(t, d, "b")
	holds(t, d, "b", 'a')
	want(t, "Rename", d.Rename("b", "c"), api.OK)
	lists(t, d, "c")
	holds(t, d, "c", 'a')
}

func TestDelete(t *testing.T) {
	d := with(t, "a", "b")
	want(t, "Delete", d.Delete("a"), api.OK)
	want(t, "Delete again", d.Delete("a"), api.ErrMissing)
	lists(t, d, "b")
	_, e := d.Read("a")
	want(t, "Read", e, api.ErrMissing)
	want(t, "Create anew", d.Create("a"), api.OK)
	holds(t, d, "a")
}

func TestRead(t *testing.T) {
	d := with(t, "b", "a", ".", "_", "0")
	lists(t, d, ".", "0", "_", "a", "b")
	b, e := d.Read("c")
	want(t, "Read", e, api.ErrMissing)
	if b != nil {
		t.Errorf("Read: %v beside an error", b)
	}
	d.Halt(0)
	b, e = d.Read("A")
	want(t, "Read of no name, halted", e, api.ErrHalt)
	if b != nil {
		t.Errorf("Read: %v beside an error", b)
	}
	lists(t, d)
}

// TestCalls: just the changing calls are counted, whatever they answer.
func TestCalls(t *testing.T) {
	for _, halted := range []bool{false, true} {
		for _, name := range []string{"a", "b", "A"} {
			d := with(t, "a")
			if halted {
				d.Halt(0)
			}
			n := d.Calls()
			if n != 4 {
				t.Errorf("%d calls, want 4", n)
			}
			for what, call := range changing(d, name) {
				call()
				n++
				if d.Calls() != n {
					t.Errorf("%s: %d calls, want %d", what, d.Calls(), n)
				}
			}
			d.Read(name)
			d.List()
			d.Fail(9, api.ErrIO, 0)
			d.Halt(9)
			d.Crash(nil)
			d.Flip(name, 0, 1)
			if d.Calls() != n {
				t.Errorf("%d calls, want %d", d.Calls(), n)
			}
		}
	}
}

// TestHalted is of P1.3: what a halted directory answers.
func TestHalted(t *testing.T) {
	for _, n := range []int{0, -1, math.MinInt} {
		d := with(t, "a", "z")
		d.Halt(n)
		d.Fail(1, api.ErrIO, 1)
		for _, name := range []string{"a", "b", "A"} {
			for what, call := range changing(d, name) {
				want(t, what, call(), api.ErrHalt)
			}
		}
		d.Halt(5)
		want(t, "Create, halted for ever", d.Create("b"), api.ErrHalt)
		want(t, "Flip", d.Flip("a", 0, 1), api.OK)
		lists(t, d)
		c := d.Crash(nil)
		lists(t, c, "a", "z")
		holds(t, c, "a", 'a'^1)
		want(t, "Create in what is left", c.Create("b"), api.OK)
	}
}

func TestHalt(t *testing.T) {
	d := with(t, "a")
	d.Halt(2)
	want(t, "first", d.Create("A"), api.ErrArg)
	lists(t, d, "a")
	want(t, "second", d.Create("b"), api.OK)
	lists(t, d)
	_, e := d.Read("a")
	want(t, "Read behind the last call", e, api.ErrHalt)
	want(t, "third", d.Create("c"), api.ErrHalt)
	lists(t, d.Crash([]int{1, 1}), "a", "b")
}

// TestHaltAgain: a later Halt takes the place of one that has not come.
func TestHaltAgain(t *testing.T) {
	d := with(t, "a")
	d.Halt(1)
	d.Halt(math.MaxInt)
	want(t, "first", d.Sync("a"), api.OK)
	want(t, "second", d.Sync("a"), api.OK)
	d.Halt(7)
	d.Halt(1)
	want(t, "third", d.Sync("a"), api.OK)
	want(t, "fourth", d.Sync("a"), api.ErrHalt)
}

// TestFailed is of P1.4: nothing happens by a call that fails.
func TestFailed(t *testing.T) {
	for what := range changing(nil, "a") {
		for _, name := range []string{"a", "A", "missing"} {
			d := with(t, "a", "z")
			d.Create("new")
			d.Append("z", []byte{1})
			d.Fail(1, api.ErrFull, -1)
			want(t, what, changing(d, name)[what](), api.ErrFull)
			lists(t, d, "a", "new", "z")
			holds(t, d, "a", 'a')
			c := d.Crash(nil)
			lists(t, c, "a", "z")
			holds(t, c, "z", 'z')
			want(t, "the next one", d.Create("b"), api.OK)
		}
	}
}

// TestFailAppend: a part of the bytes comes to be there.
func TestFailAppend(t *testing.T) {
	for _, x := range []struct{ part, kept int }{{0, 0}, {1, 1}, {2, 2}, {3, 3}, {4, 0}, {5, 1}, {11, 3}, {-1, 0}, {-2, 0}, {math.MinInt, 0}, {math.MaxInt, math.MaxInt % 4}} {
		d := with(t, "a")
		d.Fail(1, api.ErrHalt, x.part)
		want(t, "Append", d.Append("a", []byte{1, 2, 3}), api.ErrHalt)
		holds(t, d, "a", append([]byte{'a'}, []byte{1, 2, 3}[:x.kept]...)...)
		holds(t, d.Crash(nil), "a", 'a')
		want(t, "the next one", d.Append("a", []byte{4}), api.OK)
	}
	d := with(t, "a")
	d.Fail(1, api.ErrIO, 3)
	want(t, "Append of nothing", d.Append("a", nil), api.ErrIO)
	d.Fail(1, api.ErrIO, 3)
	want(t, "Append of no file", d.Append("b", []byte{1, 2, 3}), api.ErrIO)
	d.Fail(1, api.ErrIO, 3)
	want(t, "Append of no name", d.Append("B", []byte{1, 2, 3}), api.ErrIO)
	d.Fail(1, api.ErrIO, 3)
	want(t, "Append of too much", d.Append("a", make([]byte, api.MaxFile)), api.ErrIO)
	holds(t, d, "a", 'a')
	lists(t, d, "a")
	d.Fail(1, api.ErrIO, 1)
	want(t, "Append of as much as can be", d.Append("a", make([]byte, api.MaxFile-1)), api.ErrIO)
	holds(t, d, "a", 'a', 0)
}

// TestFailCounts: which call it is that fails.
func TestFailCounts(t *testing.T) {
	d := with(t, "a")
	d.Fail(3, 99, 0)
	want(t, "first", d.Sync("a"), api.OK)
	want(t, "second", d.Sync("A"), api.ErrArg)
	d.Read("a")
	d.Flip("a", 0, 0)
	want(t, "third", d.Sync("a"), 99)
	want(t, "fourth", d.Sync("a"), api.OK)
	d.Fail(1, api.ErrIO, 0)
	d.Fail(2, api.ErrFull, 0)
	want(t, "fifth", d.Sync("a"), api.OK)
	want(t, "sixth", d.Sync("a"), api.ErrFull)
	for _, x := range []struct {
		n int
		e api.Errno
	}{{0, api.ErrIO}, {-1, api.ErrIO}, {math.MinInt, api.ErrIO}, {1, api.OK}, {math.MaxInt, api.ErrIO}} {
		d.Fail(1, api.ErrFull, 0)
		d.Fail(x.n, x.e, 0)
		want(t, "none is asked", d.Sync("a"), api.OK)
	}
	d.Halt(1)
	d.Fail(1, api.ErrFull, 0)
	want(t, "the last call fails", d.Sync("a"), api.ErrFull)
	d.Fail(1, api.ErrFull, 0)
	want(t, "halted goes first", d.Sync("a"), api.ErrHalt)
}

func TestFlip(t *testing.T) {
	d := with(t, "a")
	d.Append("a", []byte{0xf0, 0})
	want(t, "synced", d.Flip("a", 0, 3), api.OK)
	want(t, "not synced", d.Flip("a", 1, 0xff), api.OK)
	want(t, "no bit", d.Flip("a", 2, 0), api.OK)
	holds(t, d, "a", 'a'^3, 0x0f, 0)
	holds(t, d.Crash([]int{2}), "a", 'a'^3, 0x0f, 0)
	for _, at := range []int{-1, 3, math.MinInt, math.MaxInt} {
		want(t, "no such place", d.Flip("a", at, 1), api.ErrArg)
		want(t, "no such file", d.Flip("b", at, 1), api.ErrMissing)
	}
	holds(t, d, "a", 'a'^3, 0x0f, 0)
	d.Fail(1, api.ErrIO, 0)
	want(t, "not asked to fail", d.Flip("a", 0, 3), api.OK)
	want(t, "the next call fails", d.Sync("a"), api.ErrIO)
}

// TestMemory is of P1.8.
func TestMemory(t *testing.T) {
	d := vfs.New()
	d.Create("a")
	d.Create("b")
	given := []byte{1, 2, 3}
	d.Append("a", given[:2])
	d.Append("b", given[:2])
	d.Append("a", []byte{9})
	if !bytes.Equal(given, []byte{1, 2, 3}) {
		t.Errorf("what was handed in is %v", given)
	}
	given[0] = 7
	holds(t, d, "a", 1, 2, 9)
	told, _ := d.Read("a")
	told[0] = 7
	_ = append(told[:1], 8, 8, 8)
	holds(t, d, "a", 1, 2, 9)
	d.Append("a", []byte{4})
	if told[2] != 8 {
		t.Errorf("what was told is %v", told)
	}
	names := d.List()
	names[0] = "x"
	lists(t, d, "a", "b")

	choices := []int{1, 1, 4, 2}
	c := d.Crash(choices)
	if !slices.Equal(choices, []int{1, 1, 4, 2}) {
		t.Errorf("the choices are %v", choices)
	}
	c.Flip("a", 0, 1)
	c.Append("a", []byte{5})
	c.Delete("b")
	lists(t, d, "a", "b")
	holds(t, d, "a", 1, 2, 9, 4)
	d.Flip("a", 1, 1)
	d.Rename("a", "b")
	lists(t, c, "a")
	holds(t, c, "a", 0, 2, 9, 4, 5)
	choices[0] = 0
	lists(t, c.Crash([]int{1}), "a")
}
