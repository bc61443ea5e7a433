package vfs_test

import (
	"bytes"
	"maps"
	"math"
	"slices"
	"testing"

	"lectern/api"
	"lectern/vfs"
)

// grown makes the file of the chapter's first example.
func grown(sync bool) *vfs.Dir {
	d := vfs.New()
	d.Create("a")
	d.Append("a", []byte{1, 2})
	d.Sync("a")
	d.Append("a", []byte{3})
	if sync {
		d.SyncDir()
	}
	return d
}

// TestExamples has the chapter's table.
func TestExamples(t *testing.T) {
	holds(t, grown(true).Crash([]int{1}), "a", 1, 2, 3)
	lists(t, grown(false).Crash([]int{0}))
	holds(t, grown(false).Crash([]int{1, 0}), "a", 1, 2)

	d := vfs.New()
	d.Create("a")
	d.SyncDir()
	d.Rename("a", "b")
	lists(t, d.Crash([]int{0}), "a")
	lists(t, d.Crash([]int{1}), "b")

	d = vfs.New()
	d.Fail(2, api.ErrFull, 4)
	want(t, "Create", d.Create("a"), api.OK)
	want(t, "Append", d.Append("a", []byte{1, 2, 3}), api.ErrFull)
	holds(t, d, "a")

	d = vfs.New()
	d.Halt(1)
	want(t, "Create a", d.Create("a"), api.OK)
	want(t, "Create b", d.Create("b"), api.ErrHalt)
	_, e := d.Read("a")
	want(t, "Read a", e, api.ErrHalt)

	d = vfs.New()
	want(t, "Create A", d.Create("A"), api.ErrArg)
	want(t, "Create of nothing", d.Create(""), api.ErrArg)
	want(t, "Create a", d.Create("a"), api.OK)
	want(t, "Create a again", d.Create("a"), api.ErrExists)
	want(t, "Append b", d.Append("b", nil), api.ErrMissing)
}

// TestCrashFresh: what is left is durable, synced, and neither halted nor asked to fail.
func TestCrashFresh(t *testing.T) {
	d := grown(true)
	d.Fail(1, api.ErrIO, 0)
	d.Halt(0)
	c := d.Crash([]int{1})
	if c.Calls() != 0 {
		t.Errorf("%d calls", c.Calls())
	}
	for range 2 {
		c = c.Crash(nil)
		lists(t, c, "a")
		holds(t, c, "a", 1, 2, 3)
	}
	want(t, "Append", c.Append("a", []byte{4}), api.OK)
	want(t, "Delete", c.Delete("a"), api.OK)
	holds(t, c.Crash(nil), "a", 1, 2, 3)
	lists(t, c.Crash([]int{1}))
}

// TestCrashStays: a crash does nothing to the directory itself.
func TestCrashStays(t *testing.T) {
	d := grown(false)
	d.Create("b")
	for range 2 {
		lists(t, d.Crash([]int{1, 1}), "a", "b")
		lists(t, d.Crash([]int{0, 1}), "b")
		lists(t, d, "a", "b")
		holds(t, d, "a", 1, 2, 3)
	}
	if d.Calls() != 5 {
		t.Errorf("%d calls", d.Calls())
	}
}

// TestCrashChoices: which choices keep a change, and how many bytes they leave.
func TestCrashChoices(t *testing.T) {
	for _, x := range []struct {
		choice int
		kept   bool
		more   int
	}{{0, false, 0}, {1, true, 1}, {2, false, 2}, {3, true, 0}, {7, true, 1}, {-1, true, 1}, {-2, false, 2}, {-3, true, 0}, {-5, true, 2}, {math.MinInt, false, 0}, {math.MaxInt, true, math.MaxInt % 3}, {-math.MaxInt, true, math.MaxInt % 3}} {
		d := vfs.New()
		d.Create("a")
		names := []string{}
		if x.kept {
			names = append(names, "a")
		}
		lists(t, d.Crash([]int{x.choice}), names...)
		d.Append("a", []byte{1})
		d.Sync("a")
		d.SyncDir()
		d.Append("a", []byte{2, 3})
		holds(t, d.Crash([]int{x.choice, 9, 9}), "a", []byte{1, 2, 3}[:1+x.more]...)
	}
}

// TestCrashOrder: first the changes have their choices, in their order, then the files, by their names.
func TestCrashOrder(t *testing.T) {
	d := vfs.New()
	for _, n := range []string{"c", "a", "b"} {
		d.Create(n)
		d.Append(n, []byte{1, 2, 3})
	}
	c := d.Crash([]int{1, 1, 0, 2, 1, 3})
	lists(t, c, "a", "c")
	holds(t, c, "a", 1, 2)
	holds(t, c, "c", 1)
	c = d.Crash([]int{1, 1, 1, 2, 3})
	holds(t, c, "a", 1, 2)
	holds(t, c, "b", 1, 2, 3)
	holds(t, c, "c")
}

// TestCrashNoChange: what answered an error, and a Rename from itself to itself, is no change and has no choice.
func TestCrashNoChange(t *testing.T) {
	d := with(t, "a", "b")
	d.Rename("a", "a")
	d.Create("a")
	d.Delete("c")
	d.Rename("c", "d")
	d.Fail(1, api.ErrIO, 0)
	d.Delete("a")
	d.Create("c")
	lists(t, d.Crash([]int{1}), "a", "b", "c")
	lists(t, d.Crash([]int{0, 1, 1, 1, 1}), "a", "b")
	d.Fail(1, api.ErrIO, 0)
	d.SyncDir()
	lists(t, d.Crash(nil), "a", "b")
}

// TestCrashParted: changes of which only some are kept.
func TestCrashParted(t *testing.T) {
	d := vfs.New()
	d.Create("a")
	d.Append("a", []byte{1})
	d.Sync("a")
	d.Rename("a", "b")
	lists(t, d.Crash([]int{1, 0}), "a")
	c := d.Crash([]int{0, 1})
	lists(t, c, "b")
	holds(t, c, "b", 1)

	d = with(t, "a", "b") // the name goes only if it has that file then
	d.Delete("a")
	d.Rename("b", "a")
	d.Rename("a", "c")
	c = d.Crash([]int{0, 0, 1})
	lists(t, c, "a", "b", "c")
	holds(t, c, "a", 'a')
	holds(t, c, "b", 'b')
	holds(t, c, "c", 'b')
	c = d.Crash([]int{1, 0, 1})
	lists(t, c, "b", "c")
	c = d.Crash([]int{0, 1, 1})
	lists(t, c, "c")

	c = d.Crash([]int{0, 0, 1}) // two names of one file are two files behind it
	c.Append("b", []byte{9})
	c.Flip("c", 0, 1)
	holds(t, c, "b", 'b', 9)
	holds(t, c, "c", 'b'^1)

	d = with(t, "a") // whatever had the name is gone
	d.Delete("a")
	d.Create("a")
	holds(t, d.Crash([]int{0, 0}), "a", 'a')
	holds(t, d.Crash([]int{0, 1}), "a")
	lists(t, d.Crash([]int{1, 0}))
	d.Delete("a")
	lists(t, d.Crash([]int{0, 0, 1}))
}

// TestCrashDeleted: the durable directory's files go on having what is appended and synced.
func TestCrashDeleted(t *testing.T) {
	d := with(t, "a")
	d.Append("a", []byte{1, 2})
	d.Rename("a", "b")
	d.Append("b", []byte{3})
	d.Sync("b")
	d.Append("b", []byte{4})
	d.Delete("b")
	holds(t, d.Crash([]int{0, 0, 0}), "a", 'a', 1, 2, 3)
	holds(t, d.Crash([]int{0, 0, 1}), "a", 'a', 1, 2, 3, 4)
	lists(t, d.Crash([]int{1, 1}))
}

// dice throws numbers by a rule of their own, the same ones each time.
type dice uint64

func (x *dice) below(n int) int {
	*x = *x*6364136223846793005 + 1442695040888963407
	return int(uint64(*x>>33) % uint64(n))
}

// model is the chapter's directory, told once more by lists of numbers and nothing shared.
type model struct {
	bytes   [][]byte
	synced  []int
	now     map[string]int
	durable map[string]int
	changes []change
}

// change has a name that a file leaves, and one that gets it; either may be missing.
type change struct {
	from, to string
	file     int
}

func (m *model) apply(to map[string]int, c change) {
	if f, ok := to[c.from]; ok && (f == c.file || c.to == "") {
		delete(to, c.from)
	}
	if c.to != "" {
		to[c.to] = c.file
	}
}

func (m *model) change(c change) {
	m.apply(m.now, c)
	m.changes = append(m.changes, c)
}

// step makes one call to both directories and tells what they answer.
func (m *model) step(d *vfs.Dir, x *dice) (got, want api.Errno) {
	names := []string{"a", "b", "c"}
	name, other := names[x.below(3)], names[x.below(3)]
	f, there := m.now[name]
	miss := api.OK
	if !there {
		miss = api.ErrMissing
	}
	switch x.below(7) {
	case 0:
		if there {
			return d.Create(name), api.ErrExists
		}
		m.bytes, m.synced = append(m.bytes, nil), append(m.synced, 0)
		m.change(change{to: name, file: len(m.bytes) - 1})
		return d.Create(name), api.OK
	case 1, 2:
		b := bytes.Repeat([]byte{byte(x.below(256))}, x.below(4))
		if there {
			m.bytes[f] = slices.Concat(m.bytes[f], b)
		}
		return d.Append(name, b), miss
	case 3:
		if there {
			m.synced[f] = len(m.bytes[f])
		}
		return d.Sync(name), miss
	case 4:
		if there && name != other {
			m.change(change{from: name, to: other, file: f})
		}
		return d.Rename(name, other), miss
	case 5:
		if there {
			m.change(change{from: name, file: f})
		}
		return d.Delete(name), miss
	}
	if x.below(3) > 0 {
		return api.OK, api.OK
	}
	m.durable, m.changes = maps.Clone(m.now), nil
	return d.SyncDir(), api.OK
}

// crash tells what the choices leave.
func (m *model) crash(choices []int) map[string][]byte {
	left := maps.Clone(m.durable)
	for i, c := range m.changes {
		if choices[i]%2 != 0 {
			m.apply(left, c)
		}
	}
	out := map[string][]byte{}
	for i, n := range slices.Sorted(maps.Keys(left)) {
		f := left[n]
		more := choices[len(m.changes)+i] % (len(m.bytes[f]) - m.synced[f] + 1)
		out[n] = m.bytes[f][:m.synced[f]+more]
	}
	return out
}

// same fails unless a directory has just these files.
func same(t *testing.T, what string, d *vfs.Dir, files map[string][]byte) {
	t.Helper()
	if got, want := d.List(), slices.Sorted(maps.Keys(files)); !slices.Equal(got, want) {
		t.Fatalf("%s: List: %v, want %v", what, got, want)
	}
	for n, want := range files {
		if got, e := d.Read(n); e != api.OK || !bytes.Equal(got, want) {
			t.Fatalf("%s: Read %s: %v, %d, want %v", what, n, got, e, want)
		}
	}
}

// TestModel holds the directory against the model, by many rows of calls and many crashes.
func TestModel(t *testing.T) {
	x := dice(1)
	for range 400 {
		d := vfs.New()
		m := &model{now: map[string]int{}, durable: map[string]int{}}
		for range 40 {
			if got, want := m.step(d, &x); got != want {
				t.Fatalf("a call answers %d, want %d", got, want)
			}
			now := map[string][]byte{}
			for n, f := range m.now {
				now[n] = m.bytes[f]
			}
			same(t, "now", d, now)
			choices := make([]int, len(m.changes)+8)
			for i := range choices {
				choices[i] = x.below(1000)
			}
			same(t, "crashed", d.Crash(choices), m.crash(choices))
		}
	}
}

// TestTogether is of P1.7: what holds whatever the choices.
func TestTogether(t *testing.T) {
	x := dice(2)
	for range 300 {
		d := vfs.New()
		m := &model{now: map[string]int{}, durable: map[string]int{}}
		for range 30 {
			m.step(d, &x)
			choices := make([]int, x.below(40))
			for i := range choices {
				choices[i] = x.below(2000) - 1000
			}
			c := d.Crash(choices)
			for _, n := range c.List() {
				b, _ := c.Read(n)
				if !m.held(b) {
					t.Fatalf("%s: %v was never held", n, b)
				}
			}
			if len(m.changes) == 0 && !slices.Equal(c.List(), d.List()) {
				t.Fatalf("%v is left of %v", c.List(), d.List())
			}
		}
		whole := map[string][]byte{}
		for _, n := range d.List() {
			whole[n], _ = d.Read(n)
			d.Sync(n)
		}
		d.SyncDir()
		same(t, "all synced", d.Crash([]int{x.below(99), x.below(99), x.below(99), x.below(99)}), whole)
	}
}

// held: is it a beginning of what some file holds, with at least what was synced of it?
func (m *model) held(b []byte) bool {
	for f, l := range m.bytes {
		if bytes.HasPrefix(l, b) && len(b) >= m.synced[f] {
			return true
		}
	}
	return false
}
