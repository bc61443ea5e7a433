package vfs

import (
	"maps"
	"math"
	"slices"
)

// Crash tells what may be left when power goes: P1.5.
func (d *Dir) Crash(choices []int) *Dir {
	if d == nil {
		return nil
	}
	next := func() int {
		if len(choices) == 0 {
			return 0
		}
		c := choices[0]
		choices = choices[1:]
		return c
	}
	left := d.kept(next)
	out := New()
	for _, name := range slices.Sorted(maps.Keys(left)) {
		out.now[name] = left[name].cut(next())
	}
	out.durable = maps.Clone(out.now)
	return out
}

// kept tells the durable directory with those changes made to it that the choices keep.
func (d *Dir) kept(next func() int) entries {
	left := entries{}
	maps.Copy(left, d.durable)
	for _, c := range d.changes {
		if next()%2 != 0 {
			c(left)
		}
	}
	return left
}

// cut tells what is left of a file by a choice; it is synced.
func (f *file) cut(choice int) *file {
	n := f.synced + size(choice)%(len(f.bytes)-f.synced+1)
	return &file{bytes: slices.Clone(f.bytes[:n]), synced: n}
}

// size is a number without its sign; the least int has none, and is 0.
func size(n int) int {
	if n == math.MinInt {
		return 0
	}
	return max(n, -n)
}
