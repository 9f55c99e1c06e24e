package wal_test

import (
	"testing"

	"klaxon/api"
	"klaxon/disk"
	"klaxon/wal"
)

// action does one thing on a disk; it lights the fuse before it does it, and after what it has to do ahead of it.
type action func(t *testing.T, d *disk.Disk, lit func()) api.Errno

func opening(t *testing.T, d *disk.Disk, lit func()) api.Errno {
	lit()
	l, e := wal.Open(d)
	if (l == nil) != (e != api.OK) {
		t.Fatalf("Open: %v with error %d", l, e)
	}
	return e
}

func appending(b []byte) action {
	return func(t *testing.T, d *disk.Disk, lit func()) api.Errno {
		l := open(t, d)
		lit()
		return l.Append(b)
	}
}

func startingAnew(records [][]byte) action {
	return func(t *testing.T, d *disk.Disk, lit func()) api.Errno {
		l := open(t, d)
		lit()
		return l.Anew(records)
	}
}

// cuts returns after how many bytes a write of n bytes is cut off: after each number of them, and after more than there
// are; of a long write, after some.
func cuts(n int) []int {
	var l []int
	for k := range n + 3 {
		if n < 1200 || k < 30 || k > n-20 || k%(n/15) == 0 {
			l = append(l, k)
		}
	}
	return append(l, greatest)
}

// cut returns data after the first writes, and the first k bytes of the one after them.
func cut(data []byte, plan []write, writes, k int) []byte {
	last := plan[writes]
	last.b = last.b[:min(k, len(last.b))]
	return laid(laid(data, plan[:writes]), []write{last})
}

// writesAs reports an action on a disk with these bytes that does not do just these writes, in this order: it is cut off
// at each of them, after each number of bytes, and then not at all.
func writesAs(t *testing.T, data []byte, plan []write, do action) {
	t.Helper()
	for writes := range plan {
		for _, k := range cuts(len(plan[writes].b)) {
			d := diskOf(t, data)
			if e := do(t, d, func() { light(t, d, writes, k) }); e != api.ErrDown {
				t.Fatalf("cut off at write %d, after %d bytes: error %d", writes, k, e)
			}
			is(t, d, false, 1+writes+1)
			holds(t, d, cut(data, plan, writes, k))
		}
	}
	d := diskOf(t, data)
	if e := do(t, d, func() { light(t, d, len(plan), 0) }); e != api.OK {
		t.Fatalf("with as many writes as there should be: error %d", e)
	}
	is(t, d, true, 1+len(plan))
	holds(t, d, laid(data, plan))
}

// asModel opens a log on these bytes, reports where it is not as the model says, and returns it with the model.
func asModel(t *testing.T, data []byte) (*wal.Log, *disk.Disk, *model) {
	t.Helper()
	m, plan := opened(data)
	m.data = laid(m.data, plan)
	d := diskOf(t, data)
	l := open(t, d)
	is(t, d, true, 1+len(plan))
	holds(t, d, m.data)
	has(t, l, m.records, m.generation, m.room())
	return l, d, m
}

// steady reports a log whose disk changes when it is opened once more, or that is another one then.
func steady(t *testing.T, d *disk.Disk, records [][]byte, generation, room int) {
	t.Helper()
	before, writes := bytesOf(t, d), d.Writes()
	has(t, open(t, d), records, generation, room)
	holds(t, d, before)
	is(t, d, true, writes)
}
