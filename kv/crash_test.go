package kv_test

import (
	"fmt"
	"math/rand"
	"slices"
	"strings"
	"testing"

	"klaxon/api"
	"klaxon/disk"
	"klaxon/kv"
	"klaxon/wal"
)

// scene is a disk with a store, the model of it, and the steps of a change.
type scene struct {
	name  string
	d     *disk.Disk
	m     model
	steps []step
}

// scenes are changes that are appended, and changes with which the log is started anew, in either half of the disk.
func scenes(t *testing.T) []scene {
	t.Helper()
	short := []step{put("a", "new"), drop("b"), put("c", "")}
	long := []step{putBytes("c", some(90)), drop("a"), put("\x00", "zero")}
	var l []scene
	for _, room := range []int{400, 35, 90} {
		s, d, m := nearlyFull(t, 1024, room)
		name := fmt.Sprint("with a room of ", room)
		l = append(l, scene{name, d.Copy(), m, short}, scene{name + ", long", d.Copy(), m, long}, scene{name + ", drop", d.Copy(), m, []step{drop("a"), drop("b")}})
		for openLog(t, started(d)).Generation() < 3 {
			do(t, s, put("b", "y"), put("~", "dropped"), drop("~"))
		}
		l = append(l, scene{name + ", anew", d.Copy(), m, short}, scene{name + ", anew, long", d.Copy(), m, long})
		fill(t, s, 10)
		l = append(l, scene{name + ", anew and full", d.Copy(), m, long}, scene{name + ", anew, full, drop", d.Copy(), m, []step{drop("b"), drop("a")}})
	}
	s, d, _ := nearlyFull(t, 1024, 11)
	do(t, s, drop("a"), drop("b"))
	return append(l, scene{"of nothing", d, nil, short}, scene{"new", blank(t, 1024), nil, short})
}

// cuts are after how many of its bytes a write on a disk of 1024 is cut off: after each number of them, and after more.
func cuts() []int {
	l := []int{513, 1024, greatest}
	for n := range 513 {
		l = append(l, n)
	}
	return l
}

// few are some of the cuts.
func few() []int { return []int{0, 1, 2, 4, 8, 9, 15, 16, 17, 30, 100, 300, 495, greatest} }

// either returns which one of two models a disk holds when its store is opened again, and reports any other.
func either(t *testing.T, d *disk.Disk, before, after model) model {
	t.Helper()
	s := open(t, started(d))
	if slices.EqualFunc(s.Scan(""), after, samePair) {
		has(t, s, after)
		return after
	}
	has(t, s, before)
	return before
}

// cutCommit commits the change of a scene, while the disk goes down, beside a log to which the same is done.
func (x scene) cutCommit(t *testing.T, writes, bytes int) *disk.Disk {
	t.Helper()
	d, twin := x.d.Copy(), x.d.Copy()
	s, l := open(t, d), openLog(t, twin)
	c := begun(t, s, x.steps...)
	light(t, d, writes, bytes)
	light(t, twin, writes, bytes)
	if e := x.m.twin(l, twin.Size(), x.steps); e != api.ErrDown {
		t.Fatalf("the log of a change that is cut off: error %d", e)
	}
	commits(t, c, api.ErrDown)
	sameDisk(t, d, twin)
	has(t, s, x.m)
	reading(t, c, x.m.after(x.steps...), "", "a", "b", "c")
	commits(t, c, api.ErrOrder)
	return d
}

// commitWrites returns how many writes the Commit of a scene does.
func (x scene) commitWrites(t *testing.T) int {
	t.Helper()
	d := x.d.Copy()
	s := open(t, d)
	before := d.Writes()
	do(t, s, x.steps...)
	return d.Writes() - before
}

// openWrites returns how many writes Open does on a disk.
func openWrites(t *testing.T, d *disk.Disk) int {
	t.Helper()
	c := d.Copy()
	open(t, c)
	return c.Writes() - d.Writes()
}

// P9.4: a crash at each write of Commit, after each number of bytes: all of the change is there, or nothing of it; and
// P9.3: the store itself is as it was, and can't be committed to any more.
func TestCrashCommit(t *testing.T) {
	t.Parallel()
	kinds := map[int]int{}
	for _, x := range scenes(t) {
		after := x.m.after(x.steps...)
		writes := x.commitWrites(t)
		kinds[writes]++
		found := map[bool]int{}
		for w := range writes {
			for _, n := range cuts() {
				d := x.cutCommit(t, w, n)
				got := either(t, d, x.m, after)
				// The last write makes the change, or the log that was started anew, count.
				if done := w == writes-1 && n > 0; done != slices.EqualFunc(got, after, samePair) {
					t.Fatalf("%s: cut off at write %d of %d, after %d bytes: the change is there: %v", x.name, w, writes, n, !done)
				}
				found[len(got) == len(after)]++
			}
		}
		if found[true] == 0 {
			t.Errorf("%s: no crash left the change", x.name)
		}
	}
	if kinds[2] == 0 || kinds[4] == 0 || kinds[5] == 0 {
		t.Errorf("the changes do these numbers of writes: %v", kinds)
	}
}

// settled reports a disk on which, after that many further crashes, at each write of Open, there is not what the model has.
func settled(t *testing.T, d *disk.Disk, m model, crashes int) {
	t.Helper()
	d = started(d)
	kept(t, d, m)
	if crashes == 0 {
		return
	}
	for w := range openWrites(t, d) {
		for _, n := range few() {
			c := d.Copy()
			light(t, c, w, n)
			unopened(t, c, api.ErrDown)
			settled(t, c, m, crashes-1)
		}
	}
}

// P9.4: a crash at each write of Commit, and then crashes at each write of Open.
func TestCrashCommitAndOpen(t *testing.T) {
	t.Parallel()
	for _, x := range scenes(t) {
		after := x.m.after(x.steps...)
		for w := range x.commitWrites(t) {
			for _, n := range few() {
				d := x.cutCommit(t, w, n)
				settled(t, d, either(t, d, x.m, after), 2)
			}
		}
	}
}

// P9.4: a crash in one change, then another one in the next, whatever the first has left.
func TestCrashTwoCommits(t *testing.T) {
	t.Parallel()
	for _, x := range scenes(t) {
		for w := range x.commitWrites(t) {
			for _, n := range few() {
				d := started(x.cutCommit(t, w, n))
				next := scene{x.name, d, either(t, d, x.m, x.m.after(x.steps...)), []step{put("c", "second"), put("d", "second"), drop("b")}}
				open(t, d)
				for v := range next.commitWrites(t) {
					for _, k := range few() {
						either(t, next.cutCommit(t, v, k), next.m, next.m.after(next.steps...))
					}
				}
			}
		}
	}
}

// P9.4: crashes in Open, on a new disk and on one with other bytes: an empty store is there in the end.
func TestCrashOpen(t *testing.T) {
	t.Parallel()
	used := blank(t, 1024)
	if e := used.Write(0, some(1024)); e != api.OK {
		t.Fatalf("filling the disk: error %d", e)
	}
	for _, d := range []*disk.Disk{blank(t, 1024), blank(t, 1025), used} {
		settled(t, d, nil, 3)
	}
}

// P9.3, P9.4: after a crash the store that is opened again is used on, as if the crash had not been.
func TestUseAfterCrash(t *testing.T) {
	t.Parallel()
	for _, x := range scenes(t) {
		for w := range x.commitWrites(t) {
			for _, n := range few() {
				d := x.cutCommit(t, w, n)
				m := either(t, d, x.m, x.m.after(x.steps...))
				d.Start()
				s := open(t, d)
				for i := range 20 {
					steps := []step{put("n", fmt.Sprint(i)), put("b", "on"), drop("a")}
					do(t, s, steps...)
					m = m.after(steps...)
				}
				has(t, s, m)
				kept(t, d, m)
			}
		}
	}
}

// machine is a store, and a log to whose disk the same is done, with the model of what is there.
type machine struct {
	d, twin *disk.Disk
	s       *kv.Store
	l       *wal.Log
	m       model
}

// lit lights the same fuse on both disks.
func (x *machine) lit(t *testing.T, writes, bytes int) {
	t.Helper()
	light(t, x.d, writes, bytes)
	light(t, x.twin, writes, bytes)
}

// start starts both disks, without a fuse.
func (x *machine) start() {
	x.d.Start()
	x.twin.Start()
}

// commit commits a change, and returns its error and what is there then, or may be there.
func (x *machine) commit(t *testing.T, steps []step) (api.Errno, model) {
	t.Helper()
	want := x.m.twin(x.l, x.twin.Size(), steps)
	c := begun(t, x.s, steps...)
	commits(t, c, want)
	sameDisk(t, x.d, x.twin)
	after := x.m.after(steps...)
	if want == api.OK {
		x.m = after
	}
	has(t, x.s, x.m)
	return want, after
}

// reopen opens the store until no crash hinders it, and takes over which of the two it has.
func (x *machine) reopen(t *testing.T, r *rand.Rand, after model) {
	t.Helper()
	for {
		x.start()
		if r.Intn(2) == 0 {
			x.lit(t, r.Intn(3), r.Intn(1100))
		}
		l, want := wal.Open(x.twin)
		s, e := kv.Open(x.d)
		if e != want {
			t.Fatalf("Open: error %d, want %d", e, want)
		}
		sameDisk(t, x.d, x.twin)
		if e == api.OK {
			x.s, x.l = s, l
			break
		}
	}
	x.start()
	x.m = either(t, x.d, x.m, after)
	has(t, x.s, x.m)
}

// randomChange returns some steps, now and then such as need much room, or more than there is.
func randomChange(r *rand.Rand) []step {
	var steps []step
	for range r.Intn(5) {
		steps = append(steps, randomStep(r))
	}
	switch r.Intn(12) {
	case 0:
		steps = append(steps, put("big", strings.Repeat("B", r.Intn(500))))
	case 1:
		steps = append(steps, drop("big"))
	case 2:
		steps = append(steps, putBytes("huge", some(1000)))
	}
	return steps
}

// P9.1 to P9.4: a store that is used through many crashes, beside the log of layer 8 and the model: each byte of the disk.
func TestManyCrashes(t *testing.T) {
	t.Parallel()
	for seed := range int64(200) {
		r := rand.New(rand.NewSource(seed))
		d := blank(t, 1024+r.Intn(400))
		x := &machine{d: d, twin: d.Copy()}
		x.reopen(t, r, nil)
		for range 120 {
			if r.Intn(4) == 0 {
				x.lit(t, r.Intn(7), r.Intn(600))
			}
			e, after := x.commit(t, randomChange(r))
			if e != api.ErrDown && r.Intn(20) > 0 {
				continue
			}
			if r.Intn(3) == 0 {
				// A store whose disk was down takes no more changes, even if the disk is started again.
				x.start()
				x.commit(t, randomChange(r))
			}
			if e != api.ErrDown {
				after = x.m
			}
			x.reopen(t, r, after)
		}
		kept(t, d, x.m)
	}
}
