package wal_test

import (
	"bytes"
	"math/rand"
	"testing"

	"klaxon/api"
	"klaxon/disk"
	"klaxon/wal"
)

// fewer returns some of the cuts, among them the first and the last ones.
func fewer(l []int, step int) []int {
	var out []int
	for i, k := range l {
		if i < 12 || i >= len(l)-12 || i%step == 0 {
			out = append(out, k)
		}
	}
	return out
}

// survives reports a disk, cut off in the middle of something, whose log does not have these records and this generation
// when it is opened, be it at once, or after that many further crashes, at each write of Open.
func survives(t *testing.T, data []byte, records [][]byte, generation, crashes int) {
	t.Helper()
	d := diskOf(t, data)
	l := open(t, d)
	has(t, l, records, generation, l.Room())
	steady(t, d, records, generation, l.Room())
	if crashes == 0 {
		return
	}
	_, plan := opened(data)
	for writes := range plan {
		for _, k := range fewer(cuts(len(plan[writes].b)), 40) {
			c := diskOf(t, data)
			light(t, c, writes, k)
			unopened(t, c)
			survives(t, bytesOf(t, c), records, generation, crashes-1)
		}
	}
}

// crashes cuts an action off at each of its writes, after each number of bytes, and hands on what is then on the disk,
// and whether the last byte of all was written.
func crashes(t *testing.T, data []byte, plan []write, do action, then func(data []byte, complete bool)) {
	t.Helper()
	for writes := range plan {
		for _, k := range cuts(len(plan[writes].b)) {
			d := diskOf(t, data)
			if e := do(t, d, func() { light(t, d, writes, k) }); e != api.ErrDown {
				t.Fatalf("cut off at write %d, after %d bytes: error %d", writes, k, e)
			}
			then(bytesOf(t, d), writes == len(plan)-1 && k >= len(plan[writes].b))
		}
	}
}

// clean are disks on which a log is, with records in either half, and remains in the other.
func clean() [][]byte {
	return [][]byte{
		both(halfBytes(512, 1, 1), make([]byte, 512)),
		both(halfBytes(512, 7, 1, some(20), some(30)), some(512)),
		append(both(halfBytes(512, 2, 1, some(200)), halfBytes(512, 3, 1, some(5), some(77))), 9),
	}
}

// P8.2: a crash at each write of Append: the log has the records as before, or also the new one.
func TestCrashAppend(t *testing.T) {
	t.Parallel()
	for _, data := range clean() {
		m, _ := opened(data)
		payload := some(13)
		_, plan := m.appended(payload)
		after := append(bytesList(m.records), payload)
		crashes(t, data, plan, appending(payload), func(data []byte, complete bool) {
			if complete {
				survives(t, data, after, m.generation, 2)
			} else {
				survives(t, data, m.records, m.generation, 2)
			}
		})
	}
}

// bytesList returns a list of its own with the same payloads.
func bytesList(l [][]byte) [][]byte { return append([][]byte{}, l...) }

// P8.3: a crash at each write of Anew: the log has the records as before, or exactly the new ones.
func TestCrashAnew(t *testing.T) {
	t.Parallel()
	for _, data := range clean() {
		for _, records := range [][][]byte{nil, list("one", "two"), {some(487)}} {
			m, _ := opened(data)
			_, plan := m.anew(records)
			crashes(t, data, plan, startingAnew(records), func(data []byte, complete bool) {
				if complete {
					survives(t, data, records, m.generation+1, 1)
				} else {
					survives(t, data, m.records, m.generation, 1)
				}
			})
		}
	}
}

// P8.1: a crash at each write of Open, on a new disk and on one with other bytes: a new log is there in the end.
func TestCrashOpen(t *testing.T) {
	t.Parallel()
	for _, data := range [][]byte{make([]byte, 1024), some(1024), make([]byte, 1025), both(halfBytes(512, 9, 0, some(40)), some(512))} {
		survives(t, data, nil, 1, 2)
	}
}

// P8.3: a crash in Anew, and then another in the Anew of the log that was opened, with other records.
func TestCrashAnewTwice(t *testing.T) {
	t.Parallel()
	data := both(halfBytes(512, 7, 1, some(20), some(30)), halfBytes(512, 6, 1, some(90)))
	m, _ := opened(data)
	one, two := list("one", "longer than the others"), list("two")
	_, plan := m.anew(one)
	for writes := range plan {
		for _, k := range fewer(cuts(len(plan[writes].b)), 25) {
			torn := cut(data, plan, writes, k)
			again, _ := opened(torn)
			_, next := again.anew(two)
			for w := range next {
				for _, j := range fewer(cuts(len(next[w].b)), 60) {
					d := diskOf(t, torn)
					l := open(t, d)
					light(t, d, w, j)
					doAnew(t, l, two, api.ErrDown)
					d.Start()
					want, generation := again.records, again.generation
					if w == len(next)-1 && j > 0 {
						want, generation = two, again.generation+1
					}
					has(t, open(t, d), want, generation, open(t, d).Room())
				}
			}
		}
	}
}

// fake returns a payload that has, from its byte at on, a record with the mark 1, right in its place.
func fake(generation, place, at int) []byte {
	return append(make([]byte, at), recordBytes(uint32(generation), place+9+at, []byte("fake"), 1)...)
}

// P8.2, P8.1: payloads that look like records, whole and torn: what looks like one does not become one, not even if the
// next record ends just where it began.
func TestLookalikes(t *testing.T) {
	t.Parallel()
	for _, at := range []int{0, 1, 5, 9, 30} {
		data := both(halfBytes(512, 3, 1, []byte("a")), make([]byte, 512))
		m, _ := opened(data)
		payload := fake(3, 26, at)
		_, plan := m.appended(payload)
		d := diskOf(t, laid(data, plan))
		steady(t, d, [][]byte{[]byte("a"), payload}, 3, 486-9-len(payload))
		crashes(t, data, plan, appending(payload), func(torn []byte, complete bool) {
			if complete {
				survives(t, torn, [][]byte{[]byte("a"), payload}, 3, 1)
				return
			}
			survives(t, torn, list("a"), 3, 1)
			d := diskOf(t, torn)
			want := list("a")
			if at > 0 {
				doAppend(t, open(t, d), some(at), api.OK)
				want = append(want, some(at))
			}
			has(t, open(t, d), want, 3, open(t, d).Room())
		})
	}
}

// P8.3: remains that look like records of the next generation do not become records of it.
func TestLookalikesAnew(t *testing.T) {
	t.Parallel()
	next := halfBytes(512, 4, 0, []byte("x"), []byte("fake"), []byte("fake"))
	for _, records := range [][][]byte{nil, list("x")} {
		data := both(halfBytes(512, 3, 1, []byte("a")), next)
		m, _ := opened(data)
		_, plan := m.anew(records)
		crashes(t, data, plan, startingAnew(records), func(torn []byte, complete bool) {
			want, generation := list("a"), 3
			if complete {
				want, generation = records, 4
			}
			survives(t, torn, want, generation, 1)
			d := diskOf(t, torn)
			l := open(t, d)
			if !complete {
				doAnew(t, l, records, api.OK)
			}
			steady(t, d, records, 4, l.Room())
		})
	}
}

// driver is a log, and the model of it, with the fuse of their disk.
type driver struct {
	d             *disk.Disk
	l             *wal.Log
	m             *model
	lit, down     bool
	writes, bytes int
}

// run performs the writes of the model as the disk would, and returns its error.
func (v *driver) run(plan []write) api.Errno {
	if v.down {
		return api.ErrDown
	}
	if v.lit && v.writes < len(plan) {
		v.m.data = cut(v.m.data, plan, v.writes, v.bytes)
		v.down, v.lit = true, false
		return api.ErrDown
	}
	v.writes -= len(plan)
	v.m.data = laid(v.m.data, plan)
	return api.OK
}

// noted makes the model dead if the disk is down after a call of the log.
func (v *driver) noted() { v.m.dead = v.m.dead || v.down }

// change does an Append or an Anew.
func (v *driver) change(t *testing.T, records [][]byte, anew bool) {
	t.Helper()
	v.noted()
	data := v.m.data
	var want, got api.Errno
	var plan []write
	if anew {
		want, plan = v.m.anew(records)
		got = v.l.Anew(records)
	} else {
		want, plan = v.m.appended(records[0])
		got = v.l.Append(records[0])
	}
	if want == api.OK {
		want = v.run(plan)
	}
	if got != want {
		t.Fatalf("%d records, anew %v: error %d, want %d", len(records), anew, got, want)
	}
	if want == api.OK {
		v.m.data = data
		v.m.take(plan, records, anew)
	}
	v.noted()
}

// reopen opens a log on the disk; if that fails, the earlier one stays.
func (v *driver) reopen(t *testing.T) {
	t.Helper()
	m, plan := opened(v.m.data)
	if v.run(plan) != api.OK {
		unopened(t, v.d)
		return
	}
	m.data = v.m.data
	v.m, v.l = m, open(t, v.d)
}

// randomPayload returns a payload of any length, now and then one that is not allowed, or that looks like a record.
func randomPayload(r *rand.Rand, m *model) []byte {
	switch r.Intn(30) {
	case 0:
		return nil
	case 1:
		return some(65537)
	case 2:
		return some(max(0, m.room()-10+r.Intn(4)))
	case 3, 4, 5:
		return fake(m.generation+r.Intn(2), m.half()-m.room(), r.Intn(4))
	}
	b := make([]byte, 1+r.Intn(90))
	for i := range b {
		b[i] = byte(r.Intn(3))
	}
	return b
}

// step does one thing to the log or the disk.
func (v *driver) step(t *testing.T, r *rand.Rand) {
	t.Helper()
	switch r.Intn(12) {
	case 0, 1, 2, 3:
		v.change(t, [][]byte{randomPayload(r, v.m)}, false)
	case 4, 5:
		var records [][]byte
		for range r.Intn(4) {
			records = append(records, randomPayload(r, v.m))
		}
		v.change(t, records, true)
	case 6, 7:
		if !v.down {
			v.lit, v.writes, v.bytes = true, r.Intn(6), []int{0, 1, 2, 5, 9, 16, 30, 1000}[r.Intn(8)]
			light(t, v.d, v.writes, v.bytes)
		}
	case 8, 9:
		v.d.Start()
		v.lit, v.down = false, false
	case 10:
		v.reopen(t)
	default:
		has(t, v.l, v.m.records, v.m.generation, v.m.room())
		v.noted()
	}
}

// P8.1 to P8.3: any calls, in any order, with crashes, beside the model.
func TestBesideModel(t *testing.T) {
	t.Parallel()
	for seed := range int64(300) {
		r := rand.New(rand.NewSource(seed))
		size := 1024 + r.Intn(2)
		data := make([]byte, size)
		if r.Intn(3) == 0 {
			data = both(halfBytes(size/2, lastGeneration-3, 1), make([]byte, size-size/2))
		}
		v := &driver{d: diskOf(t, data), m: &model{data: data}}
		v.reopen(t)
		for range 150 {
			v.step(t, r)
			holds(t, v.d, v.m.data)
			if v.d.Up() == v.down {
				t.Fatalf("the disk is up: %v, want %v", v.d.Up(), !v.down)
			}
		}
		has(t, v.l, v.m.records, v.m.generation, v.m.room())
	}
}

// P8.1 to P8.3: a log that is used through many crashes has every record that was appended with OK, in order, and of each
// crash all or nothing.
func TestManyCrashes(t *testing.T) {
	t.Parallel()
	for seed := range int64(100) {
		r := rand.New(rand.NewSource(seed))
		d := blank(t, 2048)
		l := open(t, d)
		var want [][]byte
		for i := range 200 {
			payload := append([]byte{byte(i)}, some(r.Intn(40))...)
			next, do := append(bytesList(want), payload), l.Append
			if wal.Cost(len(payload)) > l.Room() {
				next = [][]byte{payload}
				do = func([]byte) api.Errno { return l.Anew(next) }
			}
			if r.Intn(2) == 0 {
				light(t, d, r.Intn(6), r.Intn(60))
			}
			e := do(payload)
			if e == api.OK {
				want = next
				d.Start() // without the fuse
				continue
			}
			for e != api.OK {
				d.Start()
				if r.Intn(2) == 0 {
					light(t, d, 0, r.Intn(1200))
				}
				l, e = wal.Open(d)
			}
			d.Start()
			if got := l.Records(); sameRecords(got, next) {
				want = next
			} else if !sameRecords(got, want) {
				t.Fatalf("seed %d: %q, want %q or %q", seed, got, want, next)
			}
		}
		if got := open(t, d).Records(); !sameRecords(got, want) {
			t.Fatalf("seed %d: %q in the end, want %q", seed, got, want)
		}
	}
}

// P8.2: what a torn record leaves is gone after Open, so that shorter records that follow are the last ones.
func TestTornRecordIsRemoved(t *testing.T) {
	for k := range 310 {
		d := blank(t, 1024)
		l := open(t, d)
		light(t, d, 0, k)
		doAppend(t, l, some(300), api.ErrDown)
		d.Start()
		l = open(t, d)
		want := both(halfBytes(512, 1, 1), make([]byte, 512))
		holds(t, d, want)
		doAppend(t, l, []byte("short"), api.OK)
		copy(want, halfBytes(512, 1, 1, []byte("short")))
		if got := bytesOf(t, d); !bytes.Equal(got, want) {
			t.Fatalf("cut off after %d bytes: the disk has remains", k)
		}
	}
}
