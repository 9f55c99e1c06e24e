package kv_test

import (
	"encoding/binary"
	"fmt"
	"hash/crc32"
	"slices"
	"strings"
	"testing"

	"klaxon/api"
	"klaxon/disk"
	"klaxon/kv"
	"klaxon/wal"
)

// The chapter's example.
func TestExample(t *testing.T) {
	s, d, _ := filled(t, 1024)
	c := s.Begin()
	if c.Put("a", []byte("x")) != api.OK || c.Put("b", []byte("y")) != api.OK || c.Drop("a") != api.OK || c.Commit() != api.OK {
		t.Fatal("the change is not done")
	}
	for _, s := range []*kv.Store{s, open(t, d)} {
		if value, ok := s.Get("b"); string(value) != "y" || !ok {
			t.Errorf("b: %q, %v", value, ok)
		}
		if value, ok := s.Get("a"); value != nil || ok {
			t.Errorf("a: %q, %v", value, ok)
		}
	}
}

// The record of a change has the bytes that the chapter tells, of every step, in order, also of those without effect.
func TestRecordBytes(t *testing.T) {
	longest := strings.Repeat("\xff", 128)
	for _, x := range []struct {
		steps []step
		want  string
	}{
		{[]step{put("a", "x")}, "\x01\x01a\x00\x01x"},
		{[]step{put("a", "")}, "\x01\x01a\x00\x00"},
		{[]step{drop("a")}, "\x02\x01a"},
		{[]step{drop("\x00\xff")}, "\x02\x02\x00\xff"},
		{[]step{put("b", "two"), put("a", "one"), drop("b")}, "\x01\x01b\x00\x03two\x01\x01a\x00\x03one\x02\x01b"},
		{[]step{put("a", "x"), put("a", "x"), drop("a"), drop("a")}, "\x01\x01a\x00\x01x\x01\x01a\x00\x01x\x02\x01a\x02\x01a"},
		{[]step{put(longest, "x"), drop(longest)}, "\x01\x80" + longest + "\x00\x01x\x02\x80" + longest},
		{[]step{putBytes("k", some(255))}, "\x01\x01k\x00\xff" + string(some(255))},
		{[]step{putBytes("k", some(256))}, "\x01\x01k\x01\x00" + string(some(256))},
		{[]step{putBytes("k", some(258))}, "\x01\x01k\x01\x02" + string(some(258))},
		{[]step{putBytes("k", some(4096))}, "\x01\x01k\x10\x00" + string(some(4096))},
		{[]step{putBytes(longest, some(4096)), putBytes("k", nil)}, "\x01\x80" + longest + "\x10\x00" + string(some(4096)) + "\x01\x01k\x00\x00"},
	} {
		s, d, _ := filled(t, 1<<14)
		room := s.Room()
		do(t, s, x.steps...)
		logHas(t, d, 1, []byte(x.want))
		if got := s.Room(); got != room-9-len(x.want) {
			t.Errorf("the room after %.50q: %d, and %d before", x.want, got, room)
		}
	}
}

// P9.3: each change that is committed is one record more.
func TestRecordEach(t *testing.T) {
	s, d, _ := filled(t, 4096)
	var records [][]byte
	for i := range 30 {
		steps := []step{put(fmt.Sprint("key ", i%7), fmt.Sprint(i)), drop(fmt.Sprint("key ", i%5))}
		do(t, s, steps...)
		records = append(records, recordBytes(steps...))
		logHas(t, d, 1, records...)
	}
}

// P9.3: a change without steps is committed without a write, even if the disk is down or there is no room, and others may
// be committed after it.
func TestCommitNothing(t *testing.T) {
	s, d, m := filled(t, 1024, put("a", "x"))
	other := begun(t, s, put("b", "y"))
	before := d.Copy()
	for range 3 {
		commits(t, s.Begin(), api.OK)
	}
	sameDisk(t, d, before)
	has(t, s, m)
	commits(t, other, api.OK)
	breakDown(t, d)
	commits(t, s.Begin(), api.OK)
	d.Start()
	do(t, s, put("c", "z"))
	kept(t, d, m.after(put("b", "y"), put("c", "z")))
}

// P9.3: ErrOrder, with and without steps, of a change that began before another was committed, or at the same time.
func TestOutdated(t *testing.T) {
	for _, between := range [][]step{{put("b", "y")}, {drop("none")}, {put("a", "x")}, {drop("a"), put("a", "x")}} {
		for _, steps := range [][]step{nil, {put("c", "z")}, {drop("a")}} {
			s, d, m := filled(t, 2048, put("a", "x"))
			early, with := s.Begin(), begun(t, s, steps...)
			do(t, s, between...)
			add(t, early, steps...)
			late := begun(t, s, steps...)
			m = m.after(between...)
			before := d.Copy()
			commits(t, early, api.ErrOrder)
			commits(t, with, api.ErrOrder)
			sameDisk(t, d, before)
			has(t, s, m)
			kept(t, d, m)
			commits(t, late, api.OK)
			kept(t, d, m.after(steps...))
		}
	}
}

// P9.3: a change is not outdated by one that had no steps, that was not committed, or whose Commit returned an error.
func TestNotOutdated(t *testing.T) {
	huge := slices.Repeat([]step{sized(100, 4096)}, 16)
	for name, x := range map[string]struct {
		steps []step
		want  api.Errno
	}{
		"without steps": {nil, api.OK}, "too long": {huge, api.ErrSize}, "without room": {[]step{sized(9, 3000)}, api.ErrSpace},
	} {
		s, d, m := filled(t, 2048, put("a", "x"))
		c, empty := begun(t, s, put("b", "y")), s.Begin()
		commits(t, begun(t, s, x.steps...), x.want)
		begun(t, s, put("d", "w")).Cancel()
		begun(t, s, put("e", "v"))
		has(t, s, m)
		commits(t, empty, api.OK)
		commits(t, c, api.OK)
		kept(t, d, m.after(put("b", "y")))
		if t.Failed() {
			t.Fatal(name)
		}
	}
}

// filling returns 16 steps whose record has so many bytes, a little less or more than MaxRecord.
func filling(n int) []step {
	var steps []step
	for i := range 16 {
		steps = append(steps, sized(i+1, 4090-i))
	}
	steps[15].value = some(len(steps[15].value) + n - len(recordBytes(steps...)))
	return steps
}

// P9.3: a record of MaxRecord bytes is committed, one of one byte more returns ErrSize, whatever the room and the contents.
func TestMaxRecord(t *testing.T) {
	for _, size := range []int{1024, 1 << 17, 1<<17 + 50, 1<<17 + 32 + 18, 1 << 18} {
		for n := 65534; n <= 65538; n++ {
			s, d, m := filled(t, size, put("a", "x"))
			before := d.Copy()
			c := begun(t, s, filling(n)...)
			if len(recordBytes(filling(n)...)) != n {
				t.Fatalf("the record has %d bytes", len(recordBytes(filling(n)...)))
			}
			want := api.OK
			switch {
			case n > 65536:
				want = api.ErrSize
			case size/2-16 < 2*9+n+6: // neither behind the first record, nor, anew, together with its contents
				want = api.ErrSpace
			}
			commits(t, c, want)
			if want == api.OK {
				kept(t, d, m.after(filling(n)...))
				logHas(t, d, 1, recordBytes(put("a", "x")), recordBytes(filling(n)...))
				continue
			}
			sameDisk(t, d, before)
			has(t, s, m)
			commits(t, c, api.ErrOrder)
		}
	}
}

// P9.3: ErrSize of a record that is too long, even if its steps come to little, or to nothing.
func TestLongRecordOfLittle(t *testing.T) {
	s, d, m := filled(t, 1<<18, put("a", "x"))
	var steps []step
	for range 20 {
		steps = append(steps, sized(1, 4096), drop("k"))
	}
	c := begun(t, s, steps...)
	reading(t, c, m, "", "a", "k")
	before := d.Copy()
	commits(t, c, api.ErrSize)
	sameDisk(t, d, before)
	has(t, s, m)
}

// P9.3: which error comes first: ErrOrder, then OK for no steps, then ErrSize, then ErrSpace, then ErrDown.
func TestOrderOfCommit(t *testing.T) {
	tooLong, noRoom, right := filling(65537), []step{sized(9, 3000)}, []step{put("k", "v")}
	for _, down := range []bool{false, true} {
		s, d, m := filled(t, 2048, put("a", "x"))
		var outdated []*kv.Change
		for _, steps := range [][]step{nil, tooLong, noRoom, right} {
			outdated = append(outdated, begun(t, s, steps...))
		}
		do(t, s, put("b", "y"))
		m = m.after(put("b", "y"))
		var fresh []*kv.Change
		for _, steps := range [][]step{nil, tooLong, noRoom, right} {
			fresh = append(fresh, begun(t, s, steps...))
		}
		wants := []api.Errno{api.OK, api.ErrSize, api.ErrSpace, api.OK}
		if down {
			breakDown(t, d)
			wants[3] = api.ErrDown
		}
		for i := range fresh {
			commits(t, outdated[i], api.ErrOrder)
			commits(t, fresh[i], wants[i])
			commits(t, fresh[i], api.ErrOrder)
			if wants[i] != api.OK {
				has(t, s, m)
			}
		}
	}
}

// P9.3: with just enough room the record is appended; with one byte less the log is started anew with the contents.
func TestRoom(t *testing.T) {
	for _, steps := range [][]step{{put("k", "v")}, {drop("a")}, {put("a", "new"), drop("b"), put("c", "z"), drop("none")}, {sized(100, 100)}, {putBytes("n", some(3))}} {
		record := recordBytes(steps...)
		for less := -2; less <= 2; less++ {
			s, d, m := nearlyFull(t, 2048, wal.Cost(len(record))-less)
			records := openLog(t, started(d)).Records()
			do(t, s, steps...)
			m = m.after(steps...)
			has(t, s, m)
			kept(t, d, m)
			if less <= 0 {
				logHas(t, d, 1, append(records, record)...)
			} else {
				logHas(t, d, 2, m.records()...)
			}
			if got, want := s.Room(), openLog(t, started(d)).Room(); got != want {
				t.Errorf("the room: %d, want %d", got, want)
			}
		}
	}
}

// fill appends records without effect until the log has just so many bytes left.
func fill(t *testing.T, s *kv.Store, room int) {
	t.Helper()
	for s.Room() > room {
		// A step that drops a key has two bytes more than the key, and its record 9 more.
		key := min(s.Room()-room-11, 128)
		if rest := s.Room() - room - 11 - key; rest > 0 && rest < 12 {
			key -= 12
		}
		do(t, s, drop(long("~", key)))
	}
	if s.Room() != room {
		t.Fatalf("the room is %d, not %d", s.Room(), room)
	}
}

// nearlyFull returns a store with a few keys whose log has just so many bytes left.
func nearlyFull(t *testing.T, size, room int) (*kv.Store, *disk.Disk, model) {
	t.Helper()
	s, d, m := filled(t, size, put("a", "x"), put("b", "y"))
	fill(t, s, room)
	has(t, s, m)
	return s, d, m
}

// P9.3: the contents after the change count, not those before it: what is dropped makes room.
func TestDropMakesRoom(t *testing.T) {
	s, d, m := filled(t, 1024, putBytes("a", some(200)))
	do(t, s, putBytes("b", some(200)))
	m = m.after(putBytes("b", some(200)))
	x := putBytes("c", some(100))
	commits(t, begun(t, s, x), api.ErrSpace)
	has(t, s, m)
	do(t, s, x, drop("b"))
	m = m.after(drop("b"), x)
	has(t, s, m)
	kept(t, d, m)
	logHas(t, d, 2, recordBytes(putBytes("a", some(200)), x))
	fill(t, s, 14)
	do(t, s, drop("a"), drop("c"))
	has(t, s, nil)
	kept(t, d, nil)
	logHas(t, d, 3)
	if s.Room() != 496 {
		t.Errorf("the room of an empty log: %d", s.Room())
	}
}

// atLimit returns a step after which the contents, with those of nearlyFull, take as many bytes more than there are in the
// log of a disk of 2048 bytes.
func atLimit(over int) step { return putBytes("k", some(1008-9-2*6-5+over)) }

// P9.3: what the contents may take at most, so that there is just room for them, or one byte too little.
func TestSpace(t *testing.T) {
	for over := -2; over <= 2; over++ {
		s, d, m := nearlyFull(t, 2048, 30)
		x := atLimit(over)
		before := d.Copy()
		if over > 0 {
			commits(t, begun(t, s, x), api.ErrSpace)
			sameDisk(t, d, before)
		} else {
			do(t, s, x)
			m = m.after(x)
			logHas(t, d, 2, m.records()...)
			if s.Room() != -over {
				t.Errorf("the room: %d, want %d", s.Room(), -over)
			}
		}
		has(t, s, m)
		kept(t, d, m)
	}
}

// P9.3: ErrSpace comes ahead of ErrDown, from the first byte on that is too much.
func TestSpaceWhileDown(t *testing.T) {
	for over := -2; over <= 2; over++ {
		s, d, m := nearlyFull(t, 2048, 30)
		breakDown(t, d)
		want := api.ErrDown
		if over > 0 {
			want = api.ErrSpace
		}
		for range 2 {
			commits(t, begun(t, s, atLimit(over)), want)
			has(t, s, m)
		}
		kept(t, d, m)
	}
}

// P9.3: ErrSpace leaves no trace: the store may be used on, and what has room is committed.
func TestAfterErrSpace(t *testing.T) {
	s, d, m := nearlyFull(t, 2048, 40)
	twin := openLog(t, d.Copy())
	before := d.Copy()
	for range 3 {
		commits(t, begun(t, s, sized(128, 900)), api.ErrSpace)
	}
	sameDisk(t, d, before)
	if s.Room() != twin.Room() {
		t.Errorf("the room: %d, want %d", s.Room(), twin.Room())
	}
	do(t, s, put("k", "v"))
	kept(t, d, m.after(put("k", "v")))
}

// P9.3: a log that is started anew has the contents in ascending order, in records that are as long as they can be.
func TestRecordsAnew(t *testing.T) {
	full := slices.Repeat([]int{4091}, 15) // with a key of a byte, a step of 4096 bytes each
	for _, x := range []struct{ values, want []int }{
		{[]int{0}, []int{1}},
		{append(full[:15:15], 4091), []int{16}}, // just MaxRecord bytes
		{append(full[:15:15], 4091, 0), []int{16, 1}},
		{append(full[:15:15], 4090, 0), []int{16, 1}},
		{append(full[:15:15], 4087, 0), []int{16, 1}},
		{append(full[:15:15], 4086, 0), []int{17}},
		{append(full[:15:15], 4092, 0), []int{15, 2}}, // the last one would fit, but comes later
		{append(full[:15:15], 4096, 4096, 0), []int{15, 3}},
		{slices.Concat(full, full, full, full), []int{16, 16, 16, 12}},
		{slices.Repeat([]int{4096}, 100), []int{15, 15, 15, 15, 15, 15, 10}},
		{slices.Repeat([]int{0}, 200), []int{200}},
	} {
		var raw [][]byte
		var m model
		for i, n := range x.values {
			p := putBytes(string([]byte{byte(i + 1)}), some(n))
			raw, m = append(raw, recordBytes(p)), m.after(p)
		}
		slices.Reverse(raw)
		d := logOf(t, max(1024, 2*(16+costs(raw))), raw...)
		s := open(t, d)
		fill(t, s, min(s.Room(), 1))
		do(t, s, drop("none"))
		has(t, s, m)
		kept(t, d, m)
		var want [][]byte
		at := 0
		for _, n := range x.want {
			var record []byte
			for ; n > 0; n-- {
				record = append(record, recordBytes(putBytes(m[at].Key, m[at].Value))...)
				at++
			}
			want = append(want, record)
		}
		logHas(t, d, 2, want...)
	}
}

// headed returns a disk whose log has the last generation there is, and no records.
func headed(t *testing.T, size int) *disk.Disk {
	t.Helper()
	d := blank(t, size)
	number := binary.BigEndian.AppendUint32(nil, 1<<31-1)
	head := append(binary.BigEndian.AppendUint32(number, crc32.ChecksumIEEE(number)), 1)
	if e := d.Write(0, head); e != api.OK {
		t.Fatalf("writing a head: error %d", e)
	}
	return d
}

// P9.3, P8.3: a log that can't be started anew any more returns its own error, and the change isn't done.
func TestLastGeneration(t *testing.T) {
	d := headed(t, 1024)
	s := open(t, d)
	do(t, s, putBytes("a", some(300)))
	m := model(nil).after(putBytes("a", some(300)))
	before := d.Copy()
	commits(t, begun(t, s, putBytes("a", some(200))), api.ErrFull)
	commits(t, begun(t, s, putBytes("b", some(200))), api.ErrSpace)
	sameDisk(t, d, before)
	has(t, s, m)
	kept(t, d, m)
	do(t, s, put("b", "y"))
	kept(t, d, m.after(put("b", "y")))
}

// P9.3: ErrDown as the log does: of a disk that is down, and of one that was down in an earlier Commit.
func TestDown(t *testing.T) {
	for _, anew := range []bool{false, true} {
		s, d, m := nearlyFull(t, 2048, 100)
		x := put("k", "v")
		if anew {
			x = putBytes("k", some(200))
		}
		breakDown(t, d)
		c := begun(t, s, x)
		commits(t, c, api.ErrDown)
		commits(t, c, api.ErrOrder)
		has(t, s, m)
		d.Start()
		before := d.Copy()
		for range 2 {
			commits(t, begun(t, s, x), api.ErrDown)
			commits(t, s.Begin(), api.OK)
			has(t, s, m)
		}
		sameDisk(t, d, before)
		kept(t, d, m)
		do(t, open(t, d), x)
		kept(t, d, m.after(x))
	}
}

// P9.3: a disk that was down between two calls of the log is no hindrance.
func TestDownBetween(t *testing.T) {
	s, d, m := filled(t, 1024, put("a", "x"))
	c := begun(t, s, put("b", "y"))
	breakDown(t, d)
	add(t, c, drop("a"))
	has(t, s, m)
	commits(t, s.Begin(), api.OK)
	d.Start()
	commits(t, c, api.OK)
	kept(t, d, m.after(put("b", "y"), drop("a")))
}

// P9.1: Room is that of layer 8, after each kind of Commit.
func TestRoomOfLog(t *testing.T) {
	s, d, _ := filled(t, 2048)
	for i := range 100 {
		do(t, s, put(fmt.Sprint(i%9), strings.Repeat("v", i)), drop(fmt.Sprint(i%5)))
		if got, want := s.Room(), openLog(t, started(d)).Room(); got != want {
			t.Fatalf("the room after %d changes: %d, want %d", i+1, got, want)
		}
	}
}
