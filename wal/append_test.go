package wal_test

import (
	"bytes"
	"slices"
	"testing"

	"klaxon/api"
	"klaxon/wal"
)

// P8.2: records one after the other: two writes each, and the bytes as the chapter tells them.
func TestAppend(t *testing.T) {
	d := blank(t, 1025)
	l := open(t, d)
	doAppend(t, l, []byte("a"), api.OK)
	is(t, d, true, 4)
	want := make([]byte, 1025)
	copy(want, headBytes(1, 1))
	// The length, the checksum (worked out by another program), the mark, the payload.
	copy(want[16:], []byte{0, 0, 0, 1, 0xc0, 0xce, 0x4f, 0xa8, 1, 'a'})
	holds(t, d, want)
	has(t, l, list("a"), 1, 486)
	doAppend(t, l, []byte("bb"), api.OK)
	is(t, d, true, 6)
	copy(want[26:], recordBytes(1, 26, []byte("bb"), 1))
	holds(t, d, want)
	has(t, l, list("a", "bb"), 1, 475)
	steady(t, d, list("a", "bb"), 1, 475)
}

// P8.2: the two writes of Append: the record without its mark, and the mark; in either half, at any offset.
func TestAppendWrites(t *testing.T) {
	t.Parallel()
	for _, data := range [][]byte{
		both(halfBytes(512, 1, 1), make([]byte, 512)),
		both(halfBytes(512, 1, 1, some(20), some(300)), some(512)),
		both(some(512), halfBytes(512, lastGeneration, 1, some(1))),
		both(halfBytes(512, 4, 1, some(99)), halfBytes(512, 5, 1, some(5), some(5))),
	} {
		m, none := opened(data)
		if len(none) > 0 {
			t.Fatal("the disk isn't clean")
		}
		for _, n := range []int{1, 2, 30, m.room() - 9} {
			e, plan := m.appended(some(n))
			if e != api.OK || len(plan) != 2 {
				t.Fatalf("the model: error %d, %d writes", e, len(plan))
			}
			writesAs(t, data, plan, appending(some(n)))
		}
	}
}

// P8.2: no bytes, one, MaxRecord and one more, on a disk on which all of them have room.
func TestAppendSizes(t *testing.T) {
	t.Parallel()
	for _, n := range []int{0, 1, 2, 65535, 65536, 65537, 100000, 1 << 20} {
		d := blank(t, api.MaxDisk)
		l := open(t, d)
		doAppend(t, l, []byte("ahead"), api.OK)
		if n >= 1 && n <= api.MaxRecord {
			doAppend(t, l, some(n), api.OK)
			has(t, l, [][]byte{[]byte("ahead"), some(n)}, 1, 1<<19-16-14-9-n)
			is(t, d, true, 6)
			continue
		}
		doAppend(t, l, some(n), api.ErrSize)
		has(t, l, list("ahead"), 1, 1<<19-16-14)
		is(t, d, true, 4)
		steady(t, d, list("ahead"), 1, 1<<19-16-14)
	}
	l := open(t, blank(t, 1024))
	doAppend(t, l, nil, api.ErrSize)
	doAppend(t, l, []byte{}, api.ErrSize)
	doAppend(t, l, make([]byte, 0, 10), api.ErrSize)
}

// P8.2: a record of MaxRecord bytes, wherever its writes are cut off.
func TestAppendGreatestWrites(t *testing.T) {
	t.Parallel()
	data := both(halfBytes(70000, 1, 1, some(3)), make([]byte, 70000))
	m, _ := opened(data)
	_, plan := m.appended(some(65536))
	writesAs(t, data, plan, appending(some(65536)))
}

// P8.2: as many bytes as there is room for, and one more.
func TestAppendRoom(t *testing.T) {
	t.Parallel()
	for _, size := range []int{1024, 1025, 1026, 2000} {
		half := size / 2
		for first := 1; first <= half-16-9; first++ {
			d := blank(t, size)
			l := open(t, d)
			doAppend(t, l, some(first), api.OK)
			room := half - 16 - 9 - first
			has(t, l, [][]byte{some(first)}, 1, room)
			doAppend(t, l, some(room-8+max(0, 9-room)), api.ErrSpace)
			doAppend(t, l, some(api.MaxRecord), api.ErrSpace)
			is(t, d, true, 4)
			has(t, l, [][]byte{some(first)}, 1, room)
			if room < 10 {
				doAppend(t, l, []byte("x"), api.ErrSpace)
				continue
			}
			doAppend(t, l, some(room-9), api.OK)
			has(t, l, [][]byte{some(first), some(room - 9)}, 1, 0)
			doAppend(t, l, []byte("x"), api.ErrSpace)
			is(t, d, true, 6)
			steady(t, d, [][]byte{some(first), some(room - 9)}, 1, 0)
		}
	}
}

// P8.2: the first record: as many bytes as fit into a half, and one more.
func TestAppendFirst(t *testing.T) {
	for _, size := range []int{1024, 1025, 1026} {
		half := size / 2
		l := open(t, blank(t, size))
		doAppend(t, l, some(half-16-8), api.ErrSpace)
		has(t, l, nil, 1, half-16)
		doAppend(t, l, some(half-16-9), api.OK)
		has(t, l, [][]byte{some(half - 16 - 9)}, 1, 0)
	}
}

// P8.2: which error comes first: the disk that is down, the size, the room.
func TestAppendErrorOrder(t *testing.T) {
	d := blank(t, 1024)
	l := open(t, d)
	doAppend(t, l, some(480), api.OK)
	doAppend(t, l, nil, api.ErrSize)
	doAppend(t, l, some(65537), api.ErrSize)
	doAppend(t, l, some(65536), api.ErrSpace)
	// A fuse does not matter to a call that writes nothing, and is not used up by it.
	light(t, d, 0, 0)
	doAppend(t, l, nil, api.ErrSize)
	doAppend(t, l, some(65537), api.ErrSize)
	doAppend(t, l, some(9), api.ErrSpace)
	is(t, d, true, 4)
	breakDown(t, d)
	for range 2 {
		for _, b := range [][]byte{nil, {}, some(65537), some(480), some(1)} {
			doAppend(t, l, b, api.ErrDown)
		}
		is(t, d, false, 5)
	}
	has(t, l, [][]byte{some(480)}, 1, 7)
}

// dead reports a log that appends or starts anew, though its disk was down after an earlier call of it.
func dead(t *testing.T, l *wal.Log, records [][]byte, generation, room int) {
	t.Helper()
	for range 2 {
		for _, b := range [][]byte{[]byte("x"), nil, some(65537), some(60000)} {
			doAppend(t, l, b, api.ErrDown)
			doAnew(t, l, [][]byte{b}, api.ErrDown)
		}
		doAnew(t, l, nil, api.ErrDown)
		has(t, l, records, generation, room)
	}
}

// P8.2, P8.3: after the disk was down in a call of the log, each Append and Anew returns ErrDown, whether or not the disk
// was started, and the log has what it had; a log that is opened then goes on.
func TestDeadAfterCrash(t *testing.T) {
	for _, c := range []struct {
		writes, bytes int
		anew          bool
		want          [][]byte // after the next Open
	}{
		{0, 0, false, list("a")}, {0, 5, false, list("a")}, {0, 99, false, list("a")}, {1, 0, false, list("a")}, {1, 1, false, list("a", "b")},
		{0, 0, true, list("a")}, {0, 1, true, list("a")}, {1, 20, true, list("a")}, {2, 16, true, list("a")}, {3, 0, true, list("a")}, {3, 1, true, list("b")},
	} {
		d := blank(t, 1024)
		l := open(t, d)
		doAppend(t, l, []byte("a"), api.OK)
		light(t, d, c.writes, c.bytes)
		if c.anew {
			doAnew(t, l, list("b"), api.ErrDown)
		} else {
			doAppend(t, l, []byte("b"), api.ErrDown)
		}
		has(t, l, list("a"), 1, 486)
		writes := d.Writes()
		dead(t, l, list("a"), 1, 486)
		d.Start()
		before := bytesOf(t, d)
		dead(t, l, list("a"), 1, 486)
		is(t, d, true, writes)
		holds(t, d, before)
		again := open(t, d)
		if got := again.Records(); !sameRecords(got, c.want) {
			t.Fatalf("%v: Records %q, want %q", c, got, c.want)
		}
		doAppend(t, again, []byte("c"), api.OK)
		// The first log stays dead, whatever another one does.
		dead(t, l, list("a"), 1, 486)
		if got := open(t, d).Records(); !sameRecords(got, append(slices.Clone(c.want), []byte("c"))) {
			t.Fatalf("%v: Records %q", c, got)
		}
	}
}

// P8.2: the disk was down after an earlier call of the log, whichever call that was, and whatever made it down.
func TestDeadAfterAnyCall(t *testing.T) {
	for name, call := range map[string]func(l *wal.Log){
		"Append":             func(l *wal.Log) { l.Append([]byte("b")) },
		"Append of no bytes": func(l *wal.Log) { l.Append(nil) },
		"Append of too many": func(l *wal.Log) { l.Append(some(500)) },
		"Anew":               func(l *wal.Log) { l.Anew(list("b")) },
		"Anew with nothing":  func(l *wal.Log) { l.Anew(nil) },
		"Anew with too much": func(l *wal.Log) { l.Anew([][]byte{some(500)}) },
		"Records":            func(l *wal.Log) { l.Records() },
		"Room":               func(l *wal.Log) { l.Room() },
		"Generation":         func(l *wal.Log) { l.Generation() },
	} {
		t.Run(name, func(t *testing.T) {
			d := blank(t, 1024)
			l := open(t, d)
			doAppend(t, l, []byte("a"), api.OK)
			breakDown(t, d)
			call(l)
			d.Start()
			dead(t, l, list("a"), 1, 486)
			is(t, d, true, 5)
			steady(t, d, list("a"), 1, 486)
		})
	}
}

// P8.2, P8.3: a disk that was down, but not after a call of the log, does not end it.
func TestAliveIfUnnoticed(t *testing.T) {
	d := blank(t, 1024)
	l := open(t, d)
	breakDown(t, d)
	d.Start()
	doAppend(t, l, []byte("a"), api.OK)
	breakDown(t, d)
	d.Start()
	doAnew(t, l, list("b"), api.OK)
	breakDown(t, d)
	d.Start()
	has(t, l, list("b"), 2, 486)
	doAppend(t, l, []byte("c"), api.OK)
	steady(t, d, list("b", "c"), 2, 476)
}

// P8.2: a refused Append changes nothing, and does not end the log.
func TestAppendRefused(t *testing.T) {
	d := blank(t, 1024)
	l := open(t, d)
	var want [][]byte
	for i := range 20 {
		doAppend(t, l, nil, api.ErrSize)
		doAppend(t, l, some(65537), api.ErrSize)
		doAppend(t, l, some(490), api.ErrSpace)
		doAppend(t, l, some(i+1), api.OK)
		want = append(want, some(i+1))
		has(t, l, want, 1, 496-9*(i+1)-(i+1)*(i+2)/2)
	}
	is(t, d, true, 42)
}

// P8.2: each value of a byte, alone and among others.
func TestAppendAnyBytes(t *testing.T) {
	d := blank(t, 100000)
	l := open(t, d)
	var want [][]byte
	for x := range 256 {
		for _, b := range [][]byte{{byte(x)}, bytes.Repeat([]byte{byte(x)}, 20), {0, byte(x), 0, 1}} {
			doAppend(t, l, b, api.OK)
			want = append(want, b)
		}
	}
	steady(t, d, want, 1, l.Room())
}
