package wal_test

import (
	"bytes"
	"testing"

	"klaxon/api"
)

// spoil changes all bytes of b, and those of its spare capacity.
func spoil(b []byte) {
	b = b[:cap(b)]
	for i := range b {
		b[i] ^= 0xff
	}
}

// spoilList changes the payloads, their spare capacity, and the list with its own.
func spoilList(l [][]byte) {
	for _, b := range l {
		spoil(b)
	}
	l = l[:cap(l)]
	for i := range l {
		l[i] = []byte("spoiled")
	}
}

// Rules, Memory: Append changes neither its argument nor what lies about it in the same memory, whether or not it fails.
func TestAppendChangesNoArgument(t *testing.T) {
	for _, n := range []int{0, 1, 50, 480, 600} {
		for _, fused := range []bool{false, true} {
			room := some(1000)
			d := blank(t, 1024)
			l := open(t, d)
			if fused {
				light(t, d, 0, 3)
			}
			l.Append(room[200 : 200+n])
			l.Append([]byte("more"))
			l.Records()
			if !bytes.Equal(room, some(1000)) {
				t.Errorf("%d bytes, fused %v: the argument or its surroundings changed", n, fused)
			}
		}
	}
}

// Rules, Memory: what was appended is not kept.
func TestAppendedIsNotKept(t *testing.T) {
	d := blank(t, 1024)
	l := open(t, d)
	b := append(make([]byte, 0, 99), some(20)...)
	doAppend(t, l, b, api.OK)
	spoil(b)
	has(t, l, [][]byte{some(20)}, 1, 467)
	steady(t, d, [][]byte{some(20)}, 1, 467)
	doAppend(t, l, b, api.OK)
	changed := bytes.Clone(b)
	spoil(b)
	has(t, l, [][]byte{some(20), changed}, 1, 438)
}

// Rules, Memory: Anew changes neither its list, nor its payloads, nor what lies about them, whether or not it fails.
func TestAnewChangesNoArgument(t *testing.T) {
	for _, fuse := range []int{0, 1, 2, 3, 9} {
		room := some(1000)
		all := [][]byte{room[:3], room[10:15], room[15:100], room[300:301], nil, room[500:], []byte("last")}
		for from := range all {
			for to := from; to <= len(all); to++ {
				d := blank(t, 1024)
				l := open(t, d)
				doAppend(t, l, []byte("old"), api.OK)
				light(t, d, fuse, 2)
				l.Anew(all[from:to])
				l.Append([]byte("more"))
				l.Anew(nil)
			}
		}
		if !bytes.Equal(room, some(1000)) {
			t.Error("a payload or its surroundings changed")
		}
		want := [][]byte{some(3), room[10:15], room[15:100], room[300:301], nil, room[500:], []byte("last")}
		if !sameRecords(all, want) || all[4] != nil {
			t.Error("the list changed")
		}
	}
}

// Rules, Memory: the list with which a log was started anew is not kept, nor are its payloads.
func TestAnewIsNotKept(t *testing.T) {
	d := blank(t, 1024)
	l := open(t, d)
	records := append(make([][]byte, 0, 9), append(make([]byte, 0, 30), "one"...), []byte("two"), []byte("three"))
	doAnew(t, l, records, api.OK)
	spoilList(records)
	has(t, l, list("one", "two", "three"), 2, 496-12-12-14)
	doAppend(t, l, []byte("four"), api.OK)
	if string(records[:4][3]) != "spoiled" {
		t.Error("the spare capacity of the list changed")
	}
	has(t, l, list("one", "two", "three", "four"), 2, 496-12-12-14-13)
	steady(t, d, list("one", "two", "three", "four"), 2, 496-12-12-14-13)
}

// Rules, Memory: the records are new memory with their spare capacity: no two of them share any, nor do two results, nor
// a result and the log, be it one that was opened, appended to, or started anew.
func TestRecordsAreNotShared(t *testing.T) {
	texts := []string{"a", "bb", "a longer one", "c", "dd"}
	d := blank(t, 1024)
	l := open(t, d)
	check := func() {
		t.Helper()
		for i := range texts {
			first, second := l.Records(), l.Records()
			spoil(first[i])
			for j, s := range texts {
				if j != i && string(first[j]) != s || string(second[j]) != s {
					t.Fatalf("record %d shares memory with record %d", i, j)
				}
			}
			spoilList(first)
			_ = append(second[:0], []byte("instead"))
			if !sameRecords(l.Records(), list(texts...)) {
				t.Fatal("a result shares memory with the log")
			}
		}
	}
	for _, s := range texts {
		doAppend(t, l, []byte(s), api.OK)
	}
	check()
	l = open(t, d)
	check()
	doAnew(t, l, list(texts...), api.OK)
	check()
	held := l.Records()
	doAppend(t, l, []byte("e"), api.OK)
	doAnew(t, l, list("f"), api.OK)
	if !sameRecords(held, list(texts...)) {
		t.Error("a result changed with the log")
	}
}

// Rules, Memory: a list of records may be extended, and its records too, without an effect on others.
func TestRecordsHaveNoSharedSpareRoom(t *testing.T) {
	d := blank(t, 4096)
	l := open(t, d)
	for i := range 20 {
		doAppend(t, l, some(i+1), api.OK)
		first, second := l.Records(), l.Records()
		for j := range first {
			first[j] = append(first[j], "extended"...)
		}
		first = append(first, []byte("another"))
		for j := range second {
			if !bytes.Equal(second[j], some(j+1)) {
				t.Fatalf("record %d of %d changed with another result", j, i+1)
			}
		}
		if got := l.Records(); !sameRecords(got, second) || len(first) != i+2 {
			t.Fatalf("%d records changed with a result", i+1)
		}
	}
}

// Rules: nil and empty lists are equivalent; and a log is not harmed by reading it.
func TestNothing(t *testing.T) {
	d := blank(t, 1024)
	l := open(t, d)
	if n := len(l.Records()); n != 0 {
		t.Errorf("a new log has %d records", n)
	}
	doAnew(t, l, nil, api.OK)
	doAnew(t, l, [][]byte{}, api.OK)
	doAnew(t, l, make([][]byte, 0, 5), api.OK)
	before, writes := bytesOf(t, d), d.Writes()
	for range 5 {
		has(t, l, nil, 4, 496)
	}
	holds(t, d, before)
	is(t, d, true, writes)
}

// P8.1: Records, Generation and Room of a log whose disk is down are those that it had.
func TestReadWhileDown(t *testing.T) {
	d := blank(t, 1024)
	l := open(t, d)
	doAnew(t, l, list("a", "b"), api.OK)
	breakDown(t, d)
	has(t, l, list("a", "b"), 2, 476)
	d.Start()
	has(t, l, list("a", "b"), 2, 476)
}

// Rules, Determinism: the same calls, the same bytes, whatever is done to other logs meanwhile.
func TestDeterminism(t *testing.T) {
	run := func(between func()) []byte {
		d := blank(t, 1024)
		l := open(t, d)
		for i := range 12 {
			between()
			doAppend(t, l, some(i+1), api.OK)
			if i%5 == 4 {
				doAnew(t, l, l.Records()[i/2:], api.OK)
			}
		}
		return bytesOf(t, d)
	}
	first := run(func() {})
	second := run(func() {
		d := diskOf(t, some(2048))
		l := open(t, d)
		light(t, d, 1, 0)
		l.Append([]byte("elsewhere"))
	})
	if !bytes.Equal(first, second) {
		t.Error("the same calls leave different bytes")
	}
}
