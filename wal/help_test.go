package wal_test

import (
	"bytes"
	"math"
	"slices"
	"testing"

	"klaxon/api"
	"klaxon/disk"
	"klaxon/wal"
)

// The calls keep the signatures that the chapter lists.
var (
	_ func(*disk.Disk) (*wal.Log, api.Errno) = wal.Open
	_ func(*wal.Log) [][]byte                = (*wal.Log).Records
	_ func(*wal.Log, []byte) api.Errno       = (*wal.Log).Append
	_ func(*wal.Log, [][]byte) api.Errno     = (*wal.Log).Anew
	_ func(*wal.Log) int                     = (*wal.Log).Room
	_ func(*wal.Log) int                     = (*wal.Log).Generation
	_ func(int) int                          = wal.Cost
)

const (
	least    = math.MinInt
	greatest = math.MaxInt

	lastGeneration = math.MaxInt32
)

// some returns n bytes, none of which is 0, each unlike its neighbours.
func some(n int) []byte {
	b := make([]byte, n)
	for i := range b {
		b[i] = byte(i%251) + 1
	}
	return b
}

// list returns the payloads of texts.
func list(texts ...string) [][]byte {
	var l [][]byte
	for _, s := range texts {
		l = append(l, []byte(s))
	}
	return l
}

// diskOf returns a disk with these bytes, after one write.
func diskOf(t *testing.T, data []byte) *disk.Disk {
	t.Helper()
	d, e := disk.New(len(data))
	if e != api.OK {
		t.Fatalf("a disk of %d bytes: error %d", len(data), e)
	}
	if e := d.Write(0, data); e != api.OK {
		t.Fatalf("filling a disk: error %d", e)
	}
	return d
}

// blank returns a disk of zeros, to which nothing was written.
func blank(t *testing.T, size int) *disk.Disk {
	t.Helper()
	d, e := disk.New(size)
	if e != api.OK {
		t.Fatalf("a disk of %d bytes: error %d", size, e)
	}
	return d
}

// bytesOf returns all bytes of a disk, whether it is up or down, and leaves it as it is.
func bytesOf(t *testing.T, d *disk.Disk) []byte {
	t.Helper()
	c := d.Copy()
	c.Start()
	b, e := c.Read(0, c.Size())
	if e != api.OK {
		t.Fatalf("reading a disk: error %d", e)
	}
	return b
}

func light(t *testing.T, d *disk.Disk, writes, bytes int) {
	t.Helper()
	if e := d.Light(writes, bytes); e != api.OK {
		t.Fatalf("Light(%d, %d): error %d", writes, bytes, e)
	}
}

// breakDown makes the disk down by a write that does not belong to a log, and that writes nothing.
func breakDown(t *testing.T, d *disk.Disk) {
	t.Helper()
	light(t, d, 0, 0)
	if e := d.Write(0, nil); e != api.ErrDown || d.Up() {
		t.Fatalf("a write that ends the fuse: error %d", e)
	}
}

func open(t *testing.T, d *disk.Disk) *wal.Log {
	t.Helper()
	l, e := wal.Open(d)
	if l == nil || e != api.OK {
		t.Fatalf("Open: %v with error %d", l, e)
	}
	return l
}

// unopened reports an Open that returns anything but ErrDown.
func unopened(t *testing.T, d *disk.Disk) {
	t.Helper()
	if l, e := wal.Open(d); l != nil || e != api.ErrDown {
		t.Fatalf("Open: %v with error %d, want ErrDown", l, e)
	}
}

func doAppend(t *testing.T, l *wal.Log, b []byte, want api.Errno) {
	t.Helper()
	if e := l.Append(b); e != want {
		t.Fatalf("Append of %d bytes: error %d, want %d", len(b), e, want)
	}
}

func doAnew(t *testing.T, l *wal.Log, records [][]byte, want api.Errno) {
	t.Helper()
	if e := l.Anew(records); e != want {
		t.Fatalf("Anew with %d records: error %d, want %d", len(records), e, want)
	}
}

func sameRecords(a, b [][]byte) bool {
	return slices.EqualFunc(a, b, bytes.Equal)
}

// has reports a log that does not have these records, this generation, and this room.
func has(t *testing.T, l *wal.Log, records [][]byte, generation, room int) {
	t.Helper()
	if got := l.Records(); !sameRecords(got, records) {
		t.Fatalf("Records: %d: %.200q, want %d: %.200q", len(got), got, len(records), records)
	}
	if got := l.Generation(); got != generation {
		t.Fatalf("Generation: %d, want %d", got, generation)
	}
	if got := l.Room(); got != room {
		t.Fatalf("Room: %d, want %d", got, room)
	}
}

// holds reports a byte of the disk that is not as wanted.
func holds(t *testing.T, d *disk.Disk, want []byte) {
	t.Helper()
	got := bytesOf(t, d)
	if len(got) != len(want) {
		t.Fatalf("%d bytes, want %d", len(got), len(want))
	}
	for i := range want {
		if got[i] != want[i] {
			t.Fatalf("byte %d of the disk: %d, want %d", i, got[i], want[i])
		}
	}
}

// is reports a disk of which not this many writes were requested, or that is not up or down as wanted.
func is(t *testing.T, d *disk.Disk, up bool, writes int) {
	t.Helper()
	if d.Up() != up || d.Writes() != writes {
		t.Fatalf("the disk is up: %v, after %d writes; want %v, %d", d.Up(), d.Writes(), up, writes)
	}
}
