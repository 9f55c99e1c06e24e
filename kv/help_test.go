package kv_test

import (
	"bytes"
	"math"
	"slices"
	"strings"
	"testing"

	"klaxon/api"
	"klaxon/disk"
	"klaxon/kv"
	"klaxon/wal"
)

// The calls keep the signatures that the chapter lists.
var (
	_ func(*disk.Disk) (*kv.Store, api.Errno)        = kv.Open
	_ func(*kv.Store, string) ([]byte, bool)         = (*kv.Store).Get
	_ func(*kv.Store, string) []kv.Pair              = (*kv.Store).Scan
	_ func(*kv.Store, string, string, int) []kv.Pair = (*kv.Store).Between
	_ func(*kv.Store, string, bool) (string, bool)   = (*kv.Store).Edge
	_ func(*kv.Store) int                            = (*kv.Store).Size
	_ func(*kv.Store) int                            = (*kv.Store).Len
	_ func(*kv.Store) *kv.Change                     = (*kv.Store).Begin
	_ func(*kv.Store) int                            = (*kv.Store).Room
	_ func(*kv.Change, string, []byte) api.Errno     = (*kv.Change).Put
	_ func(*kv.Change, string) api.Errno             = (*kv.Change).Drop
	_ func(*kv.Change, string) ([]byte, bool)        = (*kv.Change).Get
	_ func(*kv.Change, string) []kv.Pair             = (*kv.Change).Scan
	_ func(*kv.Change) api.Errno                     = (*kv.Change).Commit
	_ func(*kv.Change)                               = (*kv.Change).Cancel
	_ struct {
		Key   string
		Value []byte
	} = kv.Pair{}
)

const (
	least    = math.MinInt
	greatest = math.MaxInt
)

// some returns n bytes, each unlike its neighbours.
func some(n int) []byte {
	b := make([]byte, n)
	for i := range b {
		b[i] = byte(i % 251)
	}
	return b
}

// long returns a key of n bytes that begins with name.
func long(name string, n int) string { return name + strings.Repeat("x", n-len(name)) }

// step is a step of a change, as the chapter tells it.
type step struct {
	drop  bool
	key   string
	value []byte
}

func put(key, value string) step { return step{key: key, value: []byte(value)} }

func putBytes(key string, value []byte) step { return step{key: key, value: value} }

func drop(key string) step { return step{drop: true, key: key} }

// recordBytes returns the record of a change with these steps.
func recordBytes(steps ...step) []byte {
	var b []byte
	for _, s := range steps {
		if s.drop {
			b = append(append(b, 2, byte(len(s.key))), s.key...)
			continue
		}
		b = append(append(b, 1, byte(len(s.key))), s.key...)
		b = append(append(b, byte(len(s.value)/256), byte(len(s.value)%256)), s.value...)
	}
	return b
}

// blank returns a disk of zeros, to which nothing was written.
func blank(t *testing.T, size int) *disk.Disk {
	t.Helper()
	d, e := disk.New(size)
	if e != api.OK {
		t.Fatalf("a disk of %d bytes: error %d", size, e)
	}
	return d
}

func light(t *testing.T, d *disk.Disk, writes, bytes int) {
	t.Helper()
	if e := d.Light(writes, bytes); e != api.OK {
		t.Fatalf("Light(%d, %d): error %d", writes, bytes, e)
	}
}

// breakDown makes the disk down by a write that does not belong to a store, and that writes nothing.
func breakDown(t *testing.T, d *disk.Disk) {
	t.Helper()
	light(t, d, 0, 0)
	if e := d.Write(0, nil); e != api.ErrDown || d.Up() {
		t.Fatalf("a write that ends the fuse: error %d", e)
	}
}

// started returns a copy of a disk that is up and has no fuse.
func started(d *disk.Disk) *disk.Disk {
	c := d.Copy()
	c.Start()
	return c
}

func openLog(t *testing.T, d *disk.Disk) *wal.Log {
	t.Helper()
	l, e := wal.Open(d)
	if e != api.OK {
		t.Fatalf("opening the log: error %d", e)
	}
	return l
}

// logOf returns a disk with a log that has these records.
func logOf(t *testing.T, size int, records ...[]byte) *disk.Disk {
	t.Helper()
	d := blank(t, size)
	l := openLog(t, d)
	for _, b := range records {
		if e := l.Append(b); e != api.OK {
			t.Fatalf("a record of %d bytes: error %d", len(b), e)
		}
	}
	return d
}

func open(t *testing.T, d *disk.Disk) *kv.Store {
	t.Helper()
	s, e := kv.Open(d)
	if s == nil || e != api.OK {
		t.Fatalf("Open: %v with error %d", s, e)
	}
	return s
}

// unopened reports an Open that does not return this error.
func unopened(t *testing.T, d *disk.Disk, want api.Errno) {
	t.Helper()
	if s, e := kv.Open(d); s != nil || e != want {
		t.Fatalf("Open: %v with error %d, want %d", s, e, want)
	}
}

// add adds steps to a change.
func add(t *testing.T, c *kv.Change, steps ...step) {
	t.Helper()
	for _, s := range steps {
		adds(t, c, s, api.OK)
	}
}

// adds adds a step to a change, and reports an error that is not as wanted.
func adds(t *testing.T, c *kv.Change, s step, want api.Errno) {
	t.Helper()
	var e api.Errno
	if s.drop {
		e = c.Drop(s.key)
	} else {
		e = c.Put(s.key, s.value)
	}
	if e != want {
		t.Fatalf("drop %v, a key of %d bytes, a value of %d: error %d, want %d", s.drop, len(s.key), len(s.value), e, want)
	}
}

// begun returns a change with these steps.
func begun(t *testing.T, s *kv.Store, steps ...step) *kv.Change {
	t.Helper()
	c := s.Begin()
	add(t, c, steps...)
	return c
}

func commits(t *testing.T, c *kv.Change, want api.Errno) {
	t.Helper()
	if e := c.Commit(); e != want {
		t.Fatalf("Commit: error %d, want %d", e, want)
	}
}

// do commits a change with these steps.
func do(t *testing.T, s *kv.Store, steps ...step) {
	t.Helper()
	commits(t, begun(t, s, steps...), api.OK)
}

// sameDisk reports two disks that differ, be it in a byte, in the number of writes, or in being up.
func sameDisk(t *testing.T, got, want *disk.Disk) {
	t.Helper()
	if spans, ok := got.Differ(want); !ok || len(spans) > 0 {
		t.Fatalf("the disk is not as it should be at %v", spans)
	}
	if got.Up() != want.Up() || got.Writes() != want.Writes() {
		t.Fatalf("the disk is up: %v, after %d writes; want %v, %d", got.Up(), got.Writes(), want.Up(), want.Writes())
	}
}

// logHas reports a disk whose log does not have these records, or not this generation.
func logHas(t *testing.T, d *disk.Disk, generation int, records ...[]byte) {
	t.Helper()
	l := openLog(t, started(d))
	if got := l.Generation(); got != generation {
		t.Fatalf("the generation of the log: %d, want %d", got, generation)
	}
	if got := l.Records(); !slices.EqualFunc(got, records, bytes.Equal) {
		t.Fatalf("the log has %d records, want %d: %.300x, want %.300x", len(got), len(records), got, records)
	}
}
