package disk_test

import (
	"bytes"
	"math"
	"testing"

	"klaxon/api"
	"klaxon/disk"
)

// The calls keep the signatures that the chapter lists.
var (
	_ func(int) (*disk.Disk, api.Errno)                = disk.New
	_ func(*disk.Disk) int                             = (*disk.Disk).Size
	_ func(*disk.Disk, int, int) ([]byte, api.Errno)   = (*disk.Disk).Read
	_ func(*disk.Disk, int, []byte) api.Errno          = (*disk.Disk).Write
	_ func(*disk.Disk, int, int) api.Errno             = (*disk.Disk).Light
	_ func(*disk.Disk)                                 = (*disk.Disk).Start
	_ func(*disk.Disk) bool                            = (*disk.Disk).Up
	_ func(*disk.Disk) int                             = (*disk.Disk).Writes
	_ func(*disk.Disk) *disk.Disk                      = (*disk.Disk).Copy
	_ func(*disk.Disk, *disk.Disk) ([]disk.Span, bool) = (*disk.Disk).Differ
	_                                                  = struct{ At, Size int }(disk.Span{})
)

const (
	least    = math.MinInt
	greatest = math.MaxInt
)

// some returns n bytes, none of which is 0, each unlike its neighbours.
func some(n int) []byte {
	b := make([]byte, n)
	for i := range b {
		b[i] = byte(i%251) + 1
	}
	return b
}

func made(t *testing.T, size int) *disk.Disk {
	t.Helper()
	d, e := disk.New(size)
	if d == nil || e != api.OK {
		t.Fatalf("New(%d): %v with error %d", size, d, e)
	}
	return d
}

// filled returns a disk that is full of bytes other than 0, after one write.
func filled(t *testing.T, size int) *disk.Disk {
	t.Helper()
	d := made(t, size)
	write(t, d, 0, some(size), api.OK)
	return d
}

// broken returns a disk that is full of bytes other than 0, and down, after two writes.
func broken(t *testing.T, size int) *disk.Disk {
	t.Helper()
	d := filled(t, size)
	light(t, d, 0, 0)
	write(t, d, 0, []byte("never written"), api.ErrDown)
	return d
}

func write(t *testing.T, d *disk.Disk, at int, b []byte, want api.Errno) {
	t.Helper()
	if e := d.Write(at, b); e != want {
		t.Fatalf("Write of %d bytes at %d: error %d, want %d", len(b), at, e, want)
	}
}

func light(t *testing.T, d *disk.Disk, writes, bytes int) {
	t.Helper()
	if e := d.Light(writes, bytes); e != api.OK {
		t.Fatalf("Light(%d, %d): error %d", writes, bytes, e)
	}
}

func read(t *testing.T, d *disk.Disk, at int, want []byte) {
	t.Helper()
	if got, e := d.Read(at, len(want)); e != api.OK || !bytes.Equal(got, want) {
		t.Fatalf("Read of %d bytes at %d: got %q with error %d, want %q", len(want), at, got, e, want)
	}
}

// unread reports a Read that returns anything but the error.
func unread(t *testing.T, d *disk.Disk, at, n int, want api.Errno) {
	t.Helper()
	if got, e := d.Read(at, n); e != want || len(got) != 0 {
		t.Fatalf("Read of %d bytes at %d: got %q with error %d, want %d", n, at, got, e, want)
	}
}

// holds reports a byte of the disk that is not as wanted, whether the disk is up or down, and leaves it as it is.
func holds(t *testing.T, d *disk.Disk, want []byte) {
	t.Helper()
	c := d.Copy()
	c.Start()
	got, e := c.Read(0, c.Size())
	if e != api.OK || len(got) != len(want) {
		t.Fatalf("all bytes: %d with error %d, want %d", len(got), e, len(want))
	}
	for i := range want {
		if got[i] != want[i] {
			t.Fatalf("byte %d: got %d, want %d", i, got[i], want[i])
		}
	}
}

// is reports whether the disk is up, and how many writes it counts, where these are not as wanted.
func is(t *testing.T, d *disk.Disk, up bool, writes int) {
	t.Helper()
	if d.Up() != up || d.Writes() != writes {
		t.Fatalf("up: %v with %d writes, want %v with %d", d.Up(), d.Writes(), up, writes)
	}
}

// laid returns a copy of all with b at the offset at.
func laid(all []byte, at int, b []byte) []byte {
	out := bytes.Clone(all)
	copy(out[at:at+len(b)], b)
	return out
}
