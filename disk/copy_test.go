package disk_test

import (
	"bytes"
	"testing"

	"klaxon/api"
	"klaxon/disk"
)

// P7.3: a copy of a disk that is up, without a fuse.
func TestCopyUp(t *testing.T) {
	for _, size := range []int{api.MinDisk, 1500, api.MaxDisk} {
		d := filled(t, size)
		write(t, d, 0, nil, api.OK)
		c := d.Copy()
		if c == nil || c == d || c.Size() != size {
			t.Fatal("the copy is no disk of its own with the same size")
		}
		is(t, c, true, 2)
		read(t, c, 0, some(size))
		for range 5 {
			write(t, c, 0, []byte("abc"), api.OK)
		}
		is(t, c, true, 7)
	}
	c := made(t, api.MinDisk).Copy()
	is(t, c, true, 0)
	read(t, c, 0, make([]byte, api.MinDisk))
}

// P7.3: a copy of a disk that is down is down, and can be started by itself.
func TestCopyDown(t *testing.T) {
	d := broken(t, api.MinDisk)
	c := d.Copy()
	is(t, c, false, 2)
	unread(t, c, 0, 1, api.ErrDown)
	write(t, c, 0, []byte("abc"), api.ErrDown)
	is(t, c, false, 2)
	c.Start()
	is(t, c, true, 2)
	is(t, d, false, 2)
	read(t, c, 0, some(api.MinDisk))
	write(t, c, 0, []byte("abc"), api.OK)
	write(t, d, 0, []byte("abc"), api.ErrDown)
	e := d.Copy()
	d.Start()
	is(t, d, true, 2)
	is(t, e, false, 2)
	holds(t, d, some(api.MinDisk))
	holds(t, e, some(api.MinDisk))
}

// P7.3: a copy has what is left of a fuse, and neither uses up the other's.
func TestCopyWithFuse(t *testing.T) {
	for used := range 4 {
		d := filled(t, api.MinDisk)
		light(t, d, 3, 2)
		for range used {
			write(t, d, 0, []byte{255}, api.OK)
		}
		want := some(api.MinDisk)
		if used > 0 {
			want = laid(want, 0, []byte{255})
		}
		c := d.Copy()
		burn(t, d, 3-used, 100, want)
		is(t, c, true, 1+used)
		burn(t, c, 3-used, 200, want)
	}
}

// burn uses up a fuse of some writes and two bytes, the last write at the offset at of a disk with these bytes.
func burn(t *testing.T, d *disk.Disk, left, at int, want []byte) {
	t.Helper()
	for range left {
		write(t, d, 0, []byte{255}, api.OK)
		want = laid(want, 0, []byte{255})
	}
	is(t, d, true, 4)
	write(t, d, at, []byte("abc"), api.ErrDown)
	is(t, d, false, 5)
	holds(t, d, laid(want, at, []byte("ab")))
}

// P7.3: neither the copy nor the disk notices what is done to the other.
func TestCopyIsApart(t *testing.T) {
	for _, swap := range []bool{false, true} {
		d := filled(t, api.MinDisk)
		light(t, d, 4, 4)
		c := d.Copy()
		one, other := d, c
		if swap {
			one, other = c, d
		}
		write(t, one, 0, bytes.Repeat([]byte{255}, api.MinDisk), api.OK)
		is(t, other, true, 1)
		holds(t, other, some(api.MinDisk))
		light(t, one, 0, 0)
		write(t, one, 0, []byte("abc"), api.ErrDown)
		is(t, one, false, 3)
		is(t, other, true, 1)
		one.Start()
		for range 4 {
			write(t, other, 0, []byte("abc"), api.OK)
		}
		write(t, other, 3, []byte("defghi"), api.ErrDown)
		is(t, other, false, 6)
		is(t, one, true, 3)
		holds(t, other, laid(some(api.MinDisk), 0, []byte("abcdefg")))
		holds(t, one, bytes.Repeat([]byte{255}, api.MinDisk))
	}
}

// P7.3: a copy's start takes no fuse from the disk.
func TestCopyStarted(t *testing.T) {
	d := filled(t, api.MinDisk)
	light(t, d, 1, 0)
	c := d.Copy()
	c.Start()
	for range 3 {
		write(t, c, 0, []byte("abc"), api.OK)
	}
	write(t, d, 0, []byte("abc"), api.OK)
	write(t, d, 0, []byte("def"), api.ErrDown)
}

// P7.3: copies of copies, and several of one disk.
func TestCopies(t *testing.T) {
	d := filled(t, api.MinDisk)
	one, two := d.Copy(), d.Copy()
	three := one.Copy()
	write(t, d, 0, []byte("d"), api.OK)
	write(t, one, 0, []byte("1"), api.OK)
	write(t, two, 0, []byte("2"), api.OK)
	write(t, three, 0, []byte("3"), api.OK)
	read(t, d, 0, []byte("d"))
	read(t, one, 0, []byte("1"))
	read(t, two, 0, []byte("2"))
	read(t, three, 0, []byte("3"))
}
