package disk_test

import (
	"bytes"
	"testing"

	"klaxon/api"
	"klaxon/disk"
)

// spoil changes all bytes of b, and those of its spare capacity.
func spoil(b []byte) {
	b = b[:cap(b)]
	for i := range b {
		b[i] ^= 0xff
	}
}

func spoilSpans(l []disk.Span) {
	l = l[:cap(l)]
	for i := range l {
		l[i] = disk.Span{At: -1, Size: -1}
	}
}

// Rules, Memory: what is written is not changed, nor is what lies about it in the same memory.
func TestWriteChangesNoArgument(t *testing.T) {
	for _, n := range []int{0, 1, 50, 200} {
		for _, fused := range []bool{false, true} {
			room := some(500)
			d := filled(t, api.MinDisk)
			if fused {
				light(t, d, 0, n/2)
			}
			b := room[100 : 100+n]
			d.Write(7, b)
			d.Write(-1, b)
			d.Start()
			d.Write(500, []byte("more"))
			d.Read(0, api.MinDisk)
			if !bytes.Equal(room, some(500)) {
				t.Errorf("%d bytes, fused: %v: the argument or its surroundings changed", n, fused)
			}
		}
	}
}

// Rules, Memory: what was written is not kept: changing it afterwards changes nothing on the disk.
func TestWrittenIsNotKept(t *testing.T) {
	for _, n := range []int{0, 1, 50, api.MinDisk} {
		d := made(t, api.MinDisk)
		b := append(make([]byte, 0, n+50), some(n)...)
		write(t, d, 0, b, api.OK)
		spoil(b)
		holds(t, d, laid(make([]byte, api.MinDisk), 0, some(n)))
		light(t, d, 0, n/2)
		write(t, d, 0, b, api.ErrDown)
		want := laid(laid(make([]byte, api.MinDisk), 0, some(n)), 0, b[:n/2])
		spoil(b)
		holds(t, d, want)
	}
}

// Rules, Memory: what was read is new memory with its spare capacity: changing it changes neither the disk, nor a copy,
// nor another result; and it stays as it was read when the disk changes.
func TestReadIsNotShared(t *testing.T) {
	for _, r := range within {
		d := filled(t, 1500)
		c := d.Copy()
		first, _ := d.Read(r.at, r.n)
		second, _ := d.Read(r.at, r.n)
		third, _ := c.Read(r.at, r.n)
		spoil(first)
		want := some(1500)[r.at : r.at+r.n]
		if !bytes.Equal(second, want) || !bytes.Equal(third, want) {
			t.Fatalf("Read of %d bytes at %d: two results share memory", r.n, r.at)
		}
		holds(t, d, some(1500))
		holds(t, c, some(1500))
		write(t, d, 0, make([]byte, 1500), api.OK)
		if !bytes.Equal(second, want) {
			t.Fatalf("Read of %d bytes at %d: a result changed with the disk", r.n, r.at)
		}
	}
}

// Rules, Memory: what was read may be written, to the same disk and over the same range.
func TestReadIsWritten(t *testing.T) {
	d := filled(t, api.MinDisk)
	b, _ := d.Read(0, 100)
	write(t, d, 50, b, api.OK)
	holds(t, d, laid(some(api.MinDisk), 50, some(100)))
}

// Rules, Memory: the ranges of Differ are new memory with their spare capacity.
func TestDifferIsNotShared(t *testing.T) {
	d, o := made(t, api.MinDisk), made(t, api.MinDisk)
	var want []disk.Span
	for at := 0; at < 60; at += 3 {
		write(t, o, at, []byte{1, 2}, api.OK)
		want = append(want, disk.Span{At: at, Size: 2})
		first, _ := d.Differ(o)
		second, _ := d.Differ(o)
		spoilSpans(first)
		for i := range want {
			if second[i] != want[i] {
				t.Fatalf("%d ranges: two results share memory", len(want))
			}
		}
		differs(t, d, o, want...)
	}
}

// Rules, Determinism: the same calls, the same answers, whatever was done to other disks meanwhile.
func TestDeterminism(t *testing.T) {
	run := func(between func()) ([]byte, int) {
		d := made(t, api.MinDisk)
		light(t, d, 3, 5)
		for i := range 6 {
			between()
			d.Write(i*10, some(9))
			between()
		}
		d.Start()
		b, _ := d.Read(0, api.MinDisk)
		return b, d.Writes()
	}
	first, writes := run(func() {})
	second, again := run(func() { broken(t, 1500).Copy().Start() })
	if !bytes.Equal(first, second) || writes != again || writes != 4 {
		t.Errorf("the same calls: %d and %d writes, equal bytes: %v", writes, again, bytes.Equal(first, second))
	}
}
