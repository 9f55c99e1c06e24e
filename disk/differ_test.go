package disk_test

import (
	"bytes"
	"slices"
	"testing"

	"klaxon/api"
	"klaxon/disk"
)

// differs reports where d and o do not differ as wanted, each held against the other.
func differs(t *testing.T, d, o *disk.Disk, want ...disk.Span) {
	t.Helper()
	if got, ok := d.Differ(o); !ok || !slices.Equal(got, want) {
		t.Fatalf("Differ: %v, %v, want %v", got, ok, want)
	}
	if got, ok := o.Differ(d); !ok || !slices.Equal(got, want) {
		t.Fatalf("Differ the other way: %v, %v, want %v", got, ok, want)
	}
}

// P7.4: disks of different sizes, with and without bytes in them, up and down.
func TestDifferSizes(t *testing.T) {
	sizes := []int{api.MinDisk, api.MinDisk + 1, 1500, api.MaxDisk - 1, api.MaxDisk}
	for _, m := range sizes {
		for _, n := range sizes {
			if m == n {
				continue
			}
			for _, d := range []*disk.Disk{made(t, m), filled(t, m), broken(t, m)} {
				for _, o := range []*disk.Disk{made(t, n), filled(t, n), broken(t, n)} {
					if got, ok := d.Differ(o); ok || len(got) != 0 {
						t.Fatalf("sizes %d and %d: %v, %v", m, n, got, ok)
					}
				}
			}
		}
	}
}

// P7.4: disks that differ in no byte: equal ones, a copy, a disk and itself, ones of different histories.
func TestDifferNowhere(t *testing.T) {
	for _, size := range []int{api.MinDisk, 1500, api.MaxDisk} {
		differs(t, made(t, size), made(t, size))
		d := filled(t, size)
		differs(t, d, d)
		differs(t, d, d.Copy())
		differs(t, d, filled(t, size))
		differs(t, d, broken(t, size))
		differs(t, broken(t, size), broken(t, size))
		o := made(t, size)
		light(t, o, 7, 7)
		write(t, o, 1, some(size)[1:], api.OK)
		write(t, o, 0, some(1), api.OK)
		differs(t, d, o)
	}
}

// P7.4: ranges of one and of more bytes, at the edges, beside each other, and all.
func TestDiffer(t *testing.T) {
	const size = api.MinDisk
	for _, want := range [][]disk.Span{
		{{0, 1}},
		{{0, 2}},
		{{size - 1, 1}},
		{{size - 2, 2}},
		{{size - 2, 1}},
		{{1, 1}},
		{{500, 1}},
		{{500, 24}},
		{{0, 1}, {size - 1, 1}},
		{{0, 1}, {2, 1}},
		{{0, 3}, {4, 5}},
		{{10, 1}, {12, 1}, {14, 1}, {16, 3}, {20, 1}},
		{{size - 3, 1}, {size - 1, 1}},
		{{1, size - 2}},
		{{0, size - 1}},
		{{1, size - 1}},
		{{0, 500}, {501, size - 501}},
		{{0, size}},
		{{3, 100}, {200, 1}, {300, 100}, {1000, 24}},
	} {
		for _, base := range [][]byte{make([]byte, size), some(size)} {
			d, o := made(t, size), made(t, size)
			write(t, d, 0, base, api.OK)
			write(t, o, 0, base, api.OK)
			for _, s := range want {
				write(t, o, s.At, turned(base[s.At:s.At+s.Size]), api.OK)
			}
			differs(t, d, o, want...)
			differs(t, d.Copy(), o.Copy(), want...)
		}
	}
}

// turned returns bytes none of which is equal to that of b at its place.
func turned(b []byte) []byte {
	out := bytes.Clone(b)
	for i := range out {
		out[i] ^= byte(1 << (i % 8))
	}
	return out
}

// P7.4: all bytes of the greatest disk, and every second one.
func TestDifferGreatestDisk(t *testing.T) {
	const size = api.MaxDisk
	d, o := made(t, size), filled(t, size)
	differs(t, d, o, disk.Span{At: 0, Size: size})
	second := make([]byte, size)
	var want []disk.Span
	for i := 1; i < size; i += 2 {
		second[i] = 1
		want = append(want, disk.Span{At: i, Size: 1})
	}
	write(t, o, 0, second, api.OK)
	differs(t, d, o, want...)
}

// P7.4: bytes that differ in one bit, whichever it is.
func TestDifferInOneBit(t *testing.T) {
	for bit := range 8 {
		d, o := filled(t, api.MinDisk), filled(t, api.MinDisk)
		write(t, o, 77, []byte{some(78)[77] ^ 1<<bit}, api.OK)
		differs(t, d, o, disk.Span{At: 77, Size: 1})
	}
}

// P7.4: disks that are down, one of them or both, also after a write that was cut off.
func TestDifferDown(t *testing.T) {
	d := filled(t, api.MinDisk)
	o := d.Copy()
	light(t, o, 0, 3)
	write(t, o, 50, bytes.Repeat([]byte{255}, 10), api.ErrDown)
	differs(t, d, o, disk.Span{At: 50, Size: 3})
	light(t, d, 0, 1)
	write(t, d, 100, bytes.Repeat([]byte{255}, 10), api.ErrDown)
	differs(t, d, o, disk.Span{At: 50, Size: 3}, disk.Span{At: 100, Size: 1})
	d.Start()
	differs(t, d, o, disk.Span{At: 50, Size: 3}, disk.Span{At: 100, Size: 1})
	is(t, d, true, 2)
	is(t, o, false, 2)
}

// P7.4: neither disk is changed, nor is its fuse.
func TestDifferChangesNothing(t *testing.T) {
	d, o := filled(t, api.MinDisk), made(t, api.MinDisk)
	light(t, d, 1, 1)
	light(t, o, 0, 2)
	differs(t, d, o, disk.Span{At: 0, Size: api.MinDisk})
	is(t, d, true, 1)
	is(t, o, true, 0)
	holds(t, d, some(api.MinDisk))
	holds(t, o, make([]byte, api.MinDisk))
	write(t, d, 0, []byte("abc"), api.OK)
	write(t, d, 0, []byte("def"), api.ErrDown)
	write(t, o, 0, []byte("def"), api.ErrDown)
	differs(t, d, o, disk.Span{At: 1, Size: api.MinDisk - 1}) // both begin with "d"
}
