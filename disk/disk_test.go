package disk_test

import (
	"testing"

	"klaxon/api"
	"klaxon/disk"
)

// The chapter's example.
func TestExample(t *testing.T) {
	d := made(t, api.MinDisk)
	light(t, d, 1, 2)
	write(t, d, 0, []byte("abc"), api.OK)
	write(t, d, 10, []byte("xyz"), api.ErrDown)
	d.Start()
	read(t, d, 0, []byte("abc"))
	read(t, d, 10, []byte("xy\x00"))
	holds(t, d, laid(laid(make([]byte, api.MinDisk), 0, []byte("abc")), 10, []byte("xy")))
}

// P7.1: sizes from MinDisk to MaxDisk.
func TestNew(t *testing.T) {
	for _, size := range []int{api.MinDisk, api.MinDisk + 1, 1500, 4096, api.MaxDisk - 1, api.MaxDisk} {
		d := made(t, size)
		if d.Size() != size {
			t.Errorf("New(%d): size %d", size, d.Size())
		}
		is(t, d, true, 0)
		read(t, d, 0, make([]byte, size))
		holds(t, d, make([]byte, size))
	}
}

// P7.1: the document's numbers for the limits.
func TestLimits(t *testing.T) {
	if made(t, 1024).Size() != 1024 || made(t, 1<<20).Size() != 1<<20 {
		t.Error("sizes at the limits")
	}
}

// P7.1, P1: other sizes are refused, without a disk.
func TestNewWrongSizes(t *testing.T) {
	for _, size := range []int{
		api.MinDisk - 1, api.MaxDisk + 1, 0, 1, -1, 512, 2 * api.MaxDisk,
		-api.MinDisk, -api.MaxDisk, least, least + 1, greatest, greatest - 1,
		1 << 31, 1<<32 + api.MinDisk, -1<<31 + api.MinDisk,
	} {
		if d, e := disk.New(size); d != nil || e != api.ErrRange {
			t.Errorf("New(%d): %v with error %d", size, d, e)
		}
	}
}

// P7.1: a new disk has no fuse, however much is written.
func TestNewHasNoFuse(t *testing.T) {
	d := made(t, api.MinDisk)
	for i := range 3000 {
		write(t, d, i%api.MinDisk, []byte{byte(i)}, api.OK)
		is(t, d, true, i+1)
	}
	write(t, d, 0, some(api.MinDisk), api.OK)
	holds(t, d, some(api.MinDisk))
}

// P7.1: disks are apart from each other.
func TestDisksAreApart(t *testing.T) {
	one, two := made(t, api.MinDisk), made(t, api.MinDisk)
	write(t, one, 3, []byte("one"), api.OK)
	light(t, one, 0, 0)
	write(t, one, 0, []byte("x"), api.ErrDown)
	is(t, one, false, 2)
	is(t, two, true, 0)
	read(t, two, 0, make([]byte, api.MinDisk))
	write(t, two, 0, []byte("two"), api.OK)
	holds(t, one, laid(make([]byte, api.MinDisk), 3, []byte("one")))
	three := made(t, api.MinDisk)
	is(t, three, true, 0)
	holds(t, three, make([]byte, api.MinDisk))
}

// P7.1, P7.3: the size stays whatever happens.
func TestSizeStays(t *testing.T) {
	d := filled(t, 1500)
	check := func(when string) {
		t.Helper()
		if d.Size() != 1500 || d.Copy().Size() != 1500 {
			t.Errorf("%s: size %d, of a copy %d", when, d.Size(), d.Copy().Size())
		}
	}
	check("written")
	write(t, d, 1500, []byte("x"), api.ErrRange)
	check("refused")
	write(t, d, 1499, []byte("x"), api.OK)
	check("written at the end")
	light(t, d, 0, 3)
	check("with a fuse")
	write(t, d, 0, []byte("abcdef"), api.ErrDown)
	check("down")
	d.Start()
	check("started")
}

// within are ranges that lie on a disk of 1500 bytes.
var within = []struct{ at, n int }{
	{0, 0}, {0, 1}, {0, 2}, {0, 1499}, {0, 1500},
	{1, 0}, {1, 1}, {1, 1499}, {700, 0}, {700, 1}, {700, 800},
	{1498, 2}, {1499, 0}, {1499, 1}, {1500, 0},
}

// beyond are ranges that do not lie on a disk of 1500 bytes.
var beyond = []struct{ at, n int }{
	{0, 1501}, {1, 1500}, {700, 801}, {1499, 2}, {1500, 1}, {1501, 0}, {1501, 1}, {3000, 0}, {3000, 10},
	{-1, 0}, {-1, 1}, {-1, 2}, {-1, 1500}, {-1, 1501}, {-1500, 1500}, {-1500, 3000}, {-3, 4}, {-4, 4}, {-5, 4},
	{least, 0}, {least, 1}, {least + 1, 1500}, {greatest, 0}, {greatest, 1}, {greatest, 2}, {greatest, 1500},
	{greatest - 1, 1}, {greatest - 1, 2}, {greatest - 1499, 1500}, {greatest - 1498, 1500}, {1 << 32, 0}, {1 << 32, 4},
}

// beyondToRead are further ranges, of which no write has the number of bytes.
var beyondToRead = []struct{ at, n int }{
	{0, -1}, {1, -1}, {1500, -1}, {1501, -1}, {1501, -2}, {-1, -1}, {700, -700}, {1500, -1500},
	{0, least}, {1, least}, {1500, least}, {-1, least}, {least, least}, {least, -1}, {least, greatest},
	{0, greatest}, {1, greatest}, {2, greatest}, {1500, greatest}, {1500, greatest - 1499}, {1500, greatest - 1500},
	{greatest, greatest}, {greatest, least}, {-1, greatest}, {greatest, -1}, {0, 1 << 32}, {1, 1<<32 - 1}, {greatest, -greatest},
}

// P7.2: ranges that lie on the disk, read and written.
func TestRanges(t *testing.T) {
	for _, r := range within {
		d := filled(t, 1500)
		read(t, d, r.at, some(1500)[r.at:r.at+r.n])
		holds(t, d, some(1500))
		b := make([]byte, r.n)
		for i := range b {
			b[i] = byte(255 - i%3)
		}
		write(t, d, r.at, b, api.OK)
		is(t, d, true, 2)
		read(t, d, r.at, b)
		holds(t, d, laid(some(1500), r.at, b))
	}
}

// P7.2, P7.1: ranges that do not lie on the disk are refused; nothing is changed or counted.
func TestRangesBeyond(t *testing.T) {
	d := filled(t, 1500)
	for _, r := range beyond {
		unread(t, d, r.at, r.n, api.ErrRange)
		write(t, d, r.at, make([]byte, r.n), api.ErrRange)
		is(t, d, true, 1)
		holds(t, d, some(1500))
	}
	for _, r := range beyondToRead {
		unread(t, d, r.at, r.n, api.ErrRange)
	}
	is(t, d, true, 1)
	holds(t, d, some(1500))
}

// P7.2: of a disk of the greatest size too.
func TestRangesOfGreatestDisk(t *testing.T) {
	d := filled(t, api.MaxDisk)
	read(t, d, 0, some(api.MaxDisk))
	read(t, d, api.MaxDisk-1, some(api.MaxDisk)[api.MaxDisk-1:])
	read(t, d, api.MaxDisk, nil)
	unread(t, d, api.MaxDisk, 1, api.ErrRange)
	unread(t, d, 0, api.MaxDisk+1, api.ErrRange)
	write(t, d, 1, make([]byte, api.MaxDisk), api.ErrRange)
	write(t, d, 0, make([]byte, 2*api.MaxDisk), api.ErrRange)
	holds(t, d, some(api.MaxDisk))
	write(t, d, api.MaxDisk-3, []byte("end"), api.OK)
	holds(t, d, laid(some(api.MaxDisk), api.MaxDisk-3, []byte("end")))
}

// P7.2: every range of the least disk that begins or ends near an edge.
func TestRangesNearEdges(t *testing.T) {
	d := filled(t, api.MinDisk)
	all := some(api.MinDisk)
	for at := -3; at <= api.MinDisk+3; at++ {
		for _, n := range []int{-2, -1, 0, 1, 2, api.MinDisk - at - 1, api.MinDisk - at, api.MinDisk - at + 1} {
			if at >= 0 && n >= 0 && at+n <= api.MinDisk {
				read(t, d, at, all[at:at+n])
			} else {
				unread(t, d, at, n, api.ErrRange)
			}
		}
	}
}

// P7.2: nil and empty lists are equivalent.
func TestNothing(t *testing.T) {
	d := filled(t, api.MinDisk)
	for i, b := range [][]byte{nil, {}, some(10)[:0]} {
		write(t, d, 5, b, api.OK)
		is(t, d, true, i+2)
	}
	write(t, d, -1, nil, api.ErrRange)
	write(t, d, api.MinDisk+1, nil, api.ErrRange)
	is(t, d, true, 4)
	holds(t, d, some(api.MinDisk))
}

// P7.2: every value of a byte, at the place where it was written; a later write lies over an earlier one.
func TestBytes(t *testing.T) {
	d := made(t, api.MinDisk)
	all := make([]byte, 256)
	for i := range all {
		all[i] = byte(255 - i)
		write(t, d, i, all[i:i+1], api.OK)
	}
	read(t, d, 0, all)
	write(t, d, 100, []byte{0, 0, 7}, api.OK)
	write(t, d, 101, []byte{9, 9}, api.OK)
	holds(t, d, laid(laid(make([]byte, api.MinDisk), 0, all), 100, []byte{0, 9, 9}))
}

// P7.2: reading changes nothing, and the same is read again.
func TestReadAgain(t *testing.T) {
	d := filled(t, api.MinDisk)
	light(t, d, 1, 1)
	for range 10 {
		read(t, d, 17, some(api.MinDisk)[17:60])
		unread(t, d, 1, api.MinDisk, api.ErrRange)
	}
	is(t, d, true, 1)
	write(t, d, 0, []byte("a"), api.OK)
	write(t, d, 1, []byte("b"), api.ErrDown)
}

// P7.2, P7.1: a disk that is down returns ErrDown, also where the range does not lie on it, and counts no writes.
func TestDownComesFirst(t *testing.T) {
	d := broken(t, 1500)
	for _, r := range within {
		unread(t, d, r.at, r.n, api.ErrDown)
		write(t, d, r.at, make([]byte, r.n), api.ErrDown)
	}
	for _, r := range beyond {
		unread(t, d, r.at, r.n, api.ErrDown)
		write(t, d, r.at, make([]byte, r.n), api.ErrDown)
	}
	for _, r := range beyondToRead {
		unread(t, d, r.at, r.n, api.ErrDown)
	}
	is(t, d, false, 2)
	holds(t, d, some(1500))
	d.Start()
	for _, r := range beyond {
		unread(t, d, r.at, r.n, api.ErrRange)
		write(t, d, r.at, make([]byte, r.n), api.ErrRange)
	}
	is(t, d, true, 2)
}

// P7.1: which writes are counted.
func TestWrites(t *testing.T) {
	d := made(t, api.MinDisk)
	is(t, d, true, 0)
	write(t, d, 0, []byte("abc"), api.OK)
	is(t, d, true, 1)
	write(t, d, 0, nil, api.OK)
	is(t, d, true, 2)
	write(t, d, -1, []byte("abc"), api.ErrRange)
	is(t, d, true, 2)
	d.Read(0, 3)
	d.Light(5, 5)
	d.Light(-1, 5)
	d.Copy()
	is(t, d, true, 2)
	light(t, d, 1, 1)
	write(t, d, 0, []byte("abc"), api.OK)
	is(t, d, true, 3)
	write(t, d, api.MinDisk, []byte("abc"), api.ErrRange)
	is(t, d, true, 3)
	write(t, d, 0, []byte("def"), api.ErrDown)
	is(t, d, false, 4)
	write(t, d, 0, []byte("ghi"), api.ErrDown)
	write(t, d, -1, []byte("ghi"), api.ErrDown)
	write(t, d, 0, nil, api.ErrDown)
	is(t, d, false, 4)
	d.Start()
	is(t, d, true, 4)
	write(t, d, 0, []byte("jkl"), api.OK)
	is(t, d, true, 5)
	light(t, d, 0, 0)
	write(t, d, 0, nil, api.ErrDown)
	is(t, d, false, 6)
	d.Start()
	d.Start()
	is(t, d, true, 6)
}
