package disk_test

import (
	"bytes"
	"testing"

	"klaxon/api"
)

// P7.2, P7.3: fuses of several writes and bytes, and a last write of several sizes at several offsets: which bytes are
// there, that nothing beside them is changed, and that the disk is up and can be read until then, and down afterwards.
func TestFuse(t *testing.T) {
	const size = api.MinDisk
	for writes := range 5 {
		for allowed := range 9 {
			for n := range 8 {
				for _, at := range []int{0, 1, 500, size - n} {
					d := filled(t, size)
					light(t, d, writes, allowed)
					want := some(size)
					for i := range writes {
						is(t, d, true, i+1)
						read(t, d, 0, want)
						b := bytes.Repeat([]byte{byte(200 + i)}, i)
						write(t, d, 3*i, b, api.OK)
						want = laid(want, 3*i, b)
					}
					is(t, d, true, writes+1)
					read(t, d, 0, want)
					last := []byte("\xfe\xfd\xfe\xfd\xfe\xfd\xfe\xfd")[:n]
					write(t, d, at, last, api.ErrDown)
					want = laid(want, at, last[:min(n, allowed)])
					is(t, d, false, writes+2)
					unread(t, d, 0, 1, api.ErrDown)
					unread(t, d, 0, 0, api.ErrDown)
					write(t, d, 0, []byte("more"), api.ErrDown)
					write(t, d, 0, nil, api.ErrDown)
					holds(t, d, want)
					d.Start()
					is(t, d, true, writes+2)
					read(t, d, 0, want)
				}
			}
		}
	}
}

// P7.2: a write over the whole disk, cut off anywhere.
func TestFuseCutsWholeDisk(t *testing.T) {
	const size = api.MinDisk
	full := bytes.Repeat([]byte{0xff}, size)
	for allowed := range size + 3 {
		d := filled(t, size)
		light(t, d, 0, allowed)
		write(t, d, 0, full, api.ErrDown)
		is(t, d, false, 2)
		holds(t, d, laid(some(size), 0, full[:min(size, allowed)]))
	}
}

// P7.2: the fuse allows bytes of the last write alone; earlier ones may be longer.
func TestFuseBytesAreOfLastWrite(t *testing.T) {
	d := made(t, api.MinDisk)
	light(t, d, 2, 3)
	write(t, d, 0, []byte("longer than three"), api.OK)
	write(t, d, 100, []byte("this one too"), api.OK)
	write(t, d, 200, []byte("cut off"), api.ErrDown)
	want := laid(make([]byte, api.MinDisk), 0, []byte("longer than three"))
	holds(t, d, laid(laid(want, 100, []byte("this one too")), 200, []byte("cut")))
}

// P7.2: a last write whose bytes are allowed completely is written completely, and yet the disk is down.
func TestFuseAllowsAll(t *testing.T) {
	for _, allowed := range []int{3, 4, 1000, api.MaxDisk, greatest} {
		d := made(t, api.MinDisk)
		light(t, d, 0, allowed)
		write(t, d, api.MinDisk-3, []byte("abc"), api.ErrDown)
		is(t, d, false, 1)
		holds(t, d, laid(make([]byte, api.MinDisk), api.MinDisk-3, []byte("abc")))
	}
}

// P7.2: writes of no bytes use up the fuse, and end it.
func TestFuseAndWritesOfNothing(t *testing.T) {
	d := filled(t, api.MinDisk)
	light(t, d, 2, 5)
	write(t, d, 0, nil, api.OK)
	write(t, d, api.MinDisk, []byte{}, api.OK)
	is(t, d, true, 3)
	write(t, d, 0, nil, api.ErrDown)
	is(t, d, false, 4)
	holds(t, d, some(api.MinDisk))
}

// P7.2: writes that return ErrRange neither use up the fuse nor end it; nor does reading.
func TestFuseAndRefusedWrites(t *testing.T) {
	for writes := range 3 {
		d := filled(t, 1500)
		light(t, d, writes, 2)
		want := some(1500)
		for i := range writes + 1 {
			for _, r := range beyond {
				write(t, d, r.at, make([]byte, r.n), api.ErrRange)
				unread(t, d, r.at, r.n, api.ErrRange)
			}
			read(t, d, 0, want)
			is(t, d, true, i+1)
			if i < writes {
				write(t, d, i, []byte{255}, api.OK)
				want = laid(want, i, []byte{255})
			}
		}
		write(t, d, 100, []byte("abc"), api.ErrDown)
		holds(t, d, laid(want, 100, []byte("ab")))
	}
}

// P7.3, P1: negative numbers are refused, and the fuse stays as it was.
func TestLightNegative(t *testing.T) {
	wrong := []struct{ writes, bytes int }{
		{-1, 0}, {0, -1}, {-1, -1}, {-1, 5}, {5, -1}, {least, 0}, {0, least}, {least, least},
		{least, greatest}, {greatest, least}, {greatest, -1}, {-1, greatest},
	}
	plain, fused, down := filled(t, api.MinDisk), filled(t, api.MinDisk), broken(t, api.MinDisk)
	light(t, fused, 1, 2)
	for _, w := range wrong {
		for _, e := range []api.Errno{
			plain.Light(w.writes, w.bytes), fused.Light(w.writes, w.bytes), down.Light(w.writes, w.bytes),
		} {
			if e != api.ErrRange {
				t.Errorf("Light(%d, %d): error %d", w.writes, w.bytes, e)
			}
		}
	}
	for range 10 {
		write(t, plain, 0, []byte("abc"), api.OK)
	}
	is(t, plain, true, 11)
	write(t, fused, 0, []byte("abc"), api.OK)
	write(t, fused, 3, []byte("def"), api.ErrDown)
	is(t, fused, false, 3)
	holds(t, fused, laid(some(api.MinDisk), 0, []byte("abcde")))
	is(t, down, false, 2)
	holds(t, down, some(api.MinDisk))
}

// P7.3: a fuse replaces an earlier one, with all of its writes, used up or not, and its bytes.
func TestLightReplaces(t *testing.T) {
	for _, c := range []struct{ writes, bytes, used, newWrites, newBytes int }{
		{0, 0, 0, 2, 1}, {0, 5, 0, 1, 0}, {5, 0, 0, 0, 4}, {5, 1, 3, 1, 2}, {3, 3, 3, 3, 1}, {2, 0, 2, 0, 2}, {1, 2, 0, 1, 2},
		{greatest, greatest, 3, 0, 0},
	} {
		d := filled(t, api.MinDisk)
		want := some(api.MinDisk)
		light(t, d, c.writes, c.bytes)
		for range c.used {
			write(t, d, 10, []byte{250}, api.OK)
			want = laid(want, 10, []byte{250})
		}
		light(t, d, c.newWrites, c.newBytes)
		is(t, d, true, 1+c.used)
		for range c.newWrites {
			write(t, d, 20, []byte{251}, api.OK)
			want = laid(want, 20, []byte{251})
		}
		write(t, d, 30, []byte("last"), api.ErrDown)
		is(t, d, false, 2+c.used+c.newWrites)
		holds(t, d, laid(want, 30, []byte("last")[:c.newBytes]))
	}
}

// P7.3: a disk that is down takes a fuse, stays down, and loses it when it is started.
func TestLightDown(t *testing.T) {
	for _, writes := range []int{0, 1, greatest} {
		d := broken(t, api.MinDisk)
		light(t, d, writes, 3)
		is(t, d, false, 2)
		unread(t, d, 0, 1, api.ErrDown)
		write(t, d, 0, []byte("abc"), api.ErrDown)
		is(t, d, false, 2)
		d.Start()
		for i := range 5 {
			write(t, d, 0, []byte("abcdef"), api.OK)
			is(t, d, true, 3+i)
		}
		holds(t, d, laid(some(api.MinDisk), 0, []byte("abcdef")))
	}
}

// P7.3, P1: the greatest numbers.
func TestLightGreatest(t *testing.T) {
	d := made(t, api.MinDisk)
	light(t, d, greatest, greatest)
	for i := range 1000 {
		write(t, d, 0, []byte("abc"), api.OK)
		is(t, d, true, i+1)
	}
	light(t, d, greatest, 0)
	write(t, d, 0, []byte("def"), api.OK)
	light(t, d, 0, greatest)
	write(t, d, 0, some(api.MinDisk), api.ErrDown)
	is(t, d, false, 1002)
	holds(t, d, some(api.MinDisk))
}

// P7.3: setting a fuse alone changes neither the bytes nor whether the disk is up.
func TestLightAlone(t *testing.T) {
	d := filled(t, api.MinDisk)
	light(t, d, 0, 0)
	is(t, d, true, 1)
	read(t, d, 0, some(api.MinDisk))
}

// P7.3: a start of a disk that is up removes the fuse, also one that is used up, and leaves the rest.
func TestStartUp(t *testing.T) {
	d := filled(t, api.MinDisk)
	d.Start()
	is(t, d, true, 1)
	holds(t, d, some(api.MinDisk))
	light(t, d, 0, 1)
	d.Start()
	write(t, d, 0, []byte("abc"), api.OK)
	light(t, d, 1, 1)
	write(t, d, 3, []byte("def"), api.OK)
	d.Start()
	for i := range 5 {
		write(t, d, 6, []byte("ghi"), api.OK)
		is(t, d, true, 4+i)
	}
	holds(t, d, laid(some(api.MinDisk), 0, []byte("abcdefghi")))
}

// P7.3: a start of a disk that is down: the bytes stay as the last write left them, the fuse is gone, a new one works.
func TestStartDown(t *testing.T) {
	d := filled(t, api.MinDisk)
	want := some(api.MinDisk)
	for round := range 5 {
		light(t, d, round, round)
		for range round {
			write(t, d, 50, []byte("between"), api.OK)
			want = laid(want, 50, []byte("between"))
		}
		write(t, d, 10*round, []byte("\xff\xff\xff\xff\xff\xff"), api.ErrDown)
		want = laid(want, 10*round, []byte("\xff\xff\xff\xff\xff\xff")[:round])
		is(t, d, false, d.Writes())
		d.Start()
		is(t, d, true, d.Writes())
		read(t, d, 0, want)
		for range 3 {
			write(t, d, 60, []byte("after"), api.OK)
			want = laid(want, 60, []byte("after"))
		}
		read(t, d, 0, want)
	}
}
