package wal_test

import (
	"bytes"
	"fmt"
	"math/rand"
	"testing"

	"klaxon/api"
	"klaxon/disk"
	"klaxon/wal"
)

// P8.1: the chapter's example.
func TestExample(t *testing.T) {
	d := blank(t, 1024)
	l := open(t, d)
	has(t, l, nil, 1, 496)
	if got := wal.Cost(10); got != 19 {
		t.Errorf("Cost(10): %d", got)
	}
	doAppend(t, l, some(10), api.OK)
	has(t, l, [][]byte{some(10)}, 1, 496-19)
}

// P8.1, P1: Cost of lengths that are allowed, of those beside them, and of any numbers.
func TestCost(t *testing.T) {
	for _, c := range []struct{ n, want int }{
		{1, 10}, {2, 11}, {10, 19}, {255, 264}, {256, 265}, {4096, 4105}, {65535, 65544}, {65536, 65545},
		{0, 0}, {-1, 0}, {-8, 0}, {-9, 0}, {-10, 0}, {65537, 0}, {65545, 0}, {1 << 20, 0}, {1<<31 - 1, 0}, {1 << 31, 0},
		{1 << 32, 0}, {1<<32 + 1, 0}, {-1 << 32, 0}, {-1<<32 + 1, 0}, {least, 0}, {least + 1, 0}, {greatest, 0}, {greatest - 8, 0},
	} {
		if got := wal.Cost(c.n); got != c.want {
			t.Errorf("Cost(%d): %d, want %d", c.n, got, c.want)
		}
	}
	for n := 1; n <= api.MaxRecord; n++ {
		if got := wal.Cost(n); got != n+9 {
			t.Fatalf("Cost(%d): %d", n, got)
		}
	}
}

// P8.1: a new disk, of even and odd sizes: two writes, and the bytes as the chapter tells them.
func TestOpenNew(t *testing.T) {
	for _, size := range []int{1024, 1025, 1026, 1027, 4096, 4097, 99999, api.MaxDisk - 1, api.MaxDisk} {
		d := blank(t, size)
		l := open(t, d)
		is(t, d, true, 2)
		want := make([]byte, size)
		// The generation 1, its checksum, the mark.
		copy(want, []byte{0, 0, 0, 1, 0x56, 0x43, 0xef, 0x8a, 1})
		holds(t, d, want)
		has(t, l, nil, 1, size/2-16)
		steady(t, d, nil, 1, size/2-16)
	}
}

// P8.1: the two writes of Open on a new disk: the head without its mark, and the mark.
func TestOpenNewWrites(t *testing.T) {
	for _, size := range []int{1024, 1025} {
		head := []byte{0, 0, 0, 1, 0x56, 0x43, 0xef, 0x8a, 0, 0, 0, 0, 0, 0, 0, 0}
		writesAs(t, make([]byte, size), []write{{0, head}, {8, []byte{1}}}, opening)
	}
}

// P8.1: if no half counts, a first half with anything in it becomes zeros in one write, ahead of its head.
func TestOpenOver(t *testing.T) {
	t.Parallel()
	for _, size := range []int{1024, 1025} {
		half := size / 2
		plan := []write{{0, make([]byte, half)}, {0, headBytes(1, 0)}, {8, []byte{1}}}
		writesAs(t, bytes.Repeat([]byte{7}, size), plan, opening)
		for _, at := range []int{0, 7, 8, 9, 15, 16, half - 1} {
			data := make([]byte, size)
			data[at] = 7
			writesAs(t, data, plan, opening)
		}
		// What is in the second half, or after it, does not matter, and stays.
		for _, at := range []int{half, half + 8, half + 15, half + 16, size - 1} {
			data := make([]byte, size)
			data[at] = 7
			writesAs(t, data, plan[1:], opening)
		}
	}
}

// P8.1: Open of a disk that is down.
func TestOpenDown(t *testing.T) {
	for _, data := range [][]byte{make([]byte, 1024), some(1024), both(halfBytes(512, 1, 1, some(3)), some(512))} {
		d := diskOf(t, data)
		breakDown(t, d)
		for range 3 {
			unopened(t, d)
		}
		is(t, d, false, 2)
		holds(t, d, data)
		d.Start()
		open(t, d)
	}
}

// P8.1: Open that needs no write does none, and so isn't harmed by a fuse that would end with the first.
func TestOpenWithoutWrites(t *testing.T) {
	for _, data := range [][]byte{
		both(halfBytes(512, 1, 1), make([]byte, 512)),
		both(halfBytes(512, 1, 1, some(30)), some(512)),
		both(halfBytes(512, 1, 1, some(30), some(448)), some(513)),
		both(some(512), halfBytes(512, 9, 1, some(487))),
		both(halfBytes(512, 4, 0, some(9)), halfBytes(512, 3, 1, some(9))),
	} {
		writesAs(t, data, nil, opening)
	}
}

// sample is a head of a half, and the generation with which it counts, or 0.
type sample struct {
	head       []byte
	generation int
}

// samples returns heads that count, and heads that do not.
func samples() []sample {
	l := []sample{{make([]byte, 16), 0}}
	for _, g := range []uint32{1, 2, 3, 255, 256, 65536, 1 << 24, 1<<31 - 2, 1<<31 - 1} {
		l = append(l, sample{headBytes(g, 1), int(g)})
	}
	for _, g := range []uint32{0, 1 << 31, 1<<31 + 1, 1<<32 - 1} {
		l = append(l, sample{headBytes(g, 1), 0})
	}
	for _, mark := range []byte{0, 2, 3, 129, 255} {
		l = append(l, sample{headBytes(5, mark), 0})
	}
	for bit := range 64 {
		wrong := headBytes(5, 1)
		wrong[bit/8] ^= 1 << (bit % 8)
		l = append(l, sample{wrong, 0})
	}
	// The chapter does not make the seven zeros a condition.
	for at := 9; at < 16; at++ {
		unusual := headBytes(6, 1)
		unusual[at] = 1
		l = append(l, sample{unusual, 6})
	}
	return l
}

// P8.1: which half is that of the log: each pair of heads, with a record in each half.
func TestOpenHalves(t *testing.T) {
	t.Parallel()
	for _, size := range []int{1024, 1025} {
		half := size / 2
		for _, one := range samples() {
			for _, two := range samples() {
				first, second := halfBytes(half, uint32(one.generation), 1, []byte("one")), halfBytes(half, uint32(two.generation), 1, []byte("two"))
				copy(first, one.head)
				copy(second, two.head)
				d := diskOf(t, append(both(first, second), make([]byte, size-2*half)...))
				l := open(t, d)
				switch {
				case one.generation == 0 && two.generation == 0:
					has(t, l, nil, 1, half-16)
				case one.generation >= two.generation:
					has(t, l, list("one"), one.generation, half-16-12)
					is(t, d, true, 1)
				default:
					has(t, l, list("two"), two.generation, half-16-12)
					is(t, d, true, 1)
				}
			}
		}
	}
}

// ended returns a half with three records, of which the second was changed.
func ended(half int, change func(second []byte)) []byte {
	b := halfBytes(half, 3, 1, []byte("first"), []byte("second"), []byte("third"))
	change(b[16+14 : 16+14+15])
	return b
}

// P8.1: the records end ahead of the first one with a bit that is wrong, be it in its length, checksum, mark or payload,
// and all that follows becomes zeros in one write.
func TestOpenRecordsEnd(t *testing.T) {
	t.Parallel()
	has(t, open(t, diskOf(t, both(ended(512, func([]byte) {}), make([]byte, 512)))), list("first", "second", "third"), 3, 512-16-14-15-14)
	for bit := range 15 * 8 {
		data := both(make([]byte, 512), ended(512, func(b []byte) { b[bit/8] ^= 1 << (bit % 8) }))
		l, d, _ := asModel(t, data)
		has(t, l, list("first"), 3, 512-16-14)
		is(t, d, true, 2)
		want := bytes.Clone(data)
		clear(want[512+16+14:])
		holds(t, d, want)
		steady(t, d, list("first"), 3, 512-16-14)
	}
	for _, mark := range []byte{0, 2, 255} {
		l, _, _ := asModel(t, both(ended(512, func(b []byte) { b[8] = mark }), some(512)))
		has(t, l, list("first"), 3, 512-16-14)
	}
}

// P8.1: a checksum is that of its generation and of its offset in the half: another's record is not there.
func TestOpenForeignRecord(t *testing.T) {
	for _, c := range []struct {
		generation uint32
		at         int
		there      bool
	}{{3, 30, true}, {2, 30, false}, {4, 30, false}, {3, 16, false}, {3, 31, false}, {3, 0, false}, {3, 542, false}, {0, 30, false}} {
		for _, start := range []int{0, 512} {
			data := make([]byte, 1024)
			half := ended(512, func(b []byte) { copy(b, recordBytes(c.generation, c.at, []byte("second"), 1)) })
			copy(data[start:], half)
			l, _, _ := asModel(t, data)
			if c.there {
				has(t, l, list("first", "second", "third"), 3, 512-16-14-15-14)
			} else {
				has(t, l, list("first"), 3, 512-16-14)
			}
		}
	}
}

// P8.1: lengths that are not allowed, though the record lies within the half and its checksum is that of its bytes.
func TestOpenLengths(t *testing.T) {
	t.Parallel()
	const half = 70000
	for _, n := range []int{0, 1, 2, 65535, 65536, 65537, 65600, half - 16 - 9} {
		b := halfBytes(half, 1, 1)
		copy(b[16:], recordBytes(1, 16, some(n), 1))
		l, d, _ := asModel(t, both(b, b))
		if n >= 1 && n <= 65536 {
			has(t, l, [][]byte{some(n)}, 1, half-16-9-n)
			is(t, d, true, 1)
		} else {
			has(t, l, nil, 1, half-16)
			is(t, d, true, 2)
		}
	}
}

// P8.1: a record that ends with its half is there, and one that is cut off by its end is not: not even if what would
// follow is in the next half, or on the byte after the second one.
func TestOpenAtTheEnd(t *testing.T) {
	t.Parallel()
	for _, size := range []int{1024, 1025} {
		half := size / 2
		for over := -12; over <= 12; over++ {
			for _, first := range []int{487, 478, 470, 1} {
				for _, start := range []int{0, half} {
					records := [][]byte{some(first)}
					if rest := half - 16 - 9 - first; rest > 9 {
						records = append(records, some(max(1, rest-9+over)))
					}
					data := make([]byte, size+600)
					copy(data[start:], headBytes(8, 1))
					copy(data[start+16:], blockBytes(8, 16, records))
					asModel(t, data[:size])
				}
			}
		}
	}
	whole := blockBytes(8, 16, [][]byte{some(488)}) // one byte more than fits
	first := both(headBytes(8, 1), whole)
	first = append(first, make([]byte, 1025-len(first))...)
	second := both(make([]byte, 512), first[:513])
	for _, data := range [][]byte{first, second} {
		l, _, _ := asModel(t, data)
		has(t, l, nil, 8, 496)
	}
}

// P8.1: what is left of a half is too short for a record's head: from 0 to 9 bytes, zeros and others.
func TestOpenShortRest(t *testing.T) {
	for rest := range 11 {
		for _, fill := range []byte{0, 1, 255} {
			half := halfBytes(512, 1, 1, some(512-16-9-rest))
			for i := 512 - rest; i < 512; i++ {
				half[i] = fill
			}
			l, d, _ := asModel(t, both(half, some(512)))
			has(t, l, [][]byte{some(512 - 16 - 9 - rest)}, 1, rest)
			if clean := rest == 0 || fill == 0; clean != (d.Writes() == 1) {
				t.Fatalf("%d bytes %d after the last record: %d writes", rest, fill, d.Writes())
			}
		}
	}
}

// P8.1: a single byte after the last record, wherever it is, and the write that removes it, wherever it is cut off.
func TestOpenRest(t *testing.T) {
	t.Parallel()
	for _, start := range []int{0, 512} {
		data := make([]byte, 1025)
		copy(data[start:], halfBytes(512, 2, 1, some(100), some(50)))
		end := 16 + 109 + 59
		for _, at := range []int{end, end + 1, end + 8, end + 9, 510, 511} {
			dirty := bytes.Clone(data)
			dirty[start+at] = 1
			writesAs(t, dirty, []write{{start + end, make([]byte, 512-end)}}, opening)
		}
		// Not the half's: the other half, and the byte after the second half.
		for _, at := range []int{(start + 512) % 1024, (start + 1023) % 1024, 1024} {
			beside := bytes.Clone(data)
			beside[at] = 1
			writesAs(t, beside, nil, opening)
		}
	}
	empty := both(halfBytes(512, 2, 1), halfBytes(512, 1, 1, some(20)))
	empty[400] = 9
	writesAs(t, empty, []write{{16, make([]byte, 496)}}, opening)
}

// P8.1: many records, and records of all lengths that fit.
func TestOpenMany(t *testing.T) {
	t.Parallel()
	for n := 1; n <= 487; n++ {
		asModel(t, both(halfBytes(512, 1, 1, some(n)), make([]byte, 512)))
	}
	var single [][]byte
	for i := range 10000 {
		single = append(single, []byte{byte(i)})
	}
	l, _, _ := asModel(t, both(halfBytes(100020, 1, 1, single...), make([]byte, 100020)))
	has(t, l, single, 1, 4)
	var great [][]byte
	for i := range 7 {
		great = append(great, bytes.Repeat([]byte{byte(i + 1)}, 65536))
	}
	l, _, _ = asModel(t, both(make([]byte, 1<<19), halfBytes(1<<19, lastGeneration, 1, great...)))
	has(t, l, great, lastGeneration, 1<<19-16-7*65545)
}

// spoiled returns a disk's bytes that were those of a log, with some changes here and there.
func spoiled(r *rand.Rand, size int) []byte {
	var halves [][]byte
	for range 2 {
		var records [][]byte
		for room := size/2 - 16; r.Intn(5) > 0; {
			n := 1 + r.Intn(60)
			if room -= 9 + n; room < 0 {
				break
			}
			records = append(records, some(n))
		}
		halves = append(halves, halfBytes(size/2, uint32(1+r.Intn(3)), 1, records...))
	}
	data := append(both(halves[0], halves[1]), make([]byte, size%2)...)
	for range r.Intn(4) {
		data[r.Intn(size)] = byte(r.Intn(3))
	}
	for range r.Intn(2) {
		data[r.Intn(2)*(size/2)+r.Intn(16)] = byte(r.Intn(3))
	}
	for range r.Intn(2) {
		data[16+r.Intn(30)] ^= 1 << r.Intn(8)
	}
	return data
}

// P8.1, P1: disks with any bytes, beside the model, and opened again.
func TestOpenAnyBytes(t *testing.T) {
	t.Parallel()
	r := rand.New(rand.NewSource(8))
	for i := range 6000 {
		size := 1024 + r.Intn(3)
		data := spoiled(r, size)
		switch i % 10 {
		case 0:
			r.Read(data)
		case 1:
			for j := range data {
				data[j] = byte(r.Intn(2))
			}
		}
		_, d, m := asModel(t, data)
		steady(t, d, m.records, m.generation, m.room())
	}
}

// P8.1: the writes of Open on such disks, wherever they are cut off.
func TestOpenAnyBytesWrites(t *testing.T) {
	t.Parallel()
	r := rand.New(rand.NewSource(9))
	for range 60 {
		data := spoiled(r, 1024+r.Intn(2))
		_, plan := opened(data)
		writesAs(t, data, plan, opening)
	}
}

// P8.1: two disks have logs of their own, and a disk's copy has a log that is the same, and goes its own way.
func TestOpenCopies(t *testing.T) {
	d := blank(t, 1024)
	l := open(t, d)
	doAppend(t, l, []byte("a"), api.OK)
	var copies []*disk.Disk
	for i := range 3 {
		c := d.Copy()
		doAppend(t, open(t, c), fmt.Appendf(nil, "copy %d", i), api.OK)
		copies = append(copies, c)
	}
	for i, c := range copies {
		steady(t, c, list("a", fmt.Sprintf("copy %d", i)), 1, 496-10-15)
	}
	has(t, l, list("a"), 1, 486)
	steady(t, d, list("a"), 1, 486)
}
