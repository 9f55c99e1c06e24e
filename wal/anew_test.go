package wal_test

import (
	"bytes"
	"slices"
	"testing"

	"klaxon/api"
	"klaxon/wal"
)

// P8.3: with no records, one, and several: how many writes there are, and the bytes as the chapter tells them.
func TestAnew(t *testing.T) {
	d := blank(t, 1025)
	l := open(t, d)
	doAppend(t, l, []byte("old"), api.OK)
	first := halfBytes(512, 1, 1, []byte("old"))
	doAnew(t, l, list("x", "yy"), api.OK)
	is(t, d, true, 4+4) // mark, records, head, mark
	has(t, l, list("x", "yy"), 2, 496-10-11)
	second := halfBytes(512, 2, 1, list("x", "yy")...)
	holds(t, d, append(both(first, second), 0))
	steady(t, d, list("x", "yy"), 2, 496-10-11)
	doAnew(t, l, nil, api.OK)
	is(t, d, true, 8+4) // mark, zeros, head, mark
	has(t, l, nil, 3, 496)
	holds(t, d, append(both(halfBytes(512, 3, 1), second), 0))
	steady(t, d, nil, 3, 496)
	doAnew(t, l, list("z"), api.OK)
	is(t, d, true, 12+5) // mark, zeros, records, head, mark
	has(t, l, list("z"), 4, 486)
	holds(t, d, append(both(halfBytes(512, 3, 1), halfBytes(512, 4, 1, []byte("z"))), 0))
	doAnew(t, l, [][]byte{}, api.OK)
	is(t, d, true, 17+3) // mark, head, mark
	has(t, l, nil, 5, 496)
	holds(t, d, append(both(halfBytes(512, 5, 1), halfBytes(512, 4, 1, []byte("z"))), 0))
	steady(t, d, nil, 5, 496)
}

// P8.3: the writes of Anew, wherever they are cut off: with the other half blank, with its head alone, with anything else
// in it, and with one byte; in either half; with no records, one, several, and as many as fit.
func TestAnewWrites(t *testing.T) {
	t.Parallel()
	last := make([]byte, 512)
	last[511] = 1
	early := make([]byte, 512)
	early[16] = 1
	for _, other := range [][]byte{make([]byte, 512), headed(9), last, early, some(512), halfBytes(512, 2, 1, some(100))} {
		for _, flip := range []bool{false, true} {
			data := both(halfBytes(512, 3, 1, some(40)), other)
			if flip {
				data = append(both(other, halfBytes(512, lastGeneration-1, 1, some(2), some(3))), 7)
			}
			m, none := opened(data)
			if len(none) > 0 {
				t.Fatal("the disk isn't clean")
			}
			for _, records := range [][][]byte{nil, list("x"), list("x", "yy", "x"), {some(487)}, {some(200), some(278)}} {
				e, plan := m.anew(records)
				if e != api.OK {
					t.Fatalf("the model: error %d", e)
				}
				writesAs(t, data, plan, startingAnew(records))
			}
		}
	}
}

// headed returns a half with bytes in its head alone, and a mark of neither kind.
func headed(mark byte) []byte {
	half := make([]byte, 512)
	copy(half, bytes.Repeat([]byte{mark}, 16))
	return half
}

// P8.3: the plan of writes itself, written out: the other half has something in it.
func TestAnewPlan(t *testing.T) {
	data := both(halfBytes(512, 3, 1, some(40)), some(512))
	writesAs(t, data, []write{
		{512 + 8, []byte{0}},
		{512 + 16, make([]byte, 496)},
		{512 + 16, both(recordBytes(4, 16, []byte("x"), 1), recordBytes(4, 26, []byte("yy"), 1))},
		{512, headBytes(4, 0)},
		{512 + 8, []byte{1}},
	}, startingAnew(list("x", "yy")))
}

// P8.3: as many records as fit into a half, and one byte more.
func TestAnewFit(t *testing.T) {
	t.Parallel()
	for _, size := range []int{1024, 1025, 1026, 5000} {
		half := size / 2
		var single [][]byte
		for range (half - 16) / 10 {
			single = append(single, []byte("s"))
		}
		rest := (half - 16) % 10
		full := slices.Clone(single)
		full[len(full)-1] = some(1 + rest)
		for _, records := range [][][]byte{{some(half - 25)}, {some(1), some(half - 35)}, {some(half - 35), some(1)}, full} {
			d := blank(t, size)
			l := open(t, d)
			doAppend(t, l, []byte("old"), api.OK)
			more := slices.Clone(records)
			more[0] = some(len(records[0]) + 1)
			another := append(slices.Clone(records), []byte("x"))
			for _, beyond := range [][][]byte{more, another} {
				doAnew(t, l, beyond, api.ErrSpace)
				is(t, d, true, 4)
				has(t, l, list("old"), 1, half-16-12)
			}
			doAnew(t, l, records, api.OK)
			has(t, l, records, 2, 0)
			steady(t, d, records, 2, 0)
			doAppend(t, l, []byte("x"), api.ErrSpace)
		}
	}
}

// P8.3: payloads of MaxRecord bytes, and as many of them as fit; and a total far beyond the disk.
func TestAnewGreat(t *testing.T) {
	t.Parallel()
	d := blank(t, api.MaxDisk)
	l := open(t, d)
	var great [][]byte
	for i := range 7 {
		great = append(great, bytes.Repeat([]byte{byte(i + 1)}, api.MaxRecord))
	}
	rest := 1<<19 - 16 - 7*65545
	doAnew(t, l, append(slices.Clone(great), some(api.MaxRecord)), api.ErrSpace)
	doAnew(t, l, append(slices.Clone(great), some(rest-8)), api.ErrSpace)
	full := append(slices.Clone(great), some(rest-9))
	doAnew(t, l, full, api.OK)
	has(t, l, full, 2, 0)
	steady(t, d, full, 2, 0)
	one := some(api.MaxRecord)
	var far [][]byte
	for range 40000 {
		far = append(far, one)
	}
	doAnew(t, l, far, api.ErrSpace)
	doAnew(t, l, append(far, nil), api.ErrSize)
	has(t, l, full, 2, 0)
}

// P8.3: a payload that is not allowed, at each place, also if the others do not fit.
func TestAnewSizes(t *testing.T) {
	d := blank(t, 200000)
	l := open(t, d)
	doAppend(t, l, []byte("old"), api.OK)
	for _, wrong := range [][]byte{nil, {}, make([]byte, 0, 9), some(65537), some(99000), some(1 << 20)} {
		for at := range 4 {
			for _, good := range [][]byte{[]byte("x"), some(65536)} {
				records := [][]byte{good, good, good, good}
				records[at] = wrong
				doAnew(t, l, records, api.ErrSize)
			}
		}
		doAnew(t, l, [][]byte{wrong}, api.ErrSize)
		doAnew(t, l, [][]byte{wrong, wrong}, api.ErrSize)
	}
	is(t, d, true, 4)
	has(t, l, list("old"), 1, 100000-16-12)
	doAnew(t, l, [][]byte{some(65536), some(1)}, api.OK)
	has(t, l, [][]byte{some(65536), some(1)}, 2, 100000-16-65545-10)
}

// P8.3: the greatest generation is reached, and not left; records are appended to it.
func TestAnewFull(t *testing.T) {
	for _, flip := range []bool{false, true} {
		data := both(halfBytes(512, lastGeneration-1, 1, []byte("a")), make([]byte, 512))
		if flip {
			data = both(make([]byte, 512), halfBytes(512, lastGeneration-1, 1, []byte("a")))
		}
		l, d, _ := asModel(t, data)
		doAnew(t, l, list("b"), api.OK)
		has(t, l, list("b"), lastGeneration, 486)
		writes := d.Writes()
		for range 2 {
			doAnew(t, l, list("c"), api.ErrFull)
			doAnew(t, l, nil, api.ErrFull)
			doAnew(t, l, [][]byte{nil}, api.ErrSize)
			doAnew(t, l, [][]byte{some(65537)}, api.ErrSize)
			doAnew(t, l, [][]byte{some(488)}, api.ErrSpace)
		}
		is(t, d, true, writes)
		has(t, l, list("b"), lastGeneration, 486)
		doAppend(t, l, []byte("c"), api.OK)
		steady(t, d, list("b", "c"), lastGeneration, 476)
		doAnew(t, open(t, d), list("c"), api.ErrFull)
	}
}

// P8.3: which error comes first: the disk that is down, the size, the room, the generation.
func TestAnewErrorOrder(t *testing.T) {
	data := both(halfBytes(512, lastGeneration, 1, []byte("a")), some(512))
	wrong, wide, right := [][]byte{some(500), nil}, [][]byte{some(480), some(1)}, list("x")
	l, d, _ := asModel(t, data)
	// A fuse does not matter to a call that writes nothing.
	light(t, d, 0, 0)
	doAnew(t, l, wrong, api.ErrSize)
	doAnew(t, l, wide, api.ErrSpace)
	doAnew(t, l, right, api.ErrFull)
	is(t, d, true, 1)
	breakDown(t, d)
	for _, records := range [][][]byte{wrong, wide, right, nil} {
		doAnew(t, l, records, api.ErrDown)
	}
	is(t, d, false, 2)
	holds(t, d, data)
	has(t, l, list("a"), lastGeneration, 486)
	l, d, _ = asModel(t, both(halfBytes(512, 1, 1), some(512)))
	light(t, d, 0, 0)
	doAnew(t, l, wide, api.ErrSpace)
	is(t, d, true, 1)
}

// P8.3: both halves count with one generation: the first is that of the log, and the second is written over.
func TestAnewEqualHalves(t *testing.T) {
	data := both(halfBytes(512, 5, 1, []byte("one")), halfBytes(512, 5, 1, []byte("two")))
	l, d, m := asModel(t, data)
	has(t, l, list("one"), 5, 484)
	_, plan := m.anew(list("three"))
	writesAs(t, data, plan, startingAnew(list("three")))
	doAnew(t, l, list("three"), api.OK)
	steady(t, d, list("three"), 6, 482)
}

// P8.3: many times in turn, with appends in between: the halves alternate, and old records do not come back.
func TestAnewInTurn(t *testing.T) {
	t.Parallel()
	d := blank(t, 1024)
	l := open(t, d)
	for i := range 200 {
		records := [][]byte{some(1 + i), some(1 + (i*7)%50)}
		doAnew(t, l, records, api.OK)
		if i%3 == 0 {
			doAppend(t, l, []byte("more"), api.OK)
			records = append(records, []byte("more"))
		}
		room := 496
		for _, b := range records {
			room -= wal.Cost(len(b))
		}
		has(t, l, records, i+2, room)
		steady(t, d, records, i+2, room)
	}
}

// P8.3: a log is started anew with its own records, and with some of them.
func TestAnewWithOwnRecords(t *testing.T) {
	d := blank(t, 1024)
	l := open(t, d)
	for _, s := range []string{"a", "bb", "ccc"} {
		doAppend(t, l, []byte(s), api.OK)
	}
	doAnew(t, l, l.Records(), api.OK)
	has(t, l, list("a", "bb", "ccc"), 2, 496-33)
	doAnew(t, l, l.Records()[1:], api.OK)
	steady(t, d, list("bb", "ccc"), 3, 496-23)
	same := []byte("same")
	doAnew(t, l, [][]byte{same, same, same}, api.OK)
	steady(t, d, list("same", "same", "same"), 4, 496-39)
}
