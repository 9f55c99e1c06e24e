package kv_test

import (
	"bytes"
	"fmt"
	"slices"
	"testing"

	"klaxon/api"
	"klaxon/kv"
)

// P9.1: a store on a new disk, or on one with no log, is empty, and has the log of layer 8.
func TestOpenNew(t *testing.T) {
	for _, size := range []int{1024, 1025, 4096, 1 << 20} {
		for _, old := range [][]byte{nil, some(1000)} {
			d := blank(t, size)
			if e := d.Write(0, old); e != api.OK {
				t.Fatalf("filling the disk: error %d", e)
			}
			want := d.Copy()
			openLog(t, want)
			s := open(t, d)
			sameDisk(t, d, want)
			has(t, s, nil)
			reading(t, s, nil, "a", "\x00")
			if got := s.Room(); got != size/2-16 {
				t.Errorf("the room on a disk of %d bytes: %d", size, got)
			}
			if got := s.Between("", "\xff", greatest); len(got) != 0 {
				t.Errorf("Between in an empty store: %q", got)
			}
			for _, back := range []bool{false, true} {
				if key, ok := s.Edge("m", back); key != "" || ok {
					t.Errorf("Edge in an empty store: %q, %v", key, ok)
				}
			}
		}
	}
}

// P9.1: the error of layer 8, of a disk that is down.
func TestOpenDown(t *testing.T) {
	d := logOf(t, 1024, recordBytes(put("a", "x")))
	breakDown(t, d)
	unopened(t, d, api.ErrDown)
	d.Start()
	has(t, open(t, d), model(nil).after(put("a", "x")))
}

// P9.1: the error of layer 8, of a disk that goes down, at each write of Open; also ahead of that of a wrong record.
func TestOpenGoesDown(t *testing.T) {
	torn := logOf(t, 1024, []byte("no change"))
	l := openLog(t, torn)
	light(t, torn, 1, 0)
	if e := l.Append([]byte("torn")); e != api.ErrDown {
		t.Fatalf("a record that is cut off: error %d", e)
	}
	for writes := range 2 {
		for n := range 17 {
			d := blank(t, 1024)
			light(t, d, writes, n)
			unopened(t, d, api.ErrDown)
			d.Start()
			has(t, open(t, d), nil)
		}
	}
	for n := range 20 {
		d := started(torn)
		light(t, d, 0, n)
		unopened(t, d, api.ErrDown)
		d.Start()
		unopened(t, d, api.ErrSum)
	}
}

// P9.1: the store results from all records, in order, whatever number of steps they have.
func TestOpenRecords(t *testing.T) {
	var many []step
	for i := range 300 {
		many = append(many, put(fmt.Sprintf("key %d", i%200), fmt.Sprint("value ", i)))
	}
	for _, records := range [][][]step{
		{{put("a", "x")}},
		{{put("b", "y"), put("a", "x")}, {put("c", "")}},
		{{put("a", "first")}, {put("a", "second")}},
		{{put("a", "x"), put("b", "y")}, {drop("a")}, {put("c", "z")}},
		{{put("a", "x")}, {drop("a")}, {put("a", "y")}},
		{{put("a", "x"), drop("a")}},
		{{drop("a"), put("a", "x")}},
		{{put("a", "x"), drop("a"), put("a", "y")}},
		{{put("a", "x"), put("a", "y"), put("a", "")}},
		{{drop("a")}},
		{{drop("a"), drop("a")}, {drop("b")}},
		{{put("\x00", "\x00"), put("\xff\xfe", "\xff")}, {put("\x01\x01a\x00\x00", "\x02\x01a")}},
		{{put(long("k", 128), "x"), putBytes("v", some(4096))}, {drop(long("k", 128))}, {putBytes("w", some(256))}},
		{many},
		{many, {drop("key 7")}, many[:20]},
		{many[:64], many[64:129]},
	} {
		var raw [][]byte
		for _, steps := range records {
			raw = append(raw, recordBytes(steps...))
		}
		d := logOf(t, 1<<16, raw...)
		before := d.Copy()
		s := open(t, d)
		sameDisk(t, d, before)
		m := model(nil).after(slices.Concat(records...)...)
		has(t, s, m)
		if got, want := s.Room(), 1<<15-16-costs(raw); got != want {
			t.Errorf("the room after %d records: %d, want %d", len(raw), got, want)
		}
	}
}

// P9.1: the longest record of a log may be full of steps, far more than one change may have.
func TestOpenLongestRecord(t *testing.T) {
	var steps []step
	for i := range 65536 / 8 {
		steps = append(steps, put(fmt.Sprintf("%04x", i), ""))
	}
	record := recordBytes(steps...)
	if len(record) != 65536 {
		t.Fatalf("the record has %d bytes", len(record))
	}
	s := open(t, logOf(t, 1<<18, record))
	if s.Len() != 8192 || s.Size() != 4*8192 {
		t.Errorf("Len and Size: %d, %d", s.Len(), s.Size())
	}
	if key, ok := s.Edge("1000", true); key != "0fff" || !ok {
		t.Errorf("Edge: %q, %v", key, ok)
	}
}

// wrong are payloads that no change has.
func wrong() [][]byte {
	long := some(5000)
	l := [][]byte{
		{1}, {2}, {1, 0}, {2, 0}, {1, 1}, {2, 1}, {1, 0, 0, 0}, {1, 0, 0, 1, 'v'},
		{1, 1, 'k'}, {1, 1, 'k', 0}, {1, 1, 'k', 0, 1}, {1, 1, 'k', 1, 0}, {1, 1, 'k', 0, 0, 0}, {1, 1, 'k', 0, 1, 'v', 0},
		{2, 1, 'k', 0}, {2, 1, 'k', 0, 0}, {2, 2, 'k'}, {2, 1, 'k', 2}, {2, 1, 'k', 1},
		recordBytes(putBytes("k", long[:4097])), recordBytes(putBytes("k", long[:4352])), recordBytes(putBytes("k", long)),
		append([]byte{1, 1, 'k', 255, 255}, some(60000)...),
		append([]byte{1, 1, 'k', 16, 0}, some(4095)...), append([]byte{1, 1, 'k', 16, 0}, some(4097)...),
		[]byte("no change"),
	}
	for mark := range 256 {
		l = append(l, []byte{byte(mark)})
		if mark != 1 && mark != 2 {
			l = append(l, []byte{byte(mark), 1, 'k'}, []byte{byte(mark), 1, 'k', 0, 1, 'v'}, []byte{byte(mark), 0})
		}
	}
	for n := 129; n < 256; n++ {
		key := append([]byte{byte(n)}, some(n)...)
		l = append(l, append([]byte{2}, key...), append(append([]byte{1}, key...), 0, 1, 'v'))
	}
	return l
}

// P9.1: a record that is not that of a change, alone, behind and ahead of right ones, and as a part of a record.
func TestOpenWrongRecord(t *testing.T) {
	right := recordBytes(put("a", "x"), drop("b"))
	for _, b := range wrong() {
		for _, records := range [][][]byte{{b}, {right, b}, {b, right}, {append(bytes.Clone(right), b...)}} {
			d := logOf(t, max(1024, 2*(costs(records)+16)), records...)
			before := d.Copy()
			unopened(t, d, api.ErrSum)
			sameDisk(t, d, before)
		}
	}
}

// P9.1: a record that is cut off at each byte is right only between two steps.
func TestOpenCutRecord(t *testing.T) {
	steps := []step{put("a", "x"), drop("bcd"), put("empty", ""), putBytes("long", some(300)), drop(long("k", 128)), put("a", "y")}
	ends := map[int]int{}
	for n := range len(steps) + 1 {
		ends[len(recordBytes(steps[:n]...))] = n
	}
	whole := recordBytes(steps...)
	for at := 1; at <= len(whole); at++ {
		d := logOf(t, 4096, recordBytes(put("a", "first")), whole[:at])
		n, ok := ends[at]
		if !ok {
			unopened(t, d, api.ErrSum)
			continue
		}
		has(t, open(t, d), model(nil).after(put("a", "first")).after(steps[:n]...))
	}
	if len(ends) != len(steps)+1 {
		t.Fatalf("%d ends of steps", len(ends))
	}
}

// words returns all strings of at most n of these bytes.
func words(n int, alphabet string) []string {
	all, last := []string{""}, []string{""}
	for range n {
		var next []string
		for _, s := range last {
			for i := range alphabet {
				next = append(next, s+alphabet[i:i+1])
			}
		}
		all, last = append(all, next...), next
	}
	return all
}

// shortRecords returns the steps of each record of at most n bytes whose keys and values have these bytes.
func shortRecords(n int, alphabet string) map[string][]step {
	var short []step
	for _, key := range words(n-2, alphabet)[1:] {
		short = append(short, drop(key))
		for _, value := range words(max(0, n-4-len(key)), alphabet) {
			short = append(short, put(key, value))
		}
	}
	found := map[string][]step{}
	var extend func(steps []step)
	extend = func(steps []step) {
		for _, s := range short {
			next := append(slices.Clone(steps), s)
			if b := recordBytes(next...); len(b) <= n {
				found[string(b)] = next
				extend(next)
			}
		}
	}
	extend(nil)
	return found
}

// P9.1: all short records, right ones and others.
func TestOpenShortRecords(t *testing.T) {
	t.Parallel()
	const n, alphabet = 6, "\x00\x01\x02\x03\x04"
	right, seen := shortRecords(n, alphabet), 0
	for _, payload := range words(n, alphabet)[1:] {
		d := logOf(t, 1024, []byte(payload))
		steps, ok := right[payload]
		if !ok {
			unopened(t, d, api.ErrSum)
			continue
		}
		seen++
		has(t, open(t, d), model(nil).after(steps...))
	}
	if seen != len(right) || seen < 100 {
		t.Errorf("%d right records, want %d", seen, len(right))
	}
}

// P9.1: a store that is opened again has what was committed, and nothing that was not.
func TestOpenAgain(t *testing.T) {
	s, d, m := filled(t, 2048, put("a", "x"), put("b", "y"), drop("a"), put("c", ""))
	kept(t, d, m)
	begun(t, s, put("d", "z"), drop("b"))
	begun(t, s, put("e", "z")).Cancel()
	kept(t, d, m)
	again := open(t, d)
	do(t, again, put("f", "w"))
	kept(t, d, m.after(put("f", "w")))
}

// Rules, Results with an error: the store is nil, also of a log whose first records are right.
func TestOpenNothing(t *testing.T) {
	s, e := kv.Open(logOf(t, 1024, recordBytes(put("a", "x")), []byte{9}))
	if s != nil || e != api.ErrSum {
		t.Errorf("Open: %v with error %d", s, e)
	}
}
