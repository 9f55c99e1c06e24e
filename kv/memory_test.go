package kv_test

import (
	"bytes"
	"runtime/debug"
	"slices"
	"strings"
	"testing"
	"unsafe"

	"klaxon/api"
	"klaxon/kv"
)

// span is a piece of memory.
type span struct{ from, to uintptr }

func overlap(a, b span) bool { return a.from < b.to && b.from < a.to }

func spanOf(start unsafe.Pointer, size int) []span {
	if size == 0 {
		return nil
	}
	return []span{{uintptr(start), uintptr(start) + uintptr(size)}}
}

// listSpan returns the memory of a list, with its spare capacity.
func listSpan(b []byte) []span { return spanOf(unsafe.Pointer(unsafe.SliceData(b)), cap(b)) }

func textSpan(s string) []span { return spanOf(unsafe.Pointer(unsafe.StringData(s)), len(s)) }

// pairSpans returns the memory of pairs: of their list, and of each key and value.
func pairSpans(l []kv.Pair) []span {
	spans := spanOf(unsafe.Pointer(unsafe.SliceData(l)), cap(l)*int(unsafe.Sizeof(kv.Pair{})))
	for _, p := range l {
		spans = append(spans, slices.Concat(textSpan(p.Key), listSpan(p.Value))...)
	}
	return spans
}

// loose returns a string that is a part of bytes that may be changed, and those bytes.
func loose(s string) (string, []byte) {
	b := []byte("<" + s + ">")
	return unsafe.String(&b[1], len(s)), b
}

// spoil changes all bytes of b, and those of its spare capacity.
func spoil(b []byte) {
	b = b[:cap(b)]
	for i := range b {
		b[i] ^= 0xff
	}
}

// spoilPairs changes pairs, their list, and all spare capacity.
func spoilPairs(l []kv.Pair) {
	for _, p := range l {
		spoil(p.Value)
	}
	l = l[:cap(l)]
	for i := range l {
		l[i] = kv.Pair{Key: "spoiled", Value: []byte("spoiled")}
	}
}

// everything returns the memory of results of a store and of a change, each on its own, of calls with these arguments.
func everything(s *kv.Store, c *kv.Change, key string) [][]span {
	var l [][]span
	for _, r := range []reads{s, c} {
		value, _ := r.Get(key)
		l = append(l, listSpan(value), pairSpans(r.Scan("")), pairSpans(r.Scan(key)))
	}
	for _, most := range []int{1, 2, greatest} {
		l = append(l, pairSpans(s.Between("", "\xff", most)), pairSpans(s.Between(key, "\xff", most)))
	}
	for _, back := range []bool{false, true} {
		edge, _ := s.Edge(key, back)
		l = append(l, textSpan(edge))
	}
	return l
}

// Rules, Memory: no two results share memory, nor does a result with itself, nor with an argument.
func TestResultsApart(t *testing.T) {
	// Memory that was freed might be that of a later result.
	defer debug.SetGCPercent(debug.SetGCPercent(-1))
	s, _, _ := filled(t, 4096, put("a", "one"), put("ab", "two"), put("b", ""), put("c", "four"))
	c := begun(t, s, put("a", "new"), put("bb", "six"), drop("c"))
	do(t, s, put("ab", "newer"), put("d", "seven"))
	var all []span
	for range 2 {
		for _, key := range []string{"a", "ab", "b", "bb", "c", "d"} {
			argument, room := loose(key)
			spans := slices.Concat(everything(s, c, argument)...)
			for i, one := range spans {
				for _, other := range slices.Concat(all, listSpan(room), spans[:i]) {
					if overlap(one, other) {
						t.Fatalf("with the argument %q: memory is shared", key)
					}
				}
			}
			all = append(all, spans...)
			if got := string(room); got != "<"+key+">" {
				t.Errorf("the argument %q is now %q", key, got)
			}
		}
	}
}

// Rules, Memory: what is done to results has no effect on the store, on a change, or on other results.
func TestSpoiledResults(t *testing.T) {
	s, d, m := filled(t, 4096, put("a", "one"), put("ab", "two"), put("b", "three"))
	c := begun(t, s, put("a", "new"), put("c", "four"), drop("b"))
	late := begun(t, s)
	with := m.after(put("a", "new"), put("c", "four"), drop("b"))
	check := func(m, with model) {
		t.Helper()
		held := [][]kv.Pair{s.Scan(""), s.Between("", "z", 9), s.Between("a", "z", 2)}
		for range 2 {
			for _, l := range [][]kv.Pair{s.Scan(""), s.Scan("a"), s.Between("", "z", 9), s.Between("a", "z", 1), c.Scan(""), c.Scan("a"), late.Scan("")} {
				spoilPairs(append(l, kv.Pair{Key: "more"}))
				spoilPairs(l)
			}
			for _, key := range []string{"a", "ab", "b", "c"} {
				for _, r := range []reads{s, c, late} {
					value, _ := r.Get(key)
					spoil(append(value, "more"...))
					spoil(value)
				}
			}
			has(t, s, m)
			reading(t, c, with, "", "a", "ab", "b", "c")
			reading(t, late, model(nil).after(put("a", "one"), put("ab", "two"), put("b", "three")), "", "a", "ab", "b", "c")
		}
		if !slices.EqualFunc(held[0], m, samePair) || !slices.EqualFunc(held[1], m, samePair) || !slices.EqualFunc(held[2], m[:2], samePair) {
			t.Error("a result changed with others")
		}
	}
	check(m, with)
	commits(t, c, api.OK)
	check(with, with)
	kept(t, d, with)
	s = open(t, d)
	late = s.Begin()
	c = s.Begin()
	for _, r := range []reads{s, c} {
		value, _ := r.Get("ab")
		spoil(value)
		spoilPairs(r.Scan(""))
	}
	has(t, s, with)
	kept(t, d, with)
}

// Rules, Memory: no argument is changed, nor what lies about it in the same memory, whatever is returned.
func TestArgumentsUnchanged(t *testing.T) {
	room := some(5000)
	for _, n := range []int{0, 1, 200, 4096, 4097} {
		s, d, _ := filled(t, 2048, put("a", "x"))
		c := s.Begin()
		key, around := loose("key")
		empty, _ := loose("")
		c.Put(key, room[100:100+n])
		c.Put(empty, room[100:100+n])
		c.Put(key, room[100:100+n:100+n])
		c.Drop(key)
		c.Put(key, room[100:100+n])
		c.Get(key)
		c.Scan(key)
		c.Commit()
		s.Get(key)
		s.Scan(key)
		s.Between(key, key, 9)
		s.Edge(key, true)
		c = s.Begin()
		c.Put(key, room[100:100+n])
		light(t, d, 1, 1)
		c.Commit()
		c.Put(key, room[100:100+n])
		c.Drop(key)
		if !bytes.Equal(room, some(5000)) || string(around) != "<key>" {
			t.Fatalf("a value of %d bytes: an argument changed", n)
		}
	}
}

// Rules, Memory: what was put or dropped is not kept: changed afterwards, it has no effect on the change, on the store, or
// on the disk.
func TestArgumentsNotKept(t *testing.T) {
	steps := []step{put("a", "one"), put("b", "two"), put("c", "three"), drop("b"), drop("old"), put("d", "")}
	for _, spoiled := range []string{"after each step", "after all steps", "after Commit"} {
		s, d, m := filled(t, 2048, put("old", "x"))
		c := s.Begin()
		var rooms [][]byte
		spoilAll := func() {
			for _, b := range rooms {
				spoil(b)
			}
			rooms = nil
		}
		for _, x := range steps {
			key, around := loose(x.key)
			value := append(make([]byte, 0, 99), x.value...)
			adds(t, c, step{drop: x.drop, key: key, value: value}, api.OK)
			rooms = append(rooms, around, value)
			if spoiled == "after each step" {
				spoilAll()
			}
		}
		if spoiled == "after all steps" {
			spoilAll()
		}
		m = m.after(steps...)
		reading(t, c, m, "", "a", "b", "c", "d", "old")
		commits(t, c, api.OK)
		spoilAll()
		has(t, s, m)
		reading(t, c, m, "", "a", "b", "c", "d", "old")
		kept(t, d, m)
		logHas(t, d, 1, recordBytes(put("old", "x")), recordBytes(steps...))
		do(t, s, put("a", "new"))
		kept(t, d, m.after(put("a", "new")))
	}
}

// Rules, Memory: what was asked for is not kept.
func TestQuestionsNotKept(t *testing.T) {
	s, _, m := filled(t, 2048, put("a", "one"), put("ab", "two"))
	c := begun(t, s, put("b", "three"))
	for _, text := range []string{"a", "ab", "b", "none"} {
		key, around := loose(text)
		s.Get(key)
		c.Get(key)
		edge, _ := s.Edge(key, false)
		pairs := slices.Concat(s.Scan(key), c.Scan(key), s.Between(key, "z", 9), s.Between("", key, 9))
		told, want := edge+told(pairs), strings.Clone(edge+told(pairs))
		spoil(around)
		if told != want {
			t.Errorf("a result changed with the argument %q", text)
		}
		has(t, s, m)
		reading(t, c, m.after(put("b", "three")), "", "a", "ab", "b", "none")
	}
}

// Rules: nil and empty lists are equivalent, as values that are put, and where nothing is there.
func TestNilAndEmpty(t *testing.T) {
	s, d, _ := filled(t, 2048)
	for i, value := range [][]byte{nil, {}, make([]byte, 0, 9)} {
		do(t, s, putBytes(string(rune('a'+i)), value))
	}
	m := model(nil).after(put("a", ""), put("b", ""), put("c", ""))
	has(t, s, m)
	kept(t, d, m)
	logHas(t, d, 1, recordBytes(put("a", "")), recordBytes(put("b", "")), recordBytes(put("c", "")))
}

// Rules, Determinism: the same calls leave the same bytes, whatever is done to other stores meanwhile.
func TestDeterminism(t *testing.T) {
	run := func(between func()) []byte {
		d := blank(t, 2048)
		s := open(t, d)
		for i := range 60 {
			between()
			c := begun(t, s, put(strings.Repeat("k", i%20+1), string(some(i))), drop(strings.Repeat("k", i%7+1)))
			s.Scan("")
			commits(t, c, api.OK)
		}
		b, e := d.Read(0, 2048)
		if e != api.OK {
			t.Fatalf("reading the disk: error %d", e)
		}
		return b
	}
	other := open(t, blank(t, 1024))
	first, second := run(func() {}), run(func() { do(t, other, put("elsewhere", "x")) })
	if !bytes.Equal(first, second) {
		t.Error("the same calls leave different bytes")
	}
}

// Two stores on two disks have nothing in common.
func TestStoresApart(t *testing.T) {
	one, first, m := filled(t, 1024, put("a", "x"))
	second := first.Copy()
	two := open(t, second)
	do(t, one, put("a", "one"))
	c := two.Begin()
	do(t, one, put("b", "one"))
	add(t, c, drop("a"), put("c", "two"))
	commits(t, c, api.OK)
	has(t, one, m.after(put("a", "one"), put("b", "one")))
	has(t, two, m.after(drop("a"), put("c", "two")))
	kept(t, first, m.after(put("a", "one"), put("b", "one")))
	kept(t, second, m.after(drop("a"), put("c", "two")))
}
