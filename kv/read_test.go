package kv_test

import (
	"math/rand"
	"slices"
	"strings"
	"testing"

	"klaxon/kv"
)

// shelves are the keys of stores of different kinds.
func shelves() [][]string {
	return [][]string{
		nil,
		{"m"},
		{"a", "aa", "aaa", "aab", "ab", "b"},
		{"a/1", "a/10", "a/2", "a", "a/", "b/1", "A"},
		{"\x00", "\x00\x00", "\x00\x01", "\x01", "\xfe\xff", "\xff", "\xff\x00", "\xff\xff", "\xff\xff\xff"},
		{"\x80", "\xc3\x28", "\xed\xa0\x80", "é", "é\xff", "z", "\xc3"},
		{long("k", 128), long("k", 127), long("kxxxy", 128), "k", long("\xff", 128)},
	}
}

// stocked returns a store with these keys, put in some other order, and its model.
func stocked(t *testing.T, keys []string) (*kv.Store, model) {
	t.Helper()
	var steps []step
	for i, key := range keys {
		steps = append(steps, put(key, strings.Repeat("v", i)))
	}
	rand.New(rand.NewSource(int64(len(keys)))).Shuffle(len(steps), func(i, j int) { steps[i], steps[j] = steps[j], steps[i] })
	s, _, m := filled(t, 8192, steps...)
	return s, m
}

// probes returns strings at, about, and between the keys.
func probes(keys []string) []string {
	l := []string{"", "\x00", "a", "k", "zz", "\xff", long("\xff", 200), "a/", "\xff\xff\xff\xff"}
	for _, key := range keys {
		last := len(key) - 1
		l = append(l, key, key+"\x00", key+"\xff", key[:last], key[:last]+string([]byte{key[last] + 1}), key[:last]+string([]byte{key[last] - 1}), key+key)
	}
	slices.Sort(l)
	return slices.Compact(l)
}

// P9.1, P9.5: Get, Scan, Len and Size, for keys that are there, and for others.
func TestGetScanLenSize(t *testing.T) {
	for _, keys := range shelves() {
		s, m := stocked(t, keys)
		has(t, s, m)
		reading(t, s, m, probes(keys)...)
	}
}

// P9.1: what the reads of a few stores return, told one by one.
func TestReads(t *testing.T) {
	s, _, _ := filled(t, 2048, put("b", "bee"), put("a", ""), put("ab", "\x00"), put("\xff", "last"))
	if value, ok := s.Get("a"); len(value) != 0 || !ok {
		t.Errorf("Get of an empty value: %q, %v", value, ok)
	}
	if value, ok := s.Get("ab"); string(value) != "\x00" || !ok {
		t.Errorf("Get: %q, %v", value, ok)
	}
	for _, key := range []string{"", "c", "abc", "B"} {
		if value, ok := s.Get(key); value != nil || ok {
			t.Errorf("Get of a key that has no value: %q, %v", value, ok)
		}
	}
	for prefix, want := range map[string]string{"": "a:,ab:\x00,b:bee,\xff:last", "a": "a:,ab:\x00", "ab": "ab:\x00", "abc": "", "\xff": "\xff:last", "c": ""} {
		if got := told(s.Scan(prefix)); got != want {
			t.Errorf("Scan(%q): %q, want %q", prefix, got, want)
		}
	}
	if s.Len() != 4 || s.Size() != 5+8 {
		t.Errorf("Len and Size: %d, %d", s.Len(), s.Size())
	}
}

// told returns a text of pairs.
func told(l []kv.Pair) string {
	var parts []string
	for _, p := range l {
		parts = append(parts, p.Key+":"+string(p.Value))
	}
	return strings.Join(parts, ",")
}

// P9.5: Between, for each from and to, at, about and between the keys, and each number.
func TestBetween(t *testing.T) {
	for _, keys := range shelves() {
		s, m := stocked(t, keys)
		l := probes(keys)
		for _, from := range l {
			for _, to := range l {
				for _, most := range []int{least, -2, -1, 0, 1, 2, len(keys) - 1, len(keys), len(keys) + 1, 1 << 31, greatest} {
					got, want := s.Between(from, to, most), m.between(from, to, most)
					if !slices.EqualFunc(got, want, samePair) {
						t.Fatalf("Between(%.50q, %.50q, %d): %.200q, want %.200q", from, to, most, got, want)
					}
				}
			}
		}
	}
}

// P9.5: what Between returns, told one by one.
func TestBetweenExamples(t *testing.T) {
	s, _, _ := filled(t, 2048, put("a", "1"), put("b", "2"), put("c", "3"), put("d", "4"))
	for _, x := range []struct {
		from, to string
		most     int
		want     string
	}{
		{"a", "d", 9, "a:1,b:2,c:3"}, {"a", "d\x00", 9, "a:1,b:2,c:3,d:4"}, {"a", "d", 2, "a:1,b:2"}, {"aa", "cc", 9, "b:2,c:3"},
		{"", "z", 1, "a:1"}, {"", "z", 0, ""}, {"", "z", -1, ""}, {"", "z", least, ""}, {"", "z", greatest, "a:1,b:2,c:3,d:4"},
		{"b", "b", 9, ""}, {"c", "b", 9, ""}, {"", "", 9, ""}, {"z", "", 9, ""}, {"b", "b\x00", 9, "b:2"}, {"", "a", 9, ""},
	} {
		if got := told(s.Between(x.from, x.to, x.most)); got != x.want {
			t.Errorf("Between(%q, %q, %d): %q, want %q", x.from, x.to, x.most, got, x.want)
		}
	}
}

// P9.5: Edge both ways, at, below and above each key.
func TestEdge(t *testing.T) {
	for _, keys := range shelves() {
		s, m := stocked(t, keys)
		for _, from := range probes(keys) {
			for _, back := range []bool{false, true} {
				key, ok := s.Edge(from, back)
				if want, there := m.edge(from, back); key != want || ok != there {
					t.Fatalf("Edge(%.50q, %v): %.50q, %v; want %.50q, %v", from, back, key, ok, want, there)
				}
			}
		}
	}
}

// P9.5: what Edge returns, told one by one.
func TestEdgeExamples(t *testing.T) {
	s, _, _ := filled(t, 2048, put("b", ""), put("bb", ""), put("d", ""))
	for _, x := range []struct {
		from         string
		least, great string
	}{
		{"", "b", ""}, {"a", "b", ""}, {"b", "b", ""}, {"b\x00", "bb", "b"}, {"bb", "bb", "b"}, {"c", "d", "bb"}, {"d", "d", "bb"},
		{"d\x00", "", "d"}, {"z", "", "d"}, {"\xff\xff", "", "d"},
	} {
		if key, ok := s.Edge(x.from, false); key != x.least || ok != (x.least != "") {
			t.Errorf("Edge(%q, false): %q, %v; want %q", x.from, key, ok, x.least)
		}
		if key, ok := s.Edge(x.from, true); key != x.great || ok != (x.great != "") {
			t.Errorf("Edge(%q, true): %q, %v; want %q", x.from, key, ok, x.great)
		}
	}
}

// P9.5: Size counts bytes, of keys and of values, also after values were replaced and keys dropped.
func TestSize(t *testing.T) {
	d := blank(t, 1<<16)
	s := open(t, d)
	for _, x := range []struct {
		s    step
		want int
	}{
		{put("a", ""), 1}, {put("a", "xyz"), 4}, {put("é", "é"), 8}, {putBytes("a", some(4096)), 4101}, {drop("é"), 4097},
		{drop("none"), 4097}, {put(long("k", 128), "v"), 4226}, {put("a", "x"), 131}, {drop("a"), 129}, {drop(long("k", 128)), 0},
	} {
		do(t, s, x.s)
		if got, again := s.Size(), open(t, d).Size(); got != x.want || again != x.want {
			t.Errorf("Size: %d, and %d when opened again; want %d", got, again, x.want)
		}
	}
}

// P9.1, P9.5: stores of random keys.
func TestRandomReads(t *testing.T) {
	t.Parallel()
	for seed := range int64(60) {
		r := rand.New(rand.NewSource(seed))
		var keys []string
		for range r.Intn(30) {
			b := make([]byte, 1+r.Intn(3))
			for i := range b {
				b[i] = []byte{0, 1, 'a', 0x80, 0xfe, 0xff}[r.Intn(6)]
			}
			keys = append(keys, string(b))
		}
		slices.Sort(keys)
		keys = slices.Compact(keys)
		s, m := stocked(t, keys)
		reading(t, s, m, probes(keys)...)
		for _, from := range probes(keys) {
			to, most := anyOf(keys, r), r.Intn(5)
			if got, want := s.Between(from, to, most), m.between(from, to, most); !slices.EqualFunc(got, want, samePair) {
				t.Fatalf("Between(%q, %q, %d): %q, want %q", from, to, most, got, want)
			}
			back := r.Intn(2) == 0
			key, ok := s.Edge(from, back)
			if want, there := m.edge(from, back); key != want || ok != there {
				t.Fatalf("Edge(%q, %v): %q, %v; want %q, %v", from, back, key, ok, want, there)
			}
		}
	}
}

// anyOf returns any of the keys, or another one if there are none.
func anyOf(keys []string, r *rand.Rand) string {
	if len(keys) == 0 {
		return "none"
	}
	return keys[r.Intn(len(keys))]
}

// P1: the reads end, and do not panic, for any arguments.
func TestReadsOfAnything(t *testing.T) {
	huge := strings.Repeat("\xff\x00a", 1<<20)
	for _, keys := range shelves() {
		s, m := stocked(t, keys)
		c := s.Begin()
		for _, key := range []string{huge, huge[1:], huge[2:], huge + "\xff"} {
			reading(t, s, m, key)
			reading(t, c, m, key)
			for _, most := range []int{least, -1, 0, 1, greatest} {
				s.Between(key, huge, most)
				s.Between(huge, key, most)
			}
			s.Edge(key, false)
			s.Edge(key, true)
		}
	}
}

// P9.1, P9.5: reads have no effect on the disk, and none on each other; they go on when the disk is down.
func TestReadsLeaveTheDisk(t *testing.T) {
	s, d, m := filled(t, 2048, put("a", "1"), put("ab", "2"), put("b", "3"))
	before := d.Copy()
	for range 3 {
		has(t, s, m)
		s.Between("", "z", 2)
		s.Edge("a", true)
		s.Room()
		s.Begin().Scan("")
	}
	sameDisk(t, d, before)
	breakDown(t, d)
	down := d.Copy()
	has(t, s, m)
	reading(t, s.Begin(), m, probes([]string{"a", "ab", "b"})...)
	sameDisk(t, d, down)
}
