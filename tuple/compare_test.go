package tuple_test

import (
	"cmp"
	"math/rand"
	"slices"
	"testing"

	"klaxon/tuple"
)

// ordered reports two keys that are not in this order, whichever is named first, as such and by their bytes.
func ordered(t *testing.T, a, b []tuple.Part, want int) {
	t.Helper()
	if got := tuple.Compare(a, b); got != want {
		t.Fatalf("Compare of %+v and %+v: %d, want %d", a, b, got, want)
	}
	if got := tuple.Compare(b, a); got != -want {
		t.Fatalf("Compare of %+v and %+v: %d, want %d", b, a, got, -want)
	}
	if got := cmp.Compare(tuple.Key(a...), tuple.Key(b...)); got != want {
		t.Fatalf("the bytes of %+v and %+v: %d, want %d", a, b, got, want)
	}
}

// P10.2: keys from the least on.
func TestCompareAscending(t *testing.T) {
	text, num := tuple.Text, tuple.Num
	ascending := [][]tuple.Part{
		nil,
		key(text("")),
		key(text(""), text("")),
		key(text(""), text(""), text("")),
		key(text(""), text("\xff")),
		key(text(""), num(least)),
		key(text(""), num(greatest)),
		key(text("\x00")),
		key(text("\x00"), text("")),
		key(text("\x00"), num(5)),
		key(text("\x00\x00")),
		key(text("\x00\x00\x00")),
		key(text("\x00\x01")),
		key(text("\x00a")),
		key(text("\x00\xff")),
		key(text("\x00\xff\x00")),
		key(text("\x00\xff\xff")),
		key(text("\x01")),
		key(text("\x01\x00")),
		key(text("\x02")),
		key(text("a")),
		key(text("a"), text("a")),
		key(text("a"), text("b")),
		key(text("a"), text("b"), num(-7)),
		key(text("a"), num(-1)),
		key(text("a"), num(0)),
		key(text("a"), num(0), text("")),
		key(text("a"), num(1)),
		key(text("a\x00")),
		key(text("a\x00"), text("a")),
		key(text("a\x00b")),
		key(text("a\x01")),
		key(text("aa")),
		key(text("ab")),
		key(text("b")),
		key(text("\x7f")),
		key(text("\x80")),
		key(text("\xfe")),
		key(text("\xff")),
		key(text("\xff\x00")),
		key(text("\xff\xff")),
		key(text("\xff\xff"), num(greatest)),
		key(num(least)),
		key(num(least), text("a")),
		key(num(least), num(least)),
		key(num(least + 1)),
		key(num(-257)),
		key(num(-256)),
		key(num(-255)),
		key(num(-2)),
		key(num(-1)),
		key(num(-1), num(0)),
		key(num(0)),
		key(num(0), text("")),
		key(num(0), num(-1)),
		key(num(0), num(0)),
		key(num(1)),
		key(num(2)),
		key(num(255)),
		key(num(256)),
		key(num(greatest - 1)),
		key(num(greatest)),
		key(num(greatest), text("")),
		key(num(greatest), num(greatest)),
	}
	for i, a := range ascending {
		for k, b := range ascending {
			ordered(t, a, slices.Clone(b), cmp.Compare(i, k))
		}
	}
}

// P10.2: numbers are ordered by value, strings byte by byte.
func TestCompareSingle(t *testing.T) {
	numbers := someNumbers()
	for i, a := range numbers {
		for k, b := range numbers {
			ordered(t, key(tuple.Num(a)), key(tuple.Num(b)), cmp.Compare(i, k))
		}
	}
	for _, a := range someTexts() {
		for _, b := range someTexts() {
			ordered(t, key(tuple.Text(a)), key(tuple.Text(b)), cmp.Compare(a, b))
		}
		for _, n := range numbers {
			ordered(t, key(tuple.Text(a)), key(tuple.Num(n)), -1)
		}
	}
	for i := range 256 {
		for k := range 256 {
			ordered(t, key(tuple.Text(string([]byte{byte(i)}))), key(tuple.Text(string([]byte{byte(k)}))), cmp.Compare(i, k))
		}
	}
}

// P10.2: fields that are ignored have no effect on the order.
func TestCompareIgnores(t *testing.T) {
	text := func(s string, n int) []tuple.Part { return key(tuple.Part{Num: n, Text: s}) }
	num := func(n int, s string) []tuple.Part { return key(tuple.Part{IsNum: true, Num: n, Text: s}) }
	ordered(t, text("a", 1), text("a", 2), 0)
	ordered(t, text("a", least), text("a", greatest), 0)
	ordered(t, text("a", 2), text("b", 1), -1)
	ordered(t, text("b", 1), text("b\x00", -1), -1)
	ordered(t, num(1, "a"), num(1, "b"), 0)
	ordered(t, num(1, ""), num(1, "\xff"), 0)
	ordered(t, num(1, "b"), num(2, "a"), -1)
	ordered(t, text("b", 2), num(1, "a"), -1)
	ordered(t, text("a", 1), num(1, "a"), -1)
	ordered(t, append(text("a", 1), num(1, "b")...), append(text("a", 2), num(1, "a")...), 0)
	ordered(t, append(text("a", 2), num(1, "b")...), append(text("a", 1), num(2, "a")...), -1)
}

// P10.2: the least key is that of no parts, whether the list is nil or empty.
func TestCompareEmpty(t *testing.T) {
	for _, a := range [][]tuple.Part{nil, {}, make([]tuple.Part, 0, 3)} {
		for _, b := range [][]tuple.Part{nil, {}, make([]tuple.Part, 0, 3)} {
			ordered(t, a, b, 0)
		}
		ordered(t, a, key(tuple.Text("")), -1)
		ordered(t, a, key(tuple.Num(least)), -1)
	}
}

// P10.2: all pairs of short keys, by the chapter's words.
func TestCompareModel(t *testing.T) {
	t.Parallel()
	var all [][]tuple.Part
	pool := key(tuple.Text(""), tuple.Text("\x00"), tuple.Text("\x00\xff"), tuple.Text("\x01"), tuple.Text("a"), tuple.Text("a\x00"), tuple.Text("\xff"), tuple.Num(least), tuple.Num(-1), tuple.Num(0), tuple.Num(greatest))
	keys(pool, 2, func(parts []tuple.Part) { all = append(all, parts) })
	for _, a := range all {
		for _, b := range all {
			ordered(t, a, b, modelOrder(a, b))
		}
	}
}

// P10.2: many keys, of which many have their beginnings in common.
func TestCompareRandom(t *testing.T) {
	t.Parallel()
	r := rand.New(rand.NewSource(15))
	for range 50000 {
		common := someKey(r)
		a := slices.Concat(common, someKey(r))
		b := slices.Concat(plain(common), someKey(r))
		ordered(t, a, b, modelOrder(a, b))
		ordered(t, a, plain(a), 0)
		ordered(t, common, a, modelOrder(common, a))
	}
}

// P10.2: keys that are sorted by Compare have their bytes sorted.
func TestCompareSorts(t *testing.T) {
	r := rand.New(rand.NewSource(16))
	var all [][]tuple.Part
	var bytes []string
	for range 5000 {
		parts := someKey(r)
		all = append(all, parts)
		bytes = append(bytes, tuple.Key(parts...))
	}
	slices.SortFunc(all, tuple.Compare)
	slices.Sort(bytes)
	for i, parts := range all {
		if got := tuple.Key(parts...); got != bytes[i] {
			t.Fatalf("the key at %d is %x, want %x", i, got, bytes[i])
		}
	}
}
