package tuple_test

import (
	"math/rand"
	"slices"
	"strings"
	"testing"

	"klaxon/tuple"
)

// P10.1: the chapter's example.
func TestExample(t *testing.T) {
	want := fromHex(t, "01 61 00 00 02 7f ff ff ff ff ff ff ff")
	if got := tuple.Key(tuple.Text("a"), tuple.Num(-1)); got != want {
		t.Errorf("Key: %x, want %x", got, want)
	}
	reads(t, want, key(tuple.Text("a"), tuple.Num(-1)))
}

// P10.1: Text and Num return a part of their kind, with the zero value in the other field.
func TestParts(t *testing.T) {
	for _, s := range append(someTexts(), strings.Repeat("\x00long\xff", 100000)) {
		if got, want := tuple.Text(s), (tuple.Part{Text: s}); got != want {
			t.Errorf("Text(%.40q): %.80v", s, got)
		}
	}
	for _, n := range someNumbers() {
		if got, want := tuple.Num(n), (tuple.Part{IsNum: true, Num: n}); got != want {
			t.Errorf("Num(%d): %v", n, got)
		}
	}
}

// P10.1: Key returns the bytes of a key, and Read its parts.
func TestKeyBytes(t *testing.T) {
	text, num := tuple.Text, tuple.Num
	for _, c := range []struct {
		parts []tuple.Part
		hex   string
	}{
		{nil, ""},
		{key(text("")), "01 0000"},
		{key(text(""), text("")), "01 0000 01 0000"},
		{key(text(""), text(""), text("")), "01 0000 01 0000 01 0000"},
		{key(text("a")), "01 61 0000"},
		{key(text("abc")), "01 616263 0000"},
		{key(text("\x00")), "01 00ff 0000"},
		{key(text("\xff")), "01 ff 0000"},
		{key(text("\x00\x00")), "01 00ff 00ff 0000"},
		{key(text("\xff\xff")), "01 ffff 0000"},
		{key(text("\x00\xff")), "01 00ff ff 0000"},
		{key(text("\xff\x00")), "01 ff 00ff 0000"},
		{key(text("\x00\xff\x00\xff")), "01 00ff ff 00ff ff 0000"},
		{key(text("\x00a")), "01 00ff 61 0000"},
		{key(text("a\x00")), "01 61 00ff 0000"},
		{key(text("a\x00b")), "01 61 00ff 62 0000"},
		{key(text("a\x00\x00b")), "01 61 00ff 00ff 62 0000"},
		{key(text("\xffa\xff")), "01 ff 61 ff 0000"},
		{key(text("\x01")), "01 01 0000"},
		{key(text("\x02")), "01 02 0000"},
		{key(text("\x01a\x00\x00")), "01 01 61 00ff 00ff 0000"},
		{key(text("\x80\xc3")), "01 80c3 0000"},
		{key(text("\xed\xa0\x80")), "01 eda080 0000"},
		{key(text("é")), "01 c3a9 0000"},
		{key(text("\x00"), text("\x00")), "01 00ff 0000 01 00ff 0000"},
		{key(text("a"), text("b")), "01 61 0000 01 62 0000"},
		{key(num(0)), "02 8000000000000000"},
		{key(num(1)), "02 8000000000000001"},
		{key(num(-1)), "02 7fffffffffffffff"},
		{key(num(255)), "02 80000000000000ff"},
		{key(num(256)), "02 8000000000000100"},
		{key(num(-256)), "02 7fffffffffffff00"},
		{key(num(-257)), "02 7ffffffffffffeff"},
		{key(num(0x0102030405060708)), "02 8102030405060708"},
		{key(num(least)), "02 0000000000000000"},
		{key(num(least + 1)), "02 0000000000000001"},
		{key(num(greatest)), "02 ffffffffffffffff"},
		{key(num(greatest - 1)), "02 fffffffffffffffe"},
		{key(num(0), num(0)), "02 8000000000000000 02 8000000000000000"},
		{key(num(least), text("")), "02 0000000000000000 01 0000"},
		{key(text(""), num(least)), "01 0000 02 0000000000000000"},
		{key(text("\xff"), num(-1), text("\x00"), num(1)), "01 ff 0000 02 7fffffffffffffff 01 00ff 0000 02 8000000000000001"},
	} {
		want := fromHex(t, c.hex)
		if got := tuple.Key(c.parts...); got != want {
			t.Errorf("Key of %+v: %x, want %x", c.parts, got, want)
		}
		reads(t, want, c.parts)
	}
}

// P10.1: the other field of a part is ignored.
func TestKeyIgnores(t *testing.T) {
	for _, s := range someTexts() {
		for _, n := range someNumbers() {
			for _, p := range []tuple.Part{{Num: n, Text: s}, {IsNum: true, Num: n, Text: s}} {
				want := plain(key(p))
				if got := tuple.Key(p); got != tuple.Key(want...) {
					t.Fatalf("Key of %+v: %x, want that of %+v: %x", p, got, want, tuple.Key(want...))
				}
				reads(t, tuple.Key(p, p), append(want, want...))
			}
		}
	}
}

// P10.1: Key and Read of all short keys, by the chapter's words.
func TestKeyModel(t *testing.T) {
	var pool []tuple.Part
	for _, s := range someTexts() {
		pool = append(pool, tuple.Text(s))
	}
	for _, n := range someNumbers() {
		pool = append(pool, tuple.Num(n))
	}
	keys(pool, 2, func(parts []tuple.Part) {
		got, want := tuple.Key(parts...), modelKey(parts)
		if got != want {
			t.Fatalf("Key of %+v: %x, want %x", parts, got, want)
		}
		reads(t, got, parts)
	})
}

// P10.1: Key and Read of strings of each single byte, and of each two.
func TestKeyEachByte(t *testing.T) {
	for i := range 256 {
		for k := range 256 {
			for _, s := range []string{string([]byte{byte(i)}), string([]byte{byte(i), byte(k)})} {
				parts := key(tuple.Text(s))
				if got, want := tuple.Key(parts...), modelKey(parts); got != want {
					t.Fatalf("Key of %+v: %x, want %x", parts, got, want)
				}
				reads(t, modelKey(parts), parts)
			}
		}
	}
}

// P10.1: Key and Read of keys of many kinds.
func TestKeyRandom(t *testing.T) {
	r := rand.New(rand.NewSource(10))
	for range 20000 {
		parts := someKey(r)
		got, want := tuple.Key(parts...), modelKey(parts)
		if got != want {
			t.Fatalf("Key of %+v: %x, want %x", parts, got, want)
		}
		reads(t, got, plain(parts))
	}
	for range 20000 {
		n := int(r.Uint64())
		if got, want := tuple.Key(tuple.Num(n)), modelKey(key(tuple.Num(n))); got != want {
			t.Fatalf("Key of %d: %x, want %x", n, got, want)
		}
		reads(t, modelKey(key(tuple.Num(n))), key(tuple.Num(n)))
	}
}

// P10.1: the bytes of a key are those of its parts, one behind the other.
func TestKeyConcatenates(t *testing.T) {
	r := rand.New(rand.NewSource(11))
	for range 2000 {
		a, b := someKey(r), someKey(r)
		if got, want := tuple.Key(slices.Concat(a, b)...), tuple.Key(a...)+tuple.Key(b...); got != want {
			t.Fatalf("Key of %+v and %+v: %x, want %x", a, b, got, want)
		}
	}
}

// P10.1, P1: long strings, and many parts.
func TestKeyLong(t *testing.T) {
	const n = 1 << 20
	for _, piece := range []string{"a", "\x00", "\xff", "\x00\xff", "\xff\x00", "a\x00", "\x01", "\x02"} {
		parts := key(tuple.Num(1), tuple.Text(strings.Repeat(piece, n)), tuple.Num(-1))
		got := tuple.Key(parts...)
		if got != modelKey(parts) {
			t.Errorf("Key with %d times %q is not as wanted", n, piece)
		}
		if order := tuple.Compare(parts, parts); order != 0 {
			t.Errorf("Compare with %d times %q: %d", n, piece, order)
		}
		reads(t, got, parts)
		refused(t, got[:len(got)-len(tuple.Key(parts[2]))-1])
	}
	var many []tuple.Part
	for i := range n / 4 {
		many = append(many, tuple.Num(i), tuple.Text(""), tuple.Text("\x00"), tuple.Num(-i))
	}
	got := tuple.Key(many...)
	if got != modelKey(many) {
		t.Errorf("Key of %d parts is not as wanted", len(many))
	}
	reads(t, got, many)
	refused(t, got[:len(got)-1])
}
