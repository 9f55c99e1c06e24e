package tuple_test

import (
	"math/rand"
	"strings"
	"testing"

	"klaxon/api"
	"klaxon/tuple"
)

// P10.1: no key has bytes like these.
func TestReadNoKey(t *testing.T) {
	for _, c := range []struct{ what, hex string }{
		{"an unknown byte where a part begins", "00"},
		{"an unknown byte where a part begins", "00 0000"},
		{"an unknown byte where a part begins", "03"},
		{"an unknown byte where a part begins", "03 0000"},
		{"an unknown byte where a part begins", "03 8000000000000000"},
		{"an unknown byte where a part begins", "61"},
		{"an unknown byte where a part begins", "ff"},
		{"an unknown byte where the second part begins", "01 0000 00"},
		{"an unknown byte where the second part begins", "01 61 0000 03 0000"},
		{"an unknown byte where the second part begins", "01 61 0000 ff"},
		{"an unknown byte where the second part begins", "02 8000000000000000 00"},
		{"an unknown byte where the second part begins", "02 8000000000000000 80"},
		{"a string that has no end", "01"},
		{"a string that has no end", "01 61"},
		{"a string that has no end", "01 01"},
		{"a string that has no end", "01 ff"},
		{"a string that has no end", "01 00ff"},
		{"a string that has no end", "01 61 00ff 62"},
		{"a string that has no end", "01 00ff 00ff"},
		{"a string that ends within 00", "01 00"},
		{"a string that ends within 00", "01 61 00"},
		{"a string that ends within 00", "01 ff 00"},
		{"a string that ends within 00", "01 00ff 00"},
		{"a byte 00 with another one behind it", "01 0001"},
		{"a byte 00 with another one behind it", "01 0001 0000"},
		{"a byte 00 with another one behind it", "01 0002 0000"},
		{"a byte 00 with another one behind it", "01 00fe 0000"},
		{"a byte 00 with another one behind it", "01 0061 0000"},
		{"a byte 00 with another one behind it", "01 61 0061 0000"},
		{"a byte 00 with another one behind it", "01 00ff 0001 0000"},
		{"a number with too few bytes", "02"},
		{"a number with too few bytes", "02 80"},
		{"a number with too few bytes", "02 80000000000000"},
		{"a number with too few bytes", "02 00000000000000"},
		{"a number with too few bytes", "02 ffffffffffffff"},
		{"a second part that has no end", "01 0000 01"},
		{"a second part that has no end", "02 8000000000000000 01 00"},
		{"a second part with too few bytes", "01 0000 02"},
		{"a second part with too few bytes", "02 8000000000000000 02 80000000000000"},
	} {
		s := fromHex(t, c.hex)
		if l, e := tuple.Read(s); e != api.ErrForm || len(l) != 0 {
			t.Errorf("Read of %s: %+v with error %d, want ErrForm: %s", c.hex, l, e, c.what)
		}
		// A part ahead of it doesn't help.
		refused(t, tuple.Key(tuple.Num(1))+s)
		refused(t, tuple.Key(tuple.Text("a\x00"))+s)
	}
}

// P10.1: Read takes a first byte just if a part begins with it.
func TestReadEachMark(t *testing.T) {
	for i := range 256 {
		for _, rest := range []string{"", "\x00\x00", "a\x00\x00", "12345678", "1234567", "\x00\x00\x00\x00\x00\x00\x00\x00"} {
			s := string([]byte{byte(i)}) + rest
			agrees(t, s)
			agrees(t, tuple.Key(tuple.Text(""))+s)
			agrees(t, tuple.Key(tuple.Num(0))+s)
		}
	}
}

// P10.1: Read takes each byte behind a zero byte just if it is 00, which ends the string, or ff.
func TestReadEachByteBehindZero(t *testing.T) {
	for i := range 256 {
		for _, end := range []string{"", "\x00", "\x00\x00", "a\x00\x00"} {
			agrees(t, "\x01\x00"+string([]byte{byte(i)})+end)
			agrees(t, "\x01a\x00\xff\x00"+string([]byte{byte(i)})+end)
		}
	}
}

// agrees reports bytes that are not taken just if a key has them, by the chapter's words, and those that are taken as parts
// whose bytes, by the same words, are different.
func agrees(t *testing.T, s string) {
	t.Helper()
	parts, e := tuple.Read(s)
	if want := modelIsKey(s); want != (e == api.OK) || !want && (e != api.ErrForm || len(parts) != 0) {
		t.Fatalf("Read of %x: %+v with error %d; a key has these bytes: %v", s, parts, e, want)
	}
	if e == api.OK && (modelKey(parts) != s || tuple.Key(parts...) != s) {
		t.Fatalf("Read of %x: %+v, whose bytes are %x", s, parts, tuple.Key(parts...))
	}
	for _, p := range parts {
		if p.IsNum && p.Text != "" || !p.IsNum && p.Num != 0 {
			t.Fatalf("Read of %x: a part %+v", s, p)
		}
	}
}

// P10.1: all short byte strings of those bytes that mean something.
func TestReadAllShort(t *testing.T) {
	t.Parallel()
	taken := 0
	count := func(s string) {
		if modelIsKey(s) {
			taken++
		}
		agrees(t, s)
	}
	texts("\x00\x01\x02\xffa", 7, count)
	texts("\x00\x01\xff", 9, count)
	texts("\x00\x02", 13, count)
	if taken < 500 {
		t.Errorf("only %d of them are the bytes of a key", taken)
	}
}

// P10.1: where a key's bytes are cut off, they are those of a key just behind one of its parts.
func TestReadCutOff(t *testing.T) {
	t.Parallel()
	r := rand.New(rand.NewSource(12))
	for range 1000 {
		parts := plain(someKey(r))
		ends := map[int]int{0: 0} // how many parts end there
		for i := range parts {
			ends[len(modelKey(parts[:i+1]))] = i + 1
		}
		s := tuple.Key(parts...)
		for i := range len(s) + 1 {
			if n, ok := ends[i]; ok {
				reads(t, s[:i], parts[:n])
			} else {
				refused(t, s[:i])
			}
		}
	}
}

// P10.1: a key's bytes with one of them changed, taken out, or put in.
func TestReadChanged(t *testing.T) {
	t.Parallel()
	r := rand.New(rand.NewSource(13))
	for range 300 {
		s := tuple.Key(someKey(r)...)
		for i := range len(s) {
			agrees(t, s[:i]+s[i+1:])
			for _, b := range []byte{0, 1, 2, 3, 'a', 0xfe, 0xff, byte(r.Intn(256))} {
				agrees(t, s[:i]+string([]byte{b})+s[i+1:])
				agrees(t, s[:i]+string([]byte{b})+s[i:])
			}
		}
	}
}

// P10.1: many random bytes.
func TestReadRandom(t *testing.T) {
	t.Parallel()
	r := rand.New(rand.NewSource(14))
	for range 100000 {
		b := make([]byte, r.Intn(24))
		for i := range b {
			b[i] = []byte{0, 0, 0, 1, 1, 2, 0xff, byte(r.Intn(256))}[r.Intn(8)]
		}
		agrees(t, string(b))
	}
}

// P10.1, P1: long texts that are no key's are refused, however many parts are ahead of the fault.
func TestReadLongNoKey(t *testing.T) {
	for _, s := range []string{
		"\x01" + strings.Repeat("a", 1<<20),
		"\x01" + strings.Repeat("\x00\xff", 1<<20),
		"\x01" + strings.Repeat("\x00\xff", 1<<20) + "\x00",
		"\x01" + strings.Repeat("\x00\xff", 1<<20) + "\x00\x01",
		strings.Repeat("\x01\x00\x00", 1<<19) + "\x00",
		strings.Repeat("\x02\x00\x00\x00\x00\x00\x00\x00\x00", 1<<17) + "\x02\x00\x00\x00\x00\x00\x00\x00",
		strings.Repeat("\x03", 1<<20),
	} {
		if l, e := tuple.Read(s); e != api.ErrForm || len(l) != 0 {
			t.Errorf("Read of %d bytes, %.20x..: %d parts with error %d", len(s), s, len(l), e)
		}
	}
}
