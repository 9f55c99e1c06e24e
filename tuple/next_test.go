package tuple_test

import (
	"math/rand"
	"strings"
	"testing"

	"klaxon/tuple"
)

// P10.2: prefix without the bytes ff at its end, with its last byte increased by 1.
func TestNext(t *testing.T) {
	for _, c := range []struct{ prefix, want string }{
		{"", ""},
		{"\xff", ""},
		{"\xff\xff", ""},
		{"\xff\xff\xff", ""},
		{"\x00", "\x01"},
		{"\x00\x00", "\x00\x01"},
		{"\x00\xff", "\x01"},
		{"\xff\x00", "\xff\x01"},
		{"a", "b"},
		{"ab", "ac"},
		{"a\xff", "b"},
		{"ab\xff", "ac"},
		{"a\xff\xff", "b"},
		{"a\xffb", "a\xffc"},
		{"a\xffb\xff", "a\xffc"},
		{"\xffa", "\xffb"},
		{"\xff\xffa\xff\xff", "\xff\xffb"},
		{"a\xfe", "a\xff"},
		{"a\xfe\xff", "a\xff"},
		{"\xfe", "\xff"},
		{"\xfe\xff", "\xff"},
		{"\xff\xfe", "\xff\xff"},
		{"a\x7f", "a\x80"},
		{"\x7f", "\x80"},
		{"a\x80", "a\x81"},
		{"a\x80\xff", "a\x81"},
		{"a\xc3\xff", "a\xc4"},
		{"é", "\xc3\xaa"},
		{"\xc3\xbf", "\xc3\xc0"},
		{"\xef\xbf\xbd", "\xef\xbf\xbe"},
		{strings.Repeat("\xff", 1<<20), ""},
		{"a" + strings.Repeat("\xff", 1<<20), "b"},
		{strings.Repeat("\xff", 1<<20) + "a", strings.Repeat("\xff", 1<<20) + "b"},
		{strings.Repeat("a", 1<<20), strings.Repeat("a", 1<<20-1) + "b"},
	} {
		if got := tuple.Next(c.prefix); got != c.want {
			t.Errorf("Next of %d bytes %.20q: %d bytes %.20q, want %d bytes %.20q", len(c.prefix), c.prefix, len(got), got, len(c.want), c.want)
		}
	}
}

// bounds reports a string that does not begin with prefix just if it is at least prefix and less than next, if there is one.
func bounds(t *testing.T, prefix, next, s string) {
	t.Helper()
	if within := s >= prefix && (next == "" || s < next); within != strings.HasPrefix(s, prefix) {
		t.Fatalf("Next of %q is %q: %q is between them: %v", prefix, next, s, within)
	}
}

// P10.2: the least string that is greater than all that begin with prefix, for all short strings of some bytes.
func TestNextBounds(t *testing.T) {
	t.Parallel()
	const alphabet = "\x00\x01\x7f\x80\xfe\xff"
	var all []string
	texts(alphabet, 4, func(s string) { all = append(all, s) })
	texts(alphabet, 3, func(prefix string) {
		next := tuple.Next(prefix)
		for _, s := range all {
			bounds(t, prefix, next, s)
		}
	})
}

// P10.2: for each prefix of at most two bytes, and the strings about it.
func TestNextEachByte(t *testing.T) {
	t.Parallel()
	for i := range 256 {
		for k := range 256 {
			one, two := string([]byte{byte(i)}), string([]byte{byte(i), byte(k)})
			for _, prefix := range []string{one, two, "a" + two} {
				checkNext(t, prefix)
			}
		}
	}
}

// checkNext holds Next against what it means, for strings that are near prefix, near Next of it, and as great as can be.
func checkNext(t *testing.T, prefix string) {
	t.Helper()
	next := tuple.Next(prefix)
	if strings.Count(prefix, "\xff") == len(prefix) {
		if next != "" {
			t.Fatalf("Next of %q: %q, want none", prefix, next)
		}
	} else if next == "" {
		t.Fatalf("Next of %q: none", prefix)
	}
	near := []string{"", prefix, prefix + "\x00", prefix + "a", prefix + "\xff", prefix + strings.Repeat("\xff", 9), "\xff", strings.Repeat("\xff", 9)}
	if prefix != "" {
		near = append(near, prefix[:len(prefix)-1], prefix[:len(prefix)-1]+"\xff\xff")
	}
	if next != "" {
		// Just below it is what has one less in the last byte, and then as many ff as one likes.
		last := len(next) - 1
		near = append(near, next, next+"\x00", next+"\xff", next[:last], next[:last]+string([]byte{next[last] - 1})+strings.Repeat("\xff", 9))
	}
	for _, s := range near {
		bounds(t, prefix, next, s)
	}
}

// P10.2: many prefixes, among them those of keys.
func TestNextRandom(t *testing.T) {
	t.Parallel()
	r := rand.New(rand.NewSource(17))
	for range 20000 {
		parts := someKey(r)
		checkNext(t, tuple.Key(parts...))
		checkNext(t, somePart(r).Text)
		b := make([]byte, r.Intn(9))
		for i := range b {
			b[i] = []byte{0, 1, 0x7f, 0xfe, 0xff, 0xff, 0xff, byte(r.Intn(256))}[r.Intn(8)]
		}
		checkNext(t, string(b))
	}
}

// P10.2: what begins with a key's parts lies between its bytes and Next of them.
func TestNextOfKeys(t *testing.T) {
	r := rand.New(rand.NewSource(18))
	for range 20000 {
		parts := append(someKey(r), somePart(r))
		prefix := tuple.Key(parts...)
		next := tuple.Next(prefix)
		if longer := tuple.Key(append(parts, someKey(r)...)...); longer < prefix || longer >= next {
			t.Fatalf("%x is not between %x and %x", longer, prefix, next)
		}
	}
}
