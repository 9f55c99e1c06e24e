package tuple_test

import (
	"encoding/hex"
	"math"
	"math/rand"
	"slices"
	"strings"
	"testing"

	"klaxon/api"
	"klaxon/tuple"
)

// The calls keep the signatures that the chapter lists.
var (
	_ func(string) tuple.Part                = tuple.Text
	_ func(int) tuple.Part                   = tuple.Num
	_ func(...tuple.Part) string             = tuple.Key
	_ func(string) ([]tuple.Part, api.Errno) = tuple.Read
	_ func([]tuple.Part, []tuple.Part) int   = tuple.Compare
	_ func(string) string                    = tuple.Next
	_ struct {
		IsNum bool
		Num   int
		Text  string
	} = tuple.Part{}
)

const (
	least    = math.MinInt
	greatest = math.MaxInt
)

func key(parts ...tuple.Part) []tuple.Part { return parts }

// fromHex returns the bytes that are told in hexadecimal, with any blanks between them.
func fromHex(t *testing.T, s string) string {
	t.Helper()
	b, err := hex.DecodeString(strings.ReplaceAll(s, " ", ""))
	if err != nil {
		t.Fatal(err)
	}
	return string(b)
}

// reads reports bytes that are not read as these parts.
func reads(t *testing.T, s string, want []tuple.Part) {
	t.Helper()
	got, e := tuple.Read(s)
	if e != api.OK || !slices.Equal(got, want) {
		t.Fatalf("Read of %x: %+v with error %d, want %+v", s, got, e, want)
	}
}

// refused reports bytes that are read as those of a key.
func refused(t *testing.T, s string) {
	t.Helper()
	got, e := tuple.Read(s)
	if e != api.ErrForm || len(got) != 0 {
		t.Fatalf("Read of %x: %+v with error %d, want ErrForm", s, got, e)
	}
}

// texts calls do with each string of at most most bytes of an alphabet.
func texts(alphabet string, most int, do func(s string)) {
	var grow func(s []byte)
	grow = func(s []byte) {
		do(string(s))
		if len(s) == most {
			return
		}
		for i := range len(alphabet) {
			grow(append(s, alphabet[i]))
		}
	}
	grow(make([]byte, 0, most))
}

// keys calls do with each key of at most most parts of a pool.
func keys(pool []tuple.Part, most int, do func(parts []tuple.Part)) {
	var grow func(parts []tuple.Part)
	grow = func(parts []tuple.Part) {
		do(slices.Clone(parts))
		if len(parts) == most {
			return
		}
		for _, p := range pool {
			grow(append(parts, p))
		}
	}
	grow(nil)
}

// someNumbers are those at which the bytes, the signs, or the ends of the numbers change.
func someNumbers() []int {
	l := []int{least, least + 1, -2, -1, 0, 1, 2, greatest - 1, greatest}
	for shift := 7; shift < 63; shift++ {
		n := 1 << shift
		l = append(l, n-1, n, n+1, -n-1, -n, -n+1)
	}
	slices.Sort(l)
	return slices.Compact(l)
}

// someTexts has the bytes 00 and ff alone, next to each other, at the beginning, and at the end, and strings that are not
// valid UTF-8.
func someTexts() []string {
	return []string{
		"", "a", "b", "ab", "ba", "\x01", "\x02", "\x03", "\xfe",
		"\x00", "\xff", "\x00\x00", "\xff\xff", "\x00\xff", "\xff\x00", "\x00\x01", "\x01\x00", "\x00\x02", "\x02\x00",
		"\x00\x00\x00", "\x00\x00\xff", "\x00\xff\x00", "\x00\xff\xff", "\xff\x00\x00", "\xff\x00\xff", "\xff\xff\x00",
		"a\x00", "\x00a", "a\x00b", "a\xff", "\xffa", "a\xffb", "a\x00\x00b", "a\x00\xffb", "a\xff\x00b", "a\x00\x01\x00\x00b",
		"\xc3", "\xc3\xa9", "\xa9", "\xed\xa0\x80", "\xf4\x90\x80\x80", "a\x80", "a\xc0\x80", "\xef\xbf\xbd",
	}
}

var numberPool, textPool = someNumbers(), someTexts()

// somePart returns a part of a random kind, often with the bytes that mean something, and with its other field filled.
func somePart(r *rand.Rand) tuple.Part {
	p := tuple.Part{IsNum: r.Intn(2) == 0, Num: numberPool[r.Intn(len(numberPool))]}
	for range r.Intn(4) {
		p.Text += textPool[r.Intn(len(textPool))]
	}
	return p
}

func someKey(r *rand.Rand) []tuple.Part {
	var parts []tuple.Part
	for range r.Intn(5) {
		parts = append(parts, somePart(r))
	}
	return parts
}

// plain returns the parts with their ignored fields emptied.
func plain(parts []tuple.Part) []tuple.Part {
	var l []tuple.Part
	for _, p := range parts {
		if p.IsNum {
			p.Text = ""
		} else {
			p.Num = 0
		}
		l = append(l, p)
	}
	return l
}
