package tuple_test

import (
	"slices"
	"strings"
	"testing"
	"unsafe"

	"klaxon/api"
	"klaxon/tuple"
)

// span is a piece of memory.
type span struct{ from, to uintptr }

func overlap(a, b span) bool { return a.from < b.to && b.from < a.to }

// held keeps what is looked at from being freed, or on the stack, where the next one would take its place.
var held []unsafe.Pointer

func spanOf(start unsafe.Pointer, size int) []span {
	held = append(held, start)
	if size == 0 {
		return nil
	}
	return []span{{uintptr(start), uintptr(start) + uintptr(size)}}
}

func textSpan(s string) []span { return spanOf(unsafe.Pointer(unsafe.StringData(s)), len(s)) }

func byteSpan(b []byte) []span { return spanOf(unsafe.Pointer(unsafe.SliceData(b)), cap(b)) }

// partSpans returns the memory of parts: of their list, with its spare capacity, and of each string.
func partSpans(l []tuple.Part) []span {
	spans := spanOf(unsafe.Pointer(unsafe.SliceData(l)), cap(l)*int(unsafe.Sizeof(tuple.Part{})))
	for _, p := range l {
		spans = append(spans, textSpan(p.Text)...)
	}
	return spans
}

// loose returns a string that is a part of bytes that may be changed, and those bytes.
func loose(s string) (string, []byte) {
	b := []byte("<" + s + ">")
	return unsafe.String(&b[1], len(s)), b
}

// spoil changes all bytes of b, and those of its spare capacity.
func spoil(b []byte) {
	b = b[:cap(b)]
	for i := range b {
		b[i] ^= 0xff
	}
}

// looseTexts are short, long, of one byte, and with bytes that are written as two.
func looseTexts() []string {
	return []string{"", "a", "\x7f", "\x00", "\xff", "ab", "a\xff", "a\x00b", "\x00\x00", strings.Repeat("long", 100), strings.Repeat("l\x00ng\xff", 100)}
}

// Rules, Memory: no two results share memory, nor does a result with itself, nor with an argument.
func TestResultsApart(t *testing.T) {
	defer func() { held = nil }()
	var all []span
	add := func(what string, spans []span) {
		t.Helper()
		for i, one := range spans {
			for _, other := range slices.Concat(all, spans[:i]) {
				if overlap(one, other) {
					t.Fatalf("%s: memory is shared", what)
				}
			}
		}
		all = append(all, spans...)
	}
	for range 2 {
		for _, s := range looseTexts() {
			text, room := loose(s)
			add("the argument", byteSpan(room))
			for range 2 {
				add("Text", textSpan(tuple.Text(text).Text))
				add("Num", textSpan(tuple.Num(1).Text))
				add("Next", textSpan(tuple.Next(text)))
			}
			for _, parts := range [][]tuple.Part{
				{{Text: text}},
				{{Text: text}, {Text: text}},
				{{Text: text}, {IsNum: true, Num: 7, Text: text}, {Text: text}, {Text: text}, {Text: text}},
			} {
				add("the list", spanOf(unsafe.Pointer(unsafe.SliceData(parts)), cap(parts)*int(unsafe.Sizeof(tuple.Part{}))))
				for range 2 {
					add("Key", textSpan(tuple.Key(parts...)))
				}
				bytes, room := loose(tuple.Key(parts...))
				add("the bytes", byteSpan(room))
				for range 2 {
					got, e := tuple.Read(bytes)
					if e != api.OK || len(got) != len(parts) {
						t.Fatalf("Read: %d parts with error %d", len(got), e)
					}
					add("Read", partSpans(got))
				}
			}
		}
	}
}

// Rules, Memory: no argument is changed, nor what lies about it in the same memory.
func TestArgumentsUnchanged(t *testing.T) {
	for _, s := range looseTexts() {
		text, around := loose(s)
		bytes, room := loose(tuple.Key(tuple.Text(s), tuple.Num(1)))
		wrong, wrongRoom := loose("\x01" + s)
		filled := tuple.Part{Num: 9, Text: text}
		number := tuple.Part{IsNum: true, Num: -9, Text: text}
		list := []tuple.Part{filled, number, filled, number, filled}
		other := []tuple.Part{filled, number, number, filled, filled}
		before, otherBefore, roomBefore := slices.Clone(list), slices.Clone(other), string(room)
		tuple.Text(text)
		tuple.Next(text)
		tuple.Read(bytes)
		tuple.Read(wrong)
		for n := range len(list) {
			tuple.Key(list[:n]...)
			tuple.Compare(list[:n], other[:len(other)-n])
			tuple.Compare(other[:n], list[:n])
		}
		if !slices.Equal(list, before) || !slices.Equal(other, otherBefore) {
			t.Errorf("with %.20q: a list changed", s)
		}
		if string(around) != "<"+s+">" || string(room) != roomBefore || string(wrongRoom) != "<\x01"+s+">" {
			t.Errorf("with %.20q: a string changed", s)
		}
	}
}

// Rules, Memory: what is done to an argument afterwards has no effect on a result, nor what is done to another result.
func TestResultsKept(t *testing.T) {
	for _, s := range looseTexts() {
		text, around := loose(s)
		list := []tuple.Part{{Text: text}, {IsNum: true, Num: 5}, {Text: text}}
		part, next, bytes := tuple.Text(text), tuple.Next(text), tuple.Key(list...)
		argument, room := loose(bytes)
		parts, _ := tuple.Read(argument)
		others, _ := tuple.Read(argument)
		wantNext := strings.Clone(next)
		spoil(around)
		spoil(room)
		for i := range list {
			list[i] = tuple.Part{IsNum: true, Num: 77}
		}
		others = append(others, tuple.Num(1), tuple.Num(2))
		for i := range others[:cap(others)] {
			others[:cap(others)][i] = tuple.Num(78)
		}
		want := []tuple.Part{{Text: s}, {IsNum: true, Num: 5}, {Text: s}}
		if part.Text != s || next != wantNext || bytes != modelKey(want) || !slices.Equal(parts, want) {
			t.Errorf("with %.20q: a result changed", s)
		}
	}
}

// Rules: nil and empty lists are equivalent.
func TestNilAndEmpty(t *testing.T) {
	for _, l := range [][]tuple.Part{nil, {}, make([]tuple.Part, 0, 3)} {
		if got := tuple.Key(l...); got != "" {
			t.Errorf("Key of no parts: %x", got)
		}
	}
	if got := tuple.Key(); got != "" {
		t.Errorf("Key of no parts: %x", got)
	}
	reads(t, "", nil)
}

// Rules, Determinism: the same arguments have the same results, whatever was called meanwhile.
func TestDeterminism(t *testing.T) {
	told := func() string {
		var out strings.Builder
		for _, s := range looseTexts() {
			out.WriteString(tuple.Key(tuple.Text(s), tuple.Num(len(s))))
			out.WriteString(tuple.Next(s))
		}
		return out.String()
	}
	first := told()
	tuple.Read("\x03")
	tuple.Read(first)
	tuple.Compare(key(tuple.Num(1)), key(tuple.Text("a")))
	if told() != first {
		t.Error("the same calls have different results")
	}
}
