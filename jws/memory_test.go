package jws_test

import (
	"slices"
	"strings"
	"testing"
	"unsafe"

	"klaxon/api"
	"klaxon/jws"
)

// span is a piece of memory.
type span struct{ from, to uintptr }

func overlap(a, b span) bool { return a.from < b.to && b.from < a.to }

// held keeps what is looked at from being freed, or on the stack, where the next one would take its place.
var held []unsafe.Pointer

func spanOf(start unsafe.Pointer, size int) []span {
	held = append(held, start)
	if size == 0 {
		return nil
	}
	return []span{{uintptr(start), uintptr(start) + uintptr(size)}}
}

func textSpan(s string) []span { return spanOf(unsafe.Pointer(unsafe.StringData(s)), len(s)) }

func byteSpan(b []byte) []span { return spanOf(unsafe.Pointer(unsafe.SliceData(b)), cap(b)) }

func partSpans(p jws.Parts) []span {
	return slices.Concat(textSpan(p.Head.Kid), textSpan(p.Head.Typ), byteSpan(p.Payload), textSpan(p.Signed), byteSpan(p.Tag))
}

// loose returns a string that is a part of bytes that may be changed, and those bytes.
func loose(s string) (string, []byte) {
	b := []byte("<" + s + ">")
	return unsafe.String(&b[1], len(s)), b
}

// roomy returns a list in the middle of bytes that are looked at, with spare capacity, and those bytes.
func roomy(s string) ([]byte, []byte) {
	b := []byte("<" + s + "spare>")
	return b[1 : 1+len(s)], b
}

// spoil changes all bytes of b, and those of its spare capacity.
func spoil(b []byte) {
	b = b[:cap(b)]
	for i := range b {
		b[i] ^= 0xff
	}
}

// call is what a token is made of.
type call struct{ kid, typ, payload, key string }

// someCalls have parts of no, one and many bytes, and some that are the same as others.
func someCalls() []call {
	return []call{
		{"k", "t", "", testKey},
		{"k", "k", "k", testKey},
		{"k1", "JWT", `{"a":1}`, testKey},
		{"\n", "é", "\x00", strings.Repeat("k", 64)},
		{strings.Repeat("k", 40), strings.Repeat("t", 40), strings.Repeat("long", 4096), strings.Repeat("k", 65)},
	}
}

// Rules, Memory: no two results share memory, nor does a result with itself, nor with an argument.
func TestResultsApart(t *testing.T) {
	defer func() { held = nil }()
	var all []span
	add := func(what string, spans []span) {
		t.Helper()
		for i, one := range spans {
			for _, other := range slices.Concat(all, spans[:i]) {
				if overlap(one, other) {
					t.Fatalf("%s: memory is shared", what)
				}
			}
		}
		all = append(all, spans...)
	}
	for range 2 {
		for _, c := range someCalls() {
			kid, kidRoom := loose(c.kid)
			typ, typRoom := loose(c.typ)
			payload, payloadRoom := roomy(c.payload)
			key, keyRoom := roomy(c.key)
			for _, room := range [][]byte{kidRoom, typRoom, payloadRoom, keyRoom} {
				add("an argument", byteSpan(room))
			}
			var token string
			for range 2 {
				token, _ = jws.Sign(jws.Head{Kid: kid, Typ: typ}, payload, key)
				add("Sign", textSpan(token))
			}
			token, tokenRoom := loose(token)
			add("the token", byteSpan(tokenRoom))
			for range 2 {
				parsed, e := jws.Parse(token)
				add("Parse", partSpans(parsed))
				verified, f := jws.Verify(token, key)
				add("Verify", partSpans(verified))
				if e != api.OK || f != api.OK {
					t.Fatalf("Parse and Verify: errors %d and %d", e, f)
				}
			}
		}
	}
}

// Rules, Memory: no argument is changed, nor what lies about it in the same memory, its spare capacity among it, whatever
// the call returns.
func TestArgumentsUnchanged(t *testing.T) {
	var rooms, before [][]byte
	watch := func(room []byte) {
		rooms, before = append(rooms, room), append(before, slices.Clone(room))
	}
	text := func(s string) string {
		s, room := loose(s)
		watch(room)
		return s
	}
	list := func(s string) []byte {
		b, room := roomy(s)
		watch(room)
		return b
	}
	for _, c := range someCalls() {
		for _, wrong := range []call{c, {"", c.typ, c.payload, c.key}, {c.kid, "\xff", c.payload, c.key}, {c.kid, c.typ, strings.Repeat("p", api.MaxJSON+1), c.key}, {c.kid, c.typ, c.payload, c.key[:15]}} {
			jws.Sign(jws.Head{Kid: text(wrong.kid), Typ: text(wrong.typ)}, list(wrong.payload), list(wrong.key))
		}
		token := sign(t, jws.Head{Kid: c.kid, Typ: c.typ}, c.payload, c.key)
		for _, other := range []string{token, token + "A", "." + token, token[:len(token)-1] + "B", signed("{}", c.payload), signed(object(kid, typ), c.payload), tokenOf(goodHeader, c.payload, tag32), strings.Repeat(token, 200)} {
			jws.Parse(text(other))
			jws.Verify(text(other), list(c.key))
			jws.Verify(text(other), list(c.key[:15]))
			jws.Verify(text(other), list(c.key[1:]+"0"))
		}
	}
	for i := range rooms {
		if !slices.Equal(rooms[i], before[i]) {
			t.Fatalf("an argument changed: %.80q, was %.80q", rooms[i], before[i])
		}
	}
}

// Rules, Memory: what is done to an argument afterwards has no effect on a result, nor what is done to another result.
func TestResultsKept(t *testing.T) {
	for _, c := range someCalls() {
		kid, kidRoom := loose(c.kid)
		typ, typRoom := loose(c.typ)
		payload, payloadRoom := roomy(c.payload)
		key, keyRoom := roomy(c.key)
		token, e := jws.Sign(jws.Head{Kid: kid, Typ: typ}, payload, key)
		argument, tokenRoom := loose(token)
		parsed, f := jws.Parse(argument)
		verified, g := jws.Verify(argument, key)
		other, _ := jws.Parse(argument)
		if e != api.OK || f != api.OK || g != api.OK {
			t.Fatalf("errors %d, %d and %d", e, f, g)
		}
		for _, room := range [][]byte{kidRoom, typRoom, payloadRoom, keyRoom, tokenRoom, other.Payload, other.Tag} {
			spoil(room)
		}
		if want := sign(t, jws.Head{Kid: c.kid, Typ: c.typ}, c.payload, c.key); token != want {
			t.Errorf("the token of %.80v changed", c)
		}
		want := jws.Parts{Head: jws.Head{Kid: c.kid, Typ: c.typ}, Payload: []byte(c.payload), Signed: ahead(token), Tag: []byte(codeOf(ahead(token), c.key))}
		if !same(parsed, want) || !same(verified, want) {
			t.Errorf("the parts of the token of %.80v changed", c)
		}
		spoil(parsed.Payload)
		if string(parsed.Tag) != string(want.Tag) || !same(verified, want) {
			t.Errorf("a payload of %.80v shares memory", c)
		}
		spoil(verified.Tag)
		if string(verified.Payload) != c.payload || string(parsed.Tag) != string(want.Tag) {
			t.Errorf("a tag of %.80v shares memory", c)
		}
	}
}

// Rules: nil and empty lists are equivalent.
func TestNilAndEmpty(t *testing.T) {
	want := signed(goodHeader, "")
	for _, payload := range [][]byte{nil, {}, make([]byte, 0, 3)} {
		if got, e := jws.Sign(goodHead, payload, []byte(testKey)); e != api.OK || got != want {
			t.Errorf("Sign of no payload: %q with error %d", got, e)
		}
	}
	for _, key := range [][]byte{nil, {}, make([]byte, 0, 32)} {
		if got, e := jws.Sign(goodHead, nil, key); e != api.ErrKey || got != "" {
			t.Errorf("Sign with no key: %q with error %d", got, e)
		}
		if p, e := jws.Verify(want, key); e != api.ErrKey || !same(p, jws.Parts{}) {
			t.Errorf("Verify with no key: %+v with error %d", p, e)
		}
	}
	taken(t, want, goodHead, "")
}

// Rules, Determinism: the same arguments have the same results, whatever was called meanwhile.
func TestDeterminism(t *testing.T) {
	told := func() string {
		var out strings.Builder
		for _, c := range someCalls() {
			token := sign(t, jws.Head{Kid: c.kid, Typ: c.typ}, c.payload, c.key)
			p := partsOf(t, token)
			out.WriteString(token + p.Head.Kid + p.Head.Typ + string(p.Payload) + p.Signed + string(p.Tag))
		}
		return out.String()
	}
	first := told()
	for _, token := range []string{"", "..", goodToken(), signed("{}", ""), signed(object(kid, typ), ""), strings.Repeat("A", 3*api.MaxJSON+1)} {
		jws.Parse(token)
		jws.Verify(token, nil)
		jws.Verify(token, []byte(testKey))
	}
	jws.Sign(jws.Head{}, nil, nil)
	if told() != first {
		t.Error("the same calls have different results")
	}
}
