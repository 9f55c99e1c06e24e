package jws_test

import (
	"encoding/hex"
	"strings"
	"testing"

	"klaxon/api"
	"klaxon/b64"
	"klaxon/json"
	"klaxon/jws"
	"klaxon/mac"
)

// someNames are valid as a Kid and as a Typ: of 1 to 40 bytes, with characters that a plain text escapes or not, of one
// to four bytes.
func someNames() []string {
	return []string{
		"k", "k1", "JWT", "secevent+jwt", " ", ".", "0", "/", "<&>'", "\x7f",
		`"`, `\`, "\b", "\f", "\n", "\r", "\t", "\x00", "\x01", "\x0b", "\x1f", `a"b\c` + "\n", `\u0041`,
		"é", "\u0080", "\u07ff", "\u0800", "\u2028", "\ufffd", "\uffff", "\U00010000", "\U0010ffff", "aé€😀z",
		strings.Repeat("k", 39), strings.Repeat("k", 40), strings.Repeat("\x00", 40), strings.Repeat(`"`, 40), strings.Repeat("é", 20), strings.Repeat("é", 19) + "ab", strings.Repeat("😀", 10), "a" + strings.Repeat("€", 13),
	}
}

// wrongNames are not valid as either.
func wrongNames() []string {
	return []string{
		"", strings.Repeat("k", 41), strings.Repeat("k", 42), strings.Repeat("é", 20) + "k", strings.Repeat("k", 39) + "é", strings.Repeat("😀", 11), strings.Repeat("k", 100000),
		"\xff", "\x80", "a\xc3", "\xc3", "\xa9a", "\xc0\x80", "\xed\xa0\x80", "\xf4\x90\x80\x80", "\xf0\x9f\x98", "k\xff", strings.Repeat("k", 39) + "\xff", strings.Repeat("k", 40) + "\xff", strings.Repeat("\xff", 41),
	}
}

var (
	payloadSizes = []int{0, 1, 2, 3, 4, 5, 6, 7, 100, 1023, api.MaxJSON - 2, api.MaxJSON - 1, api.MaxJSON}
	keySizes     = []int{16, 17, 31, 32, 33, 63, 64, 65, 66, 128, 1000, 70000}
)

// headerOf returns the header of a Head, by layer 6.
func headerOf(t *testing.T, h jws.Head) string {
	t.Helper()
	member := func(name, s string) json.Member {
		return json.Member{Name: name, Value: json.Value{Kind: json.String, Text: s}}
	}
	s, e := json.Print(json.Value{Kind: json.Object, Members: []json.Member{member("alg", "HS256"), member("kid", h.Kid), member("typ", h.Typ)}})
	if e != api.OK {
		t.Fatalf("Print of the header of %+v: error %d", h, e)
	}
	return s
}

// signs reports a token that is not exactly that of its header, its payload, and its tag, by layers 2, 4 and 6, or that is
// not read as what was signed.
func signs(t *testing.T, h jws.Head, payload, key []byte) {
	t.Helper()
	got, e := jws.Sign(h, payload, key)
	text := b64.Encode([]byte(headerOf(t, h))) + "." + b64.Encode(payload)
	tag := mac.Code(key, []byte(text))
	if want := text + "." + b64.Encode(tag); e != api.OK || got != want {
		t.Fatalf("Sign(%+v, %d bytes, key of %d bytes): %q with error %d, want %q", h, len(payload), len(key), short(got), e, short(want))
	}
	want := jws.Parts{Head: h, Payload: payload, Signed: text, Tag: tag}
	answers(t, got, want, api.OK)
	verifies(t, got, string(key), want, api.OK)
}

func signFails(t *testing.T, h jws.Head, payload, key []byte, want api.Errno) {
	t.Helper()
	if s, e := jws.Sign(h, payload, key); s != "" || e != want {
		t.Errorf("Sign(%+.300v, %d bytes, key of %d bytes): %q with error %d, want error %d", h, len(payload), len(key), short(s), e, want)
	}
}

// P11.1: the chapter's example, and whole tokens written out, so that they hang on no other layer.
func TestSignExample(t *testing.T) {
	const header = "eyJhbGciOiJIUzI1NiIsImtpZCI6ImsxIiwidHlwIjoiSldUIn0"
	if got := letters(goodHeader); got != header {
		t.Fatalf("the example's header is %q", got)
	}
	for _, c := range []struct{ payload, key, text, tag string }{
		{"", testKey, header + ".", "_PBf4Yk-lsaOXhFA1j6zLE3xsiVLuaso0ZAVPnSWjEY"},
		{`{"a":1}`, testKey, header + ".eyJhIjoxfQ", "l60MGKg06qy9R-kJSIuEBiTpof4vhNoimD4bG4vdO2A"},
		{"\xfb\xff\xfe", strings.Repeat("k", 65), header + ".-__-", "ZbiWLC-7j-BBgD0nphbTzbUYqd_6CvoHC3nNE3qzXn8"},
	} {
		got, e := jws.Sign(goodHead, []byte(c.payload), []byte(c.key))
		if want := c.text + "." + c.tag; e != api.OK || got != want {
			t.Errorf("Sign: %q with error %d, want %q", got, e, want)
		}
		if c.tag != letters(codeOf(c.text, c.key)) {
			t.Errorf("the tag of %q is %x", c.text, hex.EncodeToString([]byte(codeOf(c.text, c.key))))
		}
	}
}

// P11.1: headers written out, with what a plain text escapes.
func TestSignHeader(t *testing.T) {
	for _, c := range []struct{ kid, typ, header string }{
		{"k1", "JWT", goodHeader},
		{"JWT", "k1", `{"alg":"HS256","kid":"JWT","typ":"k1"}`},
		{"a", "a", `{"alg":"HS256","kid":"a","typ":"a"}`},
		{`"`, `\`, `{"alg":"HS256","kid":"\"","typ":"\\"}`},
		{"/", "<&>'\x7f", `{"alg":"HS256","kid":"/","typ":"<&>'` + "\x7f" + `"}`},
		{"\b\f\n\r\t", "\x00\x01\x0b\x1f ", `{"alg":"HS256","kid":"\b\f\n\r\t","typ":"\u0000\u0001\u000b\u001f "}`},
		{"é€😀", "\u2028", `{"alg":"HS256","kid":"é€😀","typ":"` + "\u2028" + `"}`},
		{`","typ":"x`, "x", `{"alg":"HS256","kid":"\",\"typ\":\"x","typ":"x"}`},
	} {
		got, e := jws.Sign(jws.Head{Kid: c.kid, Typ: c.typ}, []byte("p"), []byte(testKey))
		if want := signed(c.header, "p"); e != api.OK || got != want {
			t.Errorf("Sign with %q and %q: %q with error %d, want %q", c.kid, c.typ, got, e, want)
		}
		taken(t, got, jws.Head{Kid: c.kid, Typ: c.typ}, "p")
	}
}

// P11.1, P11.2, P11.3: the exact token for each name, and its parts.
func TestSignNames(t *testing.T) {
	for _, kid := range someNames() {
		for _, typ := range someNames() {
			signs(t, jws.Head{Kid: kid, Typ: typ}, []byte(`{"a":1}`), []byte(testKey))
		}
	}
	for b := range 0x80 {
		name := string(rune(b))
		signs(t, jws.Head{Kid: name, Typ: name + "a" + name}, nil, []byte(testKey))
	}
	for n := 1; n <= api.MaxName; n++ {
		signs(t, jws.Head{Kid: strings.Repeat("k", n), Typ: strings.Repeat("t", api.MaxName+1-n)}, nil, []byte(testKey))
	}
}

// P11.1, P11.2, P11.3: the exact token for each size of a payload and of a key, and its parts.
func TestSignSizes(t *testing.T) {
	for _, n := range payloadSizes {
		for _, k := range keySizes {
			signs(t, goodHead, bytesOf(n, 1), bytesOf(k, 2))
		}
	}
	for n := range 300 {
		signs(t, goodHead, bytesOf(n, n), []byte(testKey))
	}
	for k := 16; k < 200; k++ {
		signs(t, goodHead, []byte("payload"), bytesOf(k, k))
	}
	for b := range 256 {
		signs(t, goodHead, []byte{byte(b)}, []byte(strings.Repeat(string([]byte{byte(b)}), 16)))
	}
	signs(t, jws.Head{Kid: strings.Repeat("\x00", 40), Typ: strings.Repeat("\x1f", 40)}, bytesOf(api.MaxJSON, 3), bytesOf(65, 4))
}

// P11.1: what is not valid as a Kid or a Typ, beside a valid one and beside another that is not.
func TestSignWrongNames(t *testing.T) {
	for _, wrong := range wrongNames() {
		for _, h := range []jws.Head{{Kid: wrong, Typ: "JWT"}, {Kid: "k1", Typ: wrong}, {Kid: wrong, Typ: wrong}, {Kid: wrong}, {Typ: wrong}} {
			signFails(t, h, []byte("payload"), []byte(testKey), api.ErrForm)
			signFails(t, h, nil, []byte(testKey), api.ErrForm)
		}
	}
}

// P11.1: a payload and a key at and beyond their bounds.
func TestSignWrongSizes(t *testing.T) {
	for _, n := range []int{api.MaxJSON + 1, api.MaxJSON + 2, 2 * api.MaxJSON, 3 * api.MaxJSON, 1 << 20} {
		signFails(t, goodHead, make([]byte, n), []byte(testKey), api.ErrSize)
	}
	for k := range 16 {
		signFails(t, goodHead, []byte("payload"), bytesOf(k, 1), api.ErrKey)
		signFails(t, goodHead, nil, bytesOf(k, 1), api.ErrKey)
	}
	signFails(t, goodHead, nil, nil, api.ErrKey)
	signFails(t, goodHead, []byte("payload"), make([]byte, 15, 32), api.ErrKey)
}

// P11.1: where several errors apply, the one that is named first is returned.
func TestSignOrder(t *testing.T) {
	long, shortKey := make([]byte, api.MaxJSON+1), []byte(testKey[:15])
	for _, h := range []jws.Head{{}, {Kid: "k"}, {Typ: "t"}, {Kid: "\xff", Typ: "t"}, {Kid: "k", Typ: strings.Repeat("t", 41)}} {
		signFails(t, h, long, []byte(testKey), api.ErrForm)
		signFails(t, h, nil, shortKey, api.ErrForm)
		signFails(t, h, long, shortKey, api.ErrForm)
		signFails(t, h, long, nil, api.ErrForm)
	}
	signFails(t, goodHead, long, shortKey, api.ErrSize)
	signFails(t, goodHead, long, nil, api.ErrSize)
	signFails(t, goodHead, long[1:], shortKey, api.ErrKey)
	signs(t, goodHead, long[1:], []byte(testKey))
}
