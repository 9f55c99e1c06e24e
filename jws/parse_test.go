package jws_test

import (
	"slices"
	"strings"
	"testing"

	"klaxon/api"
	"klaxon/jws"
)

const tag32 = "0123456789abcdef0123456789ABCDEF"

// goodToken has a tag that no key of the tests yields.
func goodToken() string { return tokenOf(goodHeader, "payload", tag32) }

// parses reports a token that is not taken as just these parts.
func parses(t *testing.T, token string, head jws.Head, payload, tag string) {
	t.Helper()
	answers(t, token, jws.Parts{Head: head, Payload: []byte(payload), Signed: ahead(token), Tag: []byte(tag)}, api.OK)
}

// P11.2: a token is taken whatever its tag is, and Signed is just the text ahead of the last separator.
func TestParse(t *testing.T) {
	p, e := jws.Parse("eyJhbGciOiJIUzI1NiIsImtpZCI6ImsxIiwidHlwIjoiSldUIn0.eyJhIjoxfQ.MDEyMzQ1Njc4OWFiY2RlZjAxMjM0NTY3ODlBQkNERUY")
	want := jws.Parts{Head: goodHead, Payload: []byte(`{"a":1}`), Signed: "eyJhbGciOiJIUzI1NiIsImtpZCI6ImsxIiwidHlwIjoiSldUIn0.eyJhIjoxfQ", Tag: []byte(tag32)}
	if e != api.OK || !same(p, want) {
		t.Errorf("Parse: %+v with error %d, want %+v", p, e, want)
	}
	for _, payload := range []string{"", "a", "..", "\x00\xff\xfe", "not a JSON text", `{"alg":"none","crit":[]}`, strings.Repeat("long", 4096)} {
		for _, tag := range []string{tag32, strings.Repeat("\x00", 32), strings.Repeat("\xff", 32), codeOf("", "")} {
			parses(t, tokenOf(goodHeader, payload, tag), goodHead, payload, tag)
		}
	}
}

// P11.2: tokens of 3 MaxJSON bytes and of one more, whatever else is wrong with them. (None of 3 MaxJSON is valid: its
// header or its payload is too long.)
func TestParseTokenSize(t *testing.T) {
	const most = 3 * api.MaxJSON
	for _, c := range []struct{ begin, fill string }{
		{"", "A"}, {"", "."}, {"", "\x00"}, {"", "\xff"}, {"", "é"}, {"", "="}, {"", "A."}, {goodToken(), "A"}, {goodToken(), "."}, {goodToken() + ".", "A"}, {goodToken(), " "},
		{ahead(goodToken()) + ".", "A"}, {letters(goodHeader) + ".", "A"}, {tokenOf(strings.ReplaceAll(goodHeader, "HS256", "none"), "", tag32), "A"},
	} {
		long := c.begin + strings.Repeat(c.fill, most+2)
		refused(t, long[:most+2], api.ErrSize)
		refused(t, long[:most+1], api.ErrSize)
		refused(t, long[:most], api.ErrForm)
		refused(t, long[:most-1], api.ErrForm)
	}
	refused(t, strings.Repeat("A", 1<<22), api.ErrSize)
	refused(t, strings.Repeat(".", 1<<22), api.ErrSize)
}

// The three parts fill a token of 3 MaxJSON bytes in each way that a length of an encoding allows.
func TestParseFullToken(t *testing.T) {
	const most = 3 * api.MaxJSON
	rest := most - len("..") - len(letters(tag32))
	for header := 0; header < rest; header += 97 {
		for _, extra := range []int{0, 1} {
			token := strings.Repeat("A", header) + "." + strings.Repeat("A", rest-header+extra) + "." + letters(tag32)
			if p, e := jws.Parse(token); len(token) != most+extra || !same(p, jws.Parts{}) || e != []api.Errno{api.ErrForm, api.ErrSize}[extra] {
				t.Errorf("a token of %d bytes with a header of %d letters: error %d", len(token), header, e)
			}
		}
	}
}

// P11.2: a header and a payload as great as they may be, and greater.
func TestParseGreatest(t *testing.T) {
	header := func(n int) string { return strings.Repeat(" ", n-len(goodHeader)) + goodHeader }
	payload := func(n int) string { return string(bytesOf(n, 7)) }
	for _, n := range []int{1000, api.MaxJSON - 1, api.MaxJSON} {
		taken(t, signed(header(n), ""), goodHead, "")
		taken(t, signed(goodHeader, payload(n)), goodHead, payload(n))
		taken(t, signed(header(n), payload(n)), goodHead, payload(n))
	}
	for _, n := range []int{api.MaxJSON + 1, api.MaxJSON + 2, api.MaxJSON + 3, api.MaxJSON + 4, 2 * api.MaxJSON} {
		refused(t, signed(header(n), ""), api.ErrForm)
		refused(t, signed(goodHeader, payload(n)), api.ErrForm)
		refused(t, signed(`{"kid":"k1","typ":"JWT"}`, payload(n)), api.ErrForm)
	}
}

// P11.2: no, one, two, four and more parts.
func TestParsePartCount(t *testing.T) {
	header, payload, tag := letters(goodHeader), letters("payload"), letters(tag32)
	for _, parts := range [][]string{
		{""}, {header}, {payload}, {tag}, {"A"},
		{"", ""}, {header, payload}, {header, tag}, {payload, tag}, {header, ""}, {"", tag}, {header + payload, tag}, {header, payload + tag},
		{header, payload, tag, ""}, {"", header, payload, tag}, {header, "", payload, tag}, {header, payload, "", tag}, {header, payload, payload, tag}, {header, payload, tag, tag}, {header, header, payload, tag}, {"", "", "", ""},
		{header, payload, tag, "", ""}, {"", "", header, payload, tag}, {header, payload, tag, header, payload, tag}, {"", "", "", "", ""}, slices.Repeat([]string{header}, 50),
	} {
		refused(t, strings.Join(parts, "."), api.ErrForm)
	}
	for _, other := range []string{",", ":", " ", "-", "_", "\n", "\x00", "..", ". ", " .", "．"} {
		refused(t, strings.Join([]string{header, payload, tag}, other), api.ErrForm)
		refused(t, header+other+payload+"."+tag, api.ErrForm)
		refused(t, header+"."+payload+other+tag, api.ErrForm)
	}
	parses(t, strings.Join([]string{header, payload, tag}, "."), goodHead, "payload", tag32)
}

// P11.2: each part empty. Only a payload may be.
func TestParseEmptyParts(t *testing.T) {
	header, payload, tag := letters(goodHeader), letters("payload"), letters(tag32)
	for _, token := range []string{"." + payload + "." + tag, header + "." + payload + ".", "..", header + "..", "." + payload + ".", ".." + tag} {
		refused(t, token, api.ErrForm)
	}
	parses(t, header+".."+tag, goodHead, "", tag32)
}

// wrongParts are no encodings: most are the part, which is one, with one thing about it changed.
func wrongParts(part string) []string {
	l := []string{part + "=", part + "==", part + " ", " " + part, part + "\n", "\r\n" + part, part + "\x00", part + "é", part + "+", part + "/", part + "\xff", part + "A\n", "A", "=", "====", "\n", "*", "AB", "_w==", "AAB"}
	middle := len(part) / 2
	for _, wrong := range []string{"+", "/", "=", " ", "\n", "\r", "\t", "\x00", "\x7f", "\x80", "\xff", ",", ":", "@", "[", "`", "{", "^", "~", "%41", "é", "Ａ"} {
		l = append(l, part[:middle]+wrong+part[middle+1:], wrong+part[1:], part[:len(part)-1]+wrong)
	}
	// A length that no encoding has, and last bits that are not zero.
	for n := range 5 {
		if grown := part + strings.Repeat("A", n); len(grown)%4 == 1 {
			l = append(l, grown)
		} else if len(grown)%4 != 0 {
			l = append(l, grown[:len(grown)-1]+"B", grown[:len(grown)-1]+"_")
		}
	}
	return l
}

// P11.2: each part is no encoding.
func TestParseNoEncoding(t *testing.T) {
	header, payload, tag := letters(goodHeader), letters("payload"), letters(tag32)
	for _, wrong := range wrongParts(header) {
		refused(t, wrong+"."+payload+"."+tag, api.ErrForm)
	}
	for _, wrong := range wrongParts(payload) {
		refused(t, header+"."+wrong+"."+tag, api.ErrForm)
	}
	for _, wrong := range wrongParts(tag) {
		refused(t, header+"."+payload+"."+wrong, api.ErrForm)
	}
	// Each size of a header and a payload, with a bit that is not zero behind the last byte.
	for n := range 6 {
		long := letters(strings.Repeat(" ", n) + goodHeader)
		parses(t, long+"."+payload+"."+tag, goodHead, "payload", tag32)
		for _, wrong := range wrongParts(long) {
			refused(t, wrong+"."+payload+"."+tag, api.ErrForm)
		}
	}
	for n := 1; n < 7; n++ {
		for _, wrong := range wrongParts(letters("payload"[:n])) {
			refused(t, header+"."+wrong+"."+tag, api.ErrForm)
		}
	}
}

// P11.2: tags of each size.
func TestParseTagSize(t *testing.T) {
	for n := range 100 {
		token := tokenOf(goodHeader, "payload", string(bytesOf(n, 9)))
		if n == 32 {
			parses(t, token, goodHead, "payload", string(bytesOf(32, 9)))
		} else {
			refused(t, token, api.ErrForm)
		}
	}
	refused(t, tokenOf(goodHeader, "payload", strings.Repeat("t", 20000)), api.ErrForm)
	refused(t, tokenOf(goodHeader, "", codeOf("", "")[:31]), api.ErrForm)
	refused(t, tokenOf(goodHeader, "", codeOf("", "")+"\x00"), api.ErrForm)
}
