package jws_test

import (
	"strings"
	"testing"

	"klaxon/api"
	"klaxon/jws"
)

const alphabet = "ABCDEFGHIJKLMNOPQRSTUVWXYZabcdefghijklmnopqrstuvwxyz0123456789-_"

// partsOf returns the parts of a token that is valid.
func partsOf(t *testing.T, token string) jws.Parts {
	t.Helper()
	p, e := jws.Parse(token)
	if e != api.OK {
		t.Fatalf("Parse(%q): error %d", short(token), e)
	}
	return p
}

func sign(t *testing.T, h jws.Head, payload, key string) string {
	t.Helper()
	token, e := jws.Sign(h, []byte(payload), []byte(key))
	if e != api.OK {
		t.Fatalf("Sign: error %d", e)
	}
	return token
}

// P11.3: a whole token written out, with the key that signed it and with others.
func TestVerifyKnown(t *testing.T) {
	const token = "eyJhbGciOiJIUzI1NiIsImtpZCI6ImsxIiwidHlwIjoiSldUIn0.eyJhIjoxfQ.l60MGKg06qy9R-kJSIuEBiTpof4vhNoimD4bG4vdO2A"
	p := partsOf(t, token)
	if string(p.Payload) != `{"a":1}` || p.Head != goodHead || p.Signed != token[:strings.LastIndexByte(token, '.')] {
		t.Errorf("Parse: %+v", p)
	}
	verifies(t, token, testKey, p, api.OK)
	for _, key := range []string{"0123456789abcdeg", "0123456789ABCDEF", "fedcba9876543210", testKey + "0", testKey + testKey, " " + testKey, strings.Repeat("\x00", 16), strings.Repeat("long", 30)} {
		verifies(t, token, key, jws.Parts{}, api.ErrTag)
	}
}

// P11.3: the key that signed, and the same with each of its bits turned.
func TestVerifyKeyBits(t *testing.T) {
	for _, k := range []int{16, 17, 32, 63, 64, 65, 130} {
		key := bytesOf(k, 3)
		token := sign(t, goodHead, "payload", string(key))
		p := partsOf(t, token)
		verifies(t, token, string(key), p, api.OK)
		for i := range key {
			for bit := range 8 {
				key[i] ^= 1 << bit
				verifies(t, token, string(key), jws.Parts{}, api.ErrTag)
				key[i] ^= 1 << bit
			}
		}
		verifies(t, token, string(key), p, api.OK)
	}
}

// P11.3: keys that are the same for layer 2, which pads a key with zeros and hashes one that is long.
func TestVerifyEqualKeys(t *testing.T) {
	token := sign(t, goodHead, "payload", testKey)
	p := partsOf(t, token)
	for n := 1; n <= 48; n++ {
		verifies(t, token, testKey+strings.Repeat("\x00", n), p, api.OK)
	}
	verifies(t, token, testKey+strings.Repeat("\x00", 49), jws.Parts{}, api.ErrTag)
	verifies(t, token, "\x00"+testKey, jws.Parts{}, api.ErrTag)
	// All zeros are as good as a key that is too short, and are not refused for that.
	zeros := sign(t, goodHead, "payload", strings.Repeat("\x00", 16))
	verifies(t, zeros, strings.Repeat("\x00", 64), partsOf(t, zeros), api.OK)
	verifies(t, zeros, "", jws.Parts{}, api.ErrKey)
	verifies(t, zeros, strings.Repeat("\x00", 15), jws.Parts{}, api.ErrKey)
}

// P11.3: each letter of a token replaced by each other one, and by what is none: never is it verified.
func TestVerifyLetters(t *testing.T) {
	for _, payload := range []string{"", "p", "pa", `{"a":1}`} {
		token := sign(t, goodHead, payload, testKey)
		verifies(t, token, testKey, partsOf(t, token), api.OK)
		for i := range token {
			for _, letter := range alphabet + ".=+/ \n\x00" {
				if rune(token[i]) == letter {
					continue
				}
				if agrees(t, token[:i]+string(letter)+token[i+1:], testKey) == api.OK {
					t.Errorf("%q is verified with %q at %d", token, letter, i)
				}
			}
		}
	}
}

// P11.3: each bit of the payload and of the tag turned, and of the names in the header.
func TestVerifyBits(t *testing.T) {
	token := sign(t, goodHead, "payload", testKey)
	p := partsOf(t, token)
	for i := range p.Payload {
		for bit := range 8 {
			payload := []byte("payload")
			payload[i] ^= 1 << bit
			verifies(t, tokenOf(goodHeader, string(payload), string(p.Tag)), testKey, jws.Parts{}, api.ErrTag)
		}
	}
	for i := range p.Tag {
		for bit := range 8 {
			tag := append([]byte(nil), p.Tag...)
			tag[i] ^= 1 << bit
			verifies(t, tokenOf(goodHeader, "payload", string(tag)), testKey, jws.Parts{}, api.ErrTag)
		}
	}
	for _, header := range []string{object(alg, `"kid":"k2"`, typ), object(alg, kid, `"typ":"JWT "`), object(kid, alg, typ), goodHeader + " ", object(alg, kid, typ, `"x":1`)} {
		verifies(t, tokenOf(header, "payload", string(p.Tag)), testKey, jws.Parts{}, api.ErrTag)
		taken(t, signed(header, "payload"), partsOf(t, signed(header, "payload")).Head, "payload")
	}
}

// P11.3: the tag of another token, of another key, and of other texts of the same token.
func TestVerifyOtherTags(t *testing.T) {
	heads := []jws.Head{goodHead, {Kid: "k2", Typ: "JWT"}, {Kid: "k1", Typ: "jwt"}, {Kid: "JWT", Typ: "k1"}}
	var tokens []string
	for _, h := range heads {
		for _, payload := range []string{"", "a", "b", "ab"} {
			tokens = append(tokens, sign(t, h, payload, testKey))
		}
	}
	for i, a := range tokens {
		for j, b := range tokens {
			mixed := ahead(a) + b[strings.LastIndex(b, "."):]
			if i == j {
				verifies(t, mixed, testKey, partsOf(t, a), api.OK)
			} else {
				verifies(t, mixed, testKey, jws.Parts{}, api.ErrTag)
			}
		}
	}
	text := letters(goodHeader) + "." + letters("payload")
	for _, other := range []string{"", "payload", goodHeader, goodHeader + ".payload", goodHeader + "payload", text + ".", "." + text, strings.ReplaceAll(text, ".", ""), letters("payload"), letters(goodHeader)} {
		verifies(t, text+"."+letters(codeOf(other, testKey)), testKey, jws.Parts{}, api.ErrTag)
	}
	verifies(t, text+"."+letters(codeOf(text, testKey+"0")), testKey, jws.Parts{}, api.ErrTag)
	verifies(t, text+"."+letters(codeOf(text, "")), testKey, jws.Parts{}, api.ErrTag)
	verifies(t, text+"."+letters(codeOf(testKey, text)), testKey, jws.Parts{}, api.ErrTag)
}

// P11.3: a key that is too short, beside a token whose tag is right and wrong, and beside one that Parse refuses.
func TestVerifyShortKey(t *testing.T) {
	for n := range 16 {
		key := testKey[:n]
		text := letters(goodHeader) + "." + letters("payload")
		for _, token := range []string{signed(goodHeader, "payload"), tokenOf(goodHeader, "payload", tag32), text + "." + letters(codeOf(text, key)), tokenOf(goodHeader, "", strings.Repeat("\x00", 32))} {
			verifies(t, token, key, jws.Parts{}, api.ErrKey)
		}
		verifies(t, "", key, jws.Parts{}, api.ErrForm)
		verifies(t, signed(object(alg, kid), "payload"), key, jws.Parts{}, api.ErrForm)
		verifies(t, tokenOf(goodHeader, "payload", tag32[:31]), key, jws.Parts{}, api.ErrForm)
		verifies(t, signed(object(kid, typ), "payload"), key, jws.Parts{}, api.ErrKind)
		verifies(t, signed(object(alg, kid, typ, `"crit":null`), "payload"), key, jws.Parts{}, api.ErrKind)
		verifies(t, strings.Repeat("A", 3*api.MaxJSON+1), key, jws.Parts{}, api.ErrSize)
		verifies(t, strings.Repeat("A", 3*api.MaxJSON), key, jws.Parts{}, api.ErrForm)
	}
	if p, e := jws.Verify(signed(goodHeader, ""), nil); e != api.ErrKey || !same(p, jws.Parts{}) {
		t.Errorf("Verify with no key: %+v with error %d", p, e)
	}
	// What Parse refuses comes first also where the tag is right.
	verifies(t, signed(object(`"alg":"none"`, kid, typ), ""), testKey, jws.Parts{}, api.ErrKind)
	verifies(t, signed(object(alg, typ), ""), testKey, jws.Parts{}, api.ErrForm)
}
