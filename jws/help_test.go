package jws_test

import (
	"bytes"
	"crypto/hmac"
	"crypto/sha256"
	"encoding/base64"
	"strings"
	"testing"

	"klaxon/api"
	"klaxon/jws"
)

// The calls keep the signatures that the chapter lists.
var (
	_ func(jws.Head, []byte, []byte) (string, api.Errno) = jws.Sign
	_ func(string) (jws.Parts, api.Errno)                = jws.Parse
	_ func(string, []byte) (jws.Parts, api.Errno)        = jws.Verify
	_ struct{ Kid, Typ string }                          = jws.Head{}
	_ struct {
		Head    jws.Head
		Payload []byte
		Signed  string
		Tag     []byte
	} = jws.Parts{}
)

const (
	testKey = "0123456789abcdef"

	// goodHeader is that of goodHead.
	goodHeader = `{"alg":"HS256","kid":"k1","typ":"JWT"}`
)

var goodHead = jws.Head{Kid: "k1", Typ: "JWT"}

func bytesOf(n int, seed int) []byte {
	b := make([]byte, n)
	for i := range b {
		b[i] = byte(i*11 + i/256 + seed*29 + 5)
	}
	return b
}

// letters returns the encoding of s, by the library.
func letters(s string) string { return base64.RawURLEncoding.EncodeToString([]byte(s)) }

// codeOf returns the code of a message, by the library.
func codeOf(message, key string) string {
	h := hmac.New(sha256.New, []byte(key))
	h.Write([]byte(message))
	return string(h.Sum(nil))
}

// tokenOf returns the three parts as a token, whatever they are.
func tokenOf(header, payload, tag string) string {
	return letters(header) + "." + letters(payload) + "." + letters(tag)
}

// signed returns a token under testKey, whatever its header is.
func signed(header, payload string) string {
	text := letters(header) + "." + letters(payload)
	return text + "." + letters(codeOf(text, testKey))
}

// ahead returns what is ahead of the last separator.
func ahead(token string) string { return token[:strings.LastIndex(token, ".")] }

// same compares all fields, with nil and empty lists as the same.
func same(a, b jws.Parts) bool {
	return a.Head == b.Head && bytes.Equal(a.Payload, b.Payload) && a.Signed == b.Signed && bytes.Equal(a.Tag, b.Tag)
}

// short is a token as far as it can be told in a line.
func short(token string) string {
	if len(token) > 300 {
		return token[:300] + ".."
	}
	return token
}

// answers reports what Parse says of a token if it is not this.
func answers(t *testing.T, token string, want jws.Parts, wantErrno api.Errno) {
	t.Helper()
	if p, e := jws.Parse(token); e != wantErrno || !same(p, want) {
		t.Errorf("Parse(%q): %+.300v with error %d, want %+.300v with error %d", short(token), p, e, want, wantErrno)
	}
}

// verifies reports what Verify says of a token and a key if it is not this.
func verifies(t *testing.T, token, key string, want jws.Parts, wantErrno api.Errno) {
	t.Helper()
	if p, e := jws.Verify(token, []byte(key)); e != wantErrno || !same(p, want) {
		t.Errorf("Verify(%q, %q): %+.300v with error %d, want %+.300v with error %d", short(token), short(key), p, e, want, wantErrno)
	}
}

// refused reports a token that Parse does not refuse with this error, and Verify too, whatever the key is.
func refused(t *testing.T, token string, want api.Errno) {
	t.Helper()
	answers(t, token, jws.Parts{}, want)
	for _, key := range []string{"", "short", testKey[:15], testKey, testKey + "g", strings.Repeat("long", 30)} {
		verifies(t, token, key, jws.Parts{}, want)
	}
}

// taken reports a token under testKey that Parse does not take as this, and Verify with that key alone.
func taken(t *testing.T, token string, head jws.Head, payload string) {
	t.Helper()
	text := ahead(token)
	want := jws.Parts{Head: head, Payload: []byte(payload), Signed: text, Tag: []byte(codeOf(text, testKey))}
	answers(t, token, want, api.OK)
	verifies(t, token, testKey, want, api.OK)
	verifies(t, token, testKey[:15], jws.Parts{}, api.ErrKey)
	verifies(t, token, testKey[:15]+"g", jws.Parts{}, api.ErrTag)
}
