package jws_test

import (
	"encoding/base64"
	"math/rand"
	"regexp"
	"strings"
	"testing"

	"klaxon/api"
	"klaxon/json"
	"klaxon/jws"
)

var onlyLetters = regexp.MustCompile(`^[A-Za-z0-9_-]*$`)

// modelDecoded returns the bytes of an encoding, and whether it is one, by the library.
func modelDecoded(s string) (string, bool) {
	b, err := base64.RawURLEncoding.Strict().DecodeString(s)
	return string(b), err == nil && onlyLetters.MatchString(s)
}

// modelName returns the string that the member is, and whether it is one as in a valid Head.
func modelName(header json.Value, name string) (string, bool) {
	v, there := header.Get(name)
	return v.Text, there && v.Kind == json.String && len(v.Text) >= 1 && len(v.Text) <= 40
}

// modelParse returns what Parse has to return, by the chapter's words.
func modelParse(token string) (jws.Parts, api.Errno) {
	if len(token) > 49152 {
		return jws.Parts{}, api.ErrSize
	}
	var decoded []string
	parts := strings.Split(token, ".")
	for _, part := range parts {
		b, ok := modelDecoded(part)
		if !ok {
			return jws.Parts{}, api.ErrForm
		}
		decoded = append(decoded, b)
	}
	if len(parts) != 3 || len(decoded[1]) > 16384 || len(decoded[2]) != 32 {
		return jws.Parts{}, api.ErrForm
	}
	header, e, _ := json.Parse([]byte(decoded[0]), 4)
	kid, hasKid := modelName(header, "kid")
	typ, hasTyp := modelName(header, "typ")
	if e != api.OK || header.Kind != json.Object || !hasKid || !hasTyp {
		return jws.Parts{}, api.ErrForm
	}
	alg, hasAlg := header.Get("alg")
	if _, critical := header.Get("crit"); critical || !hasAlg || !json.Same(alg, json.Str("HS256")) {
		return jws.Parts{}, api.ErrKind
	}
	return jws.Parts{Head: jws.Head{Kid: kid, Typ: typ}, Payload: []byte(decoded[1]), Signed: parts[0] + "." + parts[1], Tag: []byte(decoded[2])}, api.OK
}

// modelVerify returns what Verify has to return, by the chapter's words.
func modelVerify(token, key string) (jws.Parts, api.Errno) {
	p, e := modelParse(token)
	if e == api.OK && len(key) < 16 {
		e = api.ErrKey
	}
	if e == api.OK && codeOf(p.Signed, key) != string(p.Tag) {
		e = api.ErrTag
	}
	if e != api.OK {
		return jws.Parts{}, e
	}
	return p, api.OK
}

// agrees reports a token for which Parse and Verify do not return what they have to, and returns the error of Verify.
func agrees(t *testing.T, token, key string) api.Errno {
	t.Helper()
	p, e := modelParse(token)
	answers(t, token, p, e)
	p, e = modelVerify(token, key)
	verifies(t, token, key, p, e)
	return e
}

// P11.2: several faults at once: ErrSize is ahead of ErrForm, and ErrForm of ErrKind.
func TestParseOrder(t *testing.T) {
	type piece struct {
		s string
		e api.Errno
	}
	long := strings.Repeat("A", 22000)
	headers := []piece{
		{letters(goodHeader), api.OK}, {letters(object(kid, typ)), api.ErrKind}, {letters(object(`"alg":"none"`, kid, typ)), api.ErrKind}, {letters(object(`"alg":null`, kid, typ)), api.ErrKind}, {letters(object(alg, kid, typ, `"crit":null`)), api.ErrKind}, {letters(object(kid, typ, `"crit":1`)), api.ErrKind},
		{letters("{}"), api.ErrForm}, {letters(object(`"alg":"none"`, kid)), api.ErrForm}, {letters(object(`"crit":[]`, typ)), api.ErrForm}, {letters(object(`"alg":"none"`, `"kid":""`, typ)), api.ErrForm}, {letters(object(`"alg":"none"`, kid, typ, "")), api.ErrForm}, {letters("[]"), api.ErrForm}, {letters(object(kid, typ)) + "=", api.ErrForm}, {"", api.ErrForm}, {long, api.ErrForm},
	}
	payloads := []piece{{letters("payload"), api.OK}, {"", api.OK}, {long, api.ErrForm}, {"A", api.ErrForm}, {"YB", api.ErrForm}, {"Y.g", api.ErrForm}, {long + long + long, api.ErrSize}}
	tags := []piece{{letters(tag32), api.OK}, {letters(tag32[:31]), api.ErrForm}, {letters(tag32 + "0"), api.ErrForm}, {letters(tag32)[:42] + "_", api.ErrForm}, {"", api.ErrForm}, {letters(tag32) + ".", api.ErrForm}, {long + long + long, api.ErrSize}}
	for _, header := range headers {
		for _, payload := range payloads {
			for _, tag := range tags {
				token := header.s + "." + payload.s + "." + tag.s
				want := api.OK
				for _, e := range []api.Errno{api.ErrKind, api.ErrForm, api.ErrSize} {
					if header.e == e || payload.e == e || tag.e == e {
						want = e
					}
				}
				if want == api.OK {
					payload, _ := modelDecoded(payload.s)
					parses(t, token, goodHead, payload, tag32)
				} else {
					refused(t, token, want)
				}
				if agrees(t, token, testKey) == api.OK {
					t.Errorf("%q is verified", short(token))
				}
			}
		}
	}
}

// randomToken returns a token that is made of parts of headers, often a valid one.
func randomToken(random *rand.Rand, key string) string {
	pick := func(l ...string) string { return l[random.Intn(len(l))] }
	members := []string{
		pick(alg, alg, alg, alg, `"alg":"none"`, `"alg":256`, `"Alg":"HS256"`, `"alg" : "HS256"`),
		pick(kid, kid, kid, `"kid":""`, `"kid":"é"`, `"kid":["k1"]`, `"kid":"`+strings.Repeat("k", 38+random.Intn(5))+`"`),
		pick(typ, typ, typ, `"typ":""`, `"typ":"\n"`, `"typ":null`, `"typ":"`+strings.Repeat("é", 18+random.Intn(5))+`"`),
	}
	for range random.Intn(3) {
		members = append(members, pick(`"x":`+nested(1+random.Intn(5)), `"y":{}`, `"crit":[]`, alg, `"Crit":1`, `"z":"\u00e9"`))
	}
	random.Shuffle(len(members), func(i, j int) { members[i], members[j] = members[j], members[i] })
	if random.Intn(8) == 0 {
		members = members[1:]
	}
	text := letters(object(members...)) + "." + letters(string(bytesOf(random.Intn(20), random.Intn(100))))
	return text + "." + letters(codeOf(text, key))
}

// P11.2, P11.3: random tokens, as they are, and with letters replaced, taken out and put in.
func TestRandomTokens(t *testing.T) {
	t.Parallel()
	random := rand.New(rand.NewSource(11))
	met := map[api.Errno]int{}
	const some = "ABQYgkwz019-_.=+/ \n\x00\xff"
	for range 8000 {
		token := randomToken(random, testKey)
		met[agrees(t, token, testKey)]++
		met[agrees(t, token, testKey[:15])]++
		for range 4 {
			at, letter := random.Intn(len(token)), some[random.Intn(len(some))]
			met[agrees(t, token[:at]+string([]byte{letter})+token[at+1:], testKey)]++
			met[agrees(t, token[:at]+string([]byte{letter})+token[at:], testKey)]++
			met[agrees(t, token[:at]+token[at+1:], testKey)]++
			met[agrees(t, token[:at], testKey)]++
			met[agrees(t, token[at:], testKey)]++
		}
	}
	for _, e := range []api.Errno{api.OK, api.ErrForm, api.ErrKind, api.ErrKey, api.ErrTag} {
		if met[e] < 1000 {
			t.Errorf("error %d was met %d times only", e, met[e])
		}
	}
}

// P1: any bytes at all.
func TestRandomBytes(t *testing.T) {
	t.Parallel()
	random := rand.New(rand.NewSource(12))
	for range 20000 {
		b := make([]byte, random.Intn(200))
		random.Read(b)
		agrees(t, string(b), testKey)
		for i := range b {
			b[i] = "ABCabc019-_."[int(b[i])%12]
		}
		agrees(t, string(b), testKey)
		agrees(t, letters(string(b))+"."+letters("")+"."+letters(tag32), testKey)
	}
}
