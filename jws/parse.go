package jws

import (
	"strings"

	"klaxon/api"
	"klaxon/b64"
	"klaxon/json"
)

// refusal is what the reading of an invalid token is abandoned with.
type refusal struct{ errno api.Errno }

// Parse returns the parts of a token, whoever signed it.
func Parse(token string) (p Parts, e api.Errno) {
	defer func() {
		switch thrown := recover().(type) {
		case nil:
		case refusal:
			e = thrown.errno
		default:
			panic(thrown)
		}
	}()
	return read(token), api.OK
}

// demand abandons the token with the error unless it is as it has to be.
func demand(met bool, e api.Errno) {
	if !met {
		panic(refusal{e})
	}
}

func read(token string) Parts {
	demand(len(token) <= maxToken, api.ErrSize)
	// One part more than there may be is enough to know that there are too many.
	parts := strings.SplitN(token, separator, partCount+1)
	demand(len(parts) == partCount, api.ErrForm)
	header, payload, tag := decoded(parts[0]), decoded(parts[1]), decoded(parts[2])
	demand(len(payload) <= api.MaxJSON, api.ErrForm)
	demand(len(tag) == tagSize, api.ErrForm)
	return Parts{Head: readHead(header), Payload: payload, Signed: parts[0] + separator + parts[1], Tag: tag}
}

func decoded(part string) []byte {
	b, e := b64.Decode(part)
	demand(e == api.OK, api.ErrForm)
	return b
}

// readHead reads the header of a token of which everything else is as it has to be: what a header is refused for with
// an error of its own comes last.
func readHead(header []byte) Head {
	object, e, _ := json.Parse(header, maxNested)
	demand(e == api.OK && object.Kind == json.Object, api.ErrForm)
	h := Head{Kid: memberText(object, kidName), Typ: memberText(object, typName)}
	demand(isName(h.Kid) && isName(h.Typ), api.ErrForm)
	demand(memberText(object, algName) == algorithm, api.ErrKind)
	_, critical := object.Get(critName)
	demand(!critical, api.ErrKind)
	return h
}

// memberText returns the string that is the member with the name. Without one it is empty, which none of them may be.
func memberText(object json.Value, name string) string {
	v, _ := object.Get(name)
	if v.Kind != json.String {
		return ""
	}
	return v.Text
}
