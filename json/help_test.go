package json_test

import (
	"bytes"
	library "encoding/json"
	"fmt"
	"io"
	"math/rand"
	"regexp"
	"slices"
	"sort"
	"strconv"
	"strings"
	"testing"
	"unicode/utf8"

	"klaxon/api"
	"klaxon/json"
)

// The calls keep the signatures that the chapter lists.
var (
	_ func([]byte, int) (json.Value, api.Errno, int)  = json.Parse
	_ func(json.Value) bool                           = json.Value.Right
	_ func(json.Value) (string, api.Errno)            = json.Print
	_ func(json.Value) (string, api.Errno)            = json.Pretty
	_ func(json.Value) int                            = json.Value.Depth
	_ func(json.Value, string) (json.Value, bool)     = json.Value.Get
	_ func(json.Value) (int, bool)                    = json.Value.Int
	_ func(json.Value, string, json.Value) json.Value = json.Value.With
	_ func(json.Value, string) json.Value             = json.Value.Without
	_ func(json.Value, json.Value) json.Value         = json.Merge
	_ func(json.Value, json.Value) bool               = json.Alike
	_ func(json.Value, json.Value) bool               = json.Same
	_ func(string) json.Value                         = json.Str
	_ func(int) json.Value                            = json.Num
	_ func(bool) json.Value                           = json.Bool
	_ func(...json.Value) json.Value                  = json.List
	_ func(...json.Member) json.Value                 = json.Obj
	_                                                 = json.Member{Name: "", Value: json.Value{}}
	_                                                 = json.Value{Kind: 0, Yes: false, Text: "", List: []json.Value{}, Members: []json.Member{}}
	_ [6]int                                          = [...]int{json.Null, json.Truth, json.Number, json.String, json.Array, json.Object}
)

// The kinds have the numbers that the chapter lists.
func TestKinds(t *testing.T) {
	for i, kind := range []int{json.Null, json.Truth, json.Number, json.String, json.Array, json.Object} {
		if kind != i+1 {
			t.Errorf("kind %d is %d", i+1, kind)
		}
	}
}

// The values of the tests, written out by the type and not by the calls that are tested.
func null() json.Value                 { return json.Value{Kind: json.Null} }
func truth(yes bool) json.Value        { return json.Value{Kind: json.Truth, Yes: yes} }
func number(s string) json.Value       { return json.Value{Kind: json.Number, Text: s} }
func str(s string) json.Value          { return json.Value{Kind: json.String, Text: s} }
func array(l ...json.Value) json.Value { return json.Value{Kind: json.Array, List: l} }
func object(l ...json.Member) json.Value {
	return json.Value{Kind: json.Object, Members: l}
}
func member(name string, v json.Value) json.Member { return json.Member{Name: name, Value: v} }

// equal compares all fields, with nil and empty lists as the same.
func equal(a, b json.Value) bool {
	return a.Kind == b.Kind && a.Yes == b.Yes && a.Text == b.Text && slices.EqualFunc(a.List, b.List, equal) &&
		slices.EqualFunc(a.Members, b.Members, func(x, y json.Member) bool { return x.Name == y.Name && equal(x.Value, y.Value) })
}

func isZero(v json.Value) bool { return equal(v, json.Value{}) }

// parsed returns the value of a text that is right.
func parsed(t *testing.T, s string) json.Value {
	t.Helper()
	v, e, at := json.Parse([]byte(s), api.MaxDepth)
	if e != api.OK || at != 0 {
		t.Errorf("Parse(%q): error %d at %d", s, e, at)
	}
	return v
}

func checkParse(t *testing.T, s string, want json.Value) {
	t.Helper()
	checkParseAt(t, s, api.MaxDepth, want)
}

func checkParseAt(t *testing.T, s string, depth int, want json.Value) {
	t.Helper()
	v, e, at := json.Parse([]byte(s), depth)
	if e != api.OK || at != 0 || !equal(v, want) {
		t.Errorf("Parse(%q, %d): got %+v with error %d at %d, want %+v", s, depth, v, e, at, want)
	}
}

func checkSyntax(t *testing.T, s string, at int) {
	t.Helper()
	checkFault(t, s, api.MaxDepth, api.ErrSyntax, at)
}

func checkFault(t *testing.T, s string, depth int, want api.Errno, wantAt int) {
	t.Helper()
	v, e, at := json.Parse([]byte(s), depth)
	if e != want || at != wantAt || !isZero(v) {
		t.Errorf("Parse(%q, %d): got %+v with error %d at %d, want error %d at %d", s, depth, v, e, at, want, wantAt)
	}
}

func checkPrint(t *testing.T, v json.Value, want string) {
	t.Helper()
	if s, e := json.Print(v); e != api.OK || s != want {
		t.Errorf("Print(%+v): got %q with error %d, want %q", v, s, e, want)
	}
}

func checkPretty(t *testing.T, v json.Value, want string) {
	t.Helper()
	if s, e := json.Pretty(v); e != api.OK || s != want {
		t.Errorf("Pretty(%+v): got %q with error %d, want %q", v, s, e, want)
	}
}

// checkDefined holds Parse against what the chapter says, worked out with the library's own JSON.
func checkDefined(t *testing.T, s string, depth int) api.Errno {
	t.Helper()
	e, at := definedFault(s, depth)
	if e == api.OK {
		checkParseAt(t, s, depth, definedValue(s))
	} else {
		checkFault(t, s, depth, e, at)
	}
	return e
}

// definedFault returns the error of a valid string, and where it is.
func definedFault(s string, depth int) (api.Errno, int) {
	e, at := api.OK, len(s)
	if !library.Valid([]byte(s)) {
		e, at = api.ErrSyntax, sort.Search(len(s), func(k int) bool { return !mayGoOn(s[:k+1]) })
	}
	if half := firstLoneHalf(s[:at]); half >= 0 {
		e, at = api.ErrSyntax, half
	}
	if other, place := firstBracketOrName(s[:at], depth); other != api.OK {
		return other, place
	}
	if e == api.OK {
		return api.OK, 0
	}
	return e, at
}

// mayGoOn reports whether some text of a value begins with s: whether one of the ways to end what is begun does it.
func mayGoOn(s string) bool {
	tails := []string{"", "0", "ull", "ll", "l", "rue", "ue", "e", "alse", "lse", "se", ":0", `"":0`}
	for _, end := range []string{`"`, `n"`, `0000"`, `000"`, `00"`, `0"`} {
		tails = append(tails, end, end+":0")
	}
	closing := closingBrackets(s)
	return slices.ContainsFunc(tails, func(tail string) bool { return library.Valid([]byte(s + tail + closing)) })
}

// tokens are strings, brackets and the like, and all else between blanks; a string that is cut off is a single token.
var tokens = regexp.MustCompile(`(?s)"(?:[^"\\]|\\.)*(?:"|\\?$)|[\[\]{},:]|[^ \t\r\n"\[\]{},:]+`)

func closingBrackets(s string) string {
	closing := ""
	for _, token := range tokens.FindAllString(s, -1) {
		switch token {
		case "[":
			closing = "]" + closing
		case "{":
			closing = "}" + closing
		case "]", "}":
			closing = strings.TrimPrefix(closing, token)
		}
	}
	return closing
}

var units = regexp.MustCompile(`(?s)\\u([0-9a-fA-F]{4})|\\.`)

// firstLoneHalf returns the offset of the first `\u` that yields no character, and -1 if there is none. A text that
// ends among the digits of a second `\u` has another error there.
func firstLoneHalf(s string) int {
	for _, place := range tokens.FindAllStringIndex(s, -1) {
		if s[place[0]] != '"' {
			continue
		}
		if at := loneHalfIn(s[place[0]:place[1]]); at >= 0 {
			return place[0] + at
		}
	}
	return -1
}

func loneHalfIn(s string) int {
	high := -1 // where a first half is that ends directly ahead
	for from := 0; ; {
		place := units.FindStringSubmatchIndex(s[from:])
		if high >= 0 && (place == nil || place[0] > 0) {
			return high
		}
		if place == nil {
			return -1
		}
		number := int64(0)
		if place[2] >= 0 {
			number, _ = strconv.ParseInt(s[from+place[2]:from+place[3]], 16, 32)
		}
		low := 0xdc00 <= number && number <= 0xdfff
		switch {
		case high >= 0 && !low && s[from+1] == 'u' && place[2] < 0:
			return -1 // digits are missing there
		case high >= 0 && !low:
			return high
		case high < 0 && low:
			return from + place[0]
		case high < 0 && 0xd800 <= number && number <= 0xdbff:
			high = from + place[0]
		default:
			high = -1
		}
		from += place[1]
	}
}

// firstBracketOrName returns ErrDepth or ErrTwice, whichever is first in a beginning of a text, and where.
func firstBracketOrName(s string, depth int) (api.Errno, int) {
	type bracket struct {
		names  []string
		isName bool // what comes next is a name, if it is a string
	}
	open := []*bracket{{}}
	for _, place := range tokens.FindAllStringIndex(s, -1) {
		token, last := s[place[0]:place[1]], open[len(open)-1]
		switch token[0] {
		case '[', '{':
			if len(open) > depth {
				return api.ErrDepth, place[0]
			}
			open = append(open, &bracket{isName: token == "{"})
		case ']', '}':
			open = open[:len(open)-1]
		case ':':
			last.isName = false
		case ',':
			last.isName = last.names != nil
		case '"':
			name := ""
			if !last.isName || library.Unmarshal([]byte(token), &name) != nil {
				continue
			}
			if slices.Contains(last.names, name) {
				return api.ErrTwice, place[0]
			}
			last.names = append(last.names, name)
		}
	}
	return api.OK, 0
}

// definedValue returns the value of a text that is right, by the library's tokens.
func definedValue(s string) json.Value {
	d := library.NewDecoder(strings.NewReader(s))
	d.UseNumber()
	v := nextValue(d)
	if _, err := d.Token(); err != io.EOF {
		panic(fmt.Sprintf("%q has more than a value", s))
	}
	return v
}

func nextValue(d *library.Decoder) json.Value {
	token, err := d.Token()
	if err != nil {
		panic(err)
	}
	switch x := token.(type) {
	case bool:
		return truth(x)
	case library.Number:
		return number(x.String())
	case string:
		return str(x)
	case library.Delim:
		v := json.Value{Kind: json.Array}
		if x == '{' {
			v.Kind = json.Object
		}
		for d.More() {
			if x == '[' {
				v.List = append(v.List, nextValue(d))
				continue
			}
			name, _ := d.Token()
			v.Members = append(v.Members, member(name.(string), nextValue(d)))
		}
		d.Token()
		return v
	}
	return null()
}

// definedPrint returns the plain text of a valid value.
func definedPrint(v json.Value) string {
	var parts []string
	switch v.Kind {
	case json.Null:
		return "null"
	case json.Truth:
		return fmt.Sprint(v.Yes)
	case json.Number:
		return v.Text
	case json.String:
		return definedQuote(v.Text)
	case json.Array:
		for _, x := range v.List {
			parts = append(parts, definedPrint(x))
		}
		return "[" + strings.Join(parts, ",") + "]"
	}
	for _, m := range v.Members {
		parts = append(parts, definedQuote(m.Name)+":"+definedPrint(m.Value))
	}
	return "{" + strings.Join(parts, ",") + "}"
}

func definedQuote(s string) string {
	pairs := []string{`"`, `\"`, `\`, `\\`, "\x08", `\b`, "\x0c", `\f`, "\x0a", `\n`, "\x0d", `\r`, "\x09", `\t`}
	for b := range 0x20 {
		pairs = append(pairs, string(rune(b)), fmt.Sprintf(`\u%04x`, b)) // the pairs ahead of these come first
	}
	return `"` + strings.NewReplacer(pairs...).Replace(s) + `"`
}

// definedPretty lays the plain text out by the library.
func definedPretty(v json.Value) string {
	var out bytes.Buffer
	if err := library.Indent(&out, []byte(definedPrint(v)), "", "  "); err != nil {
		panic(err)
	}
	return out.String() + "\n"
}

// randomValue returns a valid value, with at most so many levels.
func randomValue(random *rand.Rand, levels int) json.Value {
	kind := random.Intn(8)
	if levels < 2 {
		kind = random.Intn(4)
	}
	switch kind {
	case 0:
		return null()
	case 1:
		return truth(random.Intn(2) == 0)
	case 2:
		return number(randomNumber(random))
	case 3:
		return str(randomString(random))
	case 4, 5:
		v := json.Value{Kind: json.Array}
		for range random.Intn(4) {
			v.List = append(v.List, randomValue(random, levels-1))
		}
		return v
	}
	v := json.Value{Kind: json.Object}
	for range random.Intn(5) {
		name := randomName(random)
		if !slices.ContainsFunc(v.Members, func(m json.Member) bool { return m.Name == name }) {
			v.Members = append(v.Members, member(name, randomValue(random, levels-1)))
		}
	}
	return v
}

func randomNumber(random *rand.Rand) string {
	pick := func(l ...string) string { return l[random.Intn(len(l))] }
	return pick("", "-") + pick("0", "1", "9", "10", "907", "9007199254740992") + pick("", "", ".0", ".5", ".007") + pick("", "", "e1", "E0", "e+10", "E-07")
}

func randomName(random *rand.Rand) string {
	if random.Intn(4) > 0 {
		return []string{"", "a", "b", "c", "d", "ab"}[random.Intn(6)]
	}
	return randomString(random)
}

// randomString returns characters of all sizes and bytes that are escaped.
func randomString(random *rand.Rand) string {
	var out strings.Builder
	for range random.Intn(6) {
		switch random.Intn(6) {
		case 0:
			out.WriteByte(byte(random.Intn(0x20)))
		case 1:
			out.WriteByte(`"\/[]{},:`[random.Intn(9)])
		case 2:
			out.WriteRune(rune(0x80 + random.Intn(0x800)))
		case 3:
			out.WriteRune([]rune{0x7f, 0x2028, 0xd7ff, 0xe000, 0xfffd, 0xffff, 0x10000, 0x1f600, utf8.MaxRune}[random.Intn(9)])
		default:
			out.WriteByte(byte(0x20 + random.Intn(0x5f)))
		}
	}
	return out.String()
}
