package text_test

import (
	"fmt"
	"math/rand"
	"net/url"
	"slices"
	"strings"
	"testing"
	"unicode/utf8"
	"unsafe"

	"klaxon/api"
	"klaxon/text"
)

// The calls keep the signatures that the chapter lists.
var (
	_ func(string) bool                        = text.Told
	_ func(string) int                         = text.Wrong
	_ func(string) string                      = text.Escape
	_ func(string) (string, api.Errno)         = text.Unescape
	_ func(string) ([]text.Pair, api.Errno)    = text.Form
	_ func([]text.Pair) string                 = text.Show
	_ func([]text.Pair, string) (string, bool) = text.Get
	_                                          = text.Pair{Name: "", Value: ""}
)

// between is a range of bytes, both ends included.
type between struct{ low, high byte }

var rest = between{0x80, 0xbf}

// characters are the chapter's characters, byte by byte.
var characters = [][]between{
	{{0x00, 0x7f}},
	{{0xc2, 0xdf}, rest},
	{{0xe0, 0xe0}, {0xa0, 0xbf}, rest},
	{{0xe1, 0xec}, rest, rest},
	{{0xee, 0xef}, rest, rest},
	{{0xed, 0xed}, {0x80, 0x9f}, rest},
	{{0xf0, 0xf0}, {0x90, 0xbf}, rest, rest},
	{{0xf1, 0xf3}, rest, rest, rest},
	{{0xf4, 0xf4}, {0x80, 0x8f}, rest, rest},
}

// beginsWith reports whether s begins with a character of that kind.
func beginsWith(s string, kind []between) bool {
	if len(s) < len(kind) {
		return false
	}
	for i, b := range kind {
		if s[i] < b.low || s[i] > b.high {
			return false
		}
	}
	return true
}

// definedWrong works Wrong out as the chapter tells it.
func definedWrong(s string) int {
	at := 0
next:
	for at < len(s) {
		for _, kind := range characters {
			if beginsWith(s[at:], kind) {
				at += len(kind)
				continue next
			}
		}
		return at
	}
	return -1
}

func checkWrong(t *testing.T, s string, want int) {
	t.Helper()
	if got := text.Wrong(s); got != want {
		t.Errorf("Wrong(%q): got %d, want %d", s, got, want)
	}
	if got := text.Told(s); got != (want == -1) {
		t.Errorf("Told(%q): got %v, and Wrong is to be %d", s, got, want)
	}
}

// P5.1: known strings, with the offsets written out.
func TestWrongKnown(t *testing.T) {
	for _, c := range []struct {
		s    string
		want int
	}{
		{"", -1}, {"a", -1}, {"\x00", -1}, {"\x7f", -1}, {"abc\r\n\t", -1},
		{"é", -1}, {"€", -1}, {"😀", -1}, {"aé€😀z", -1}, {"\uFFFD", -1}, {"a\uFFFDb", -1}, {"\uFEFF", -1}, {"\uFFFF", -1},
		{"\xc2\x80", -1}, {"\xdf\xbf", -1}, {"\xe0\xa0\x80", -1}, {"\xe0\xbf\xbf", -1}, {"\xed\x80\x80", -1}, {"\xed\x9f\xbf", -1},
		{"\xee\x80\x80", -1}, {"\xef\xbf\xbf", -1}, {"\xf0\x90\x80\x80", -1}, {"\xf0\xbf\xbf\xbf", -1}, {"\xf4\x80\x80\x80", -1}, {"\xf4\x8f\xbf\xbf", -1},
		{"\x80", 0}, {"\xbf", 0}, {"\xc0", 0}, {"\xff", 0}, {"a\x80", 1}, {"é\x80", 2}, {"€\x80", 3}, {"😀\x80", 4},
		{"\xc0\x80", 0}, {"\xc1\xbf", 0}, {"\xc2\x7f", 0}, {"\xc2\xc0", 0}, {"\xdf\x7f", 0}, {"\xdf\xc0", 0},
		{"\xe0\x80\x80", 0}, {"\xe0\x9f\xbf", 0}, {"\xe0\xc0\x80", 0}, {"\xed\xa0\x80", 0}, {"\xed\xbf\xbf", 0},
		{"\xe1\x7f\x80", 0}, {"\xe1\x80\x7f", 0}, {"\xe1\x80\xc0", 0}, {"\xef\xbf\xc0", 0},
		{"\xf0\x80\x80\x80", 0}, {"\xf0\x8f\xbf\xbf", 0}, {"\xf4\x90\x80\x80", 0}, {"\xf4\xbf\xbf\xbf", 0},
		{"\xf5\x80\x80\x80", 0}, {"\xf7\xbf\xbf\xbf", 0}, {"\xf8\x88\x80\x80\x80", 0}, {"\xfc\x84\x80\x80\x80\x80", 0}, {"\xfe", 0},
		{"a\xc3", 1}, {"ab\xe2\x82", 2}, {"ab\xe2\x82c", 2}, {"ab\xf0\x9f\x98", 2}, {"é\xed\xa0\x80é", 2}, {"ok\xffok\xff", 2}, {"€\xc3é", 3},
	} {
		checkWrong(t, c.s, c.want)
	}
}

// P5.1: each string of one, of two and, of bytes beside the bounds, of three and four bytes: alone, and among valid
// characters.
func TestWrongEveryShortString(t *testing.T) {
	for x := range 256 {
		checkAmongCharacters(t, string([]byte{byte(x)}))
		for y := range 256 {
			checkAmongCharacters(t, string([]byte{byte(x), byte(y)}))
		}
	}
	for _, a := range edges() {
		for _, b := range edges() {
			for _, c := range edges() {
				checkAmongCharacters(t, string([]byte{a, b, c}))
				if a < 0xe0 {
					continue // a fourth byte tells nothing new there
				}
				for _, d := range edges() {
					s := string([]byte{a, b, c, d})
					checkWrong(t, s, definedWrong(s))
				}
			}
		}
	}
}

// edges are the bytes at and beside each bound that the chapter names, and all first bytes from c0 on.
func edges() []byte {
	l := []byte{0x00, 0x01, 0x20, 0x41, 0x7e, 0x7f, 0x80, 0x81, 0x8e, 0x8f, 0x90, 0x91, 0x9e, 0x9f, 0xa0, 0xa1, 0xbe, 0xbf, 0xc0, 0xc1, 0xc2, 0xc3, 0xde, 0xdf}
	for b := 0xe0; b <= 0xff; b++ {
		l = append(l, byte(b))
	}
	return l
}

// checkAmongCharacters holds Wrong against the definition for s alone, behind and ahead of valid characters.
func checkAmongCharacters(t *testing.T, s string) {
	t.Helper()
	want := definedWrong(s)
	checkWrong(t, s, want)
	for _, valid := range []string{"a", "é", "€", "😀", "\uFFFD"} {
		behind := want
		if want >= 0 {
			behind = len(valid) + want
		}
		checkWrong(t, valid+s, behind)
		// Each of these begins with a byte that ends no character.
		checkWrong(t, s+valid, want)
	}
}

// P5.1: a character of four bytes, at and beside its bounds, alone, behind and ahead of valid characters.
func TestWrongFourBytesAmongCharacters(t *testing.T) {
	for _, a := range []byte{0xef, 0xf0, 0xf1, 0xf3, 0xf4, 0xf5, 0xf6, 0xf7, 0xf8, 0xfb, 0xfc, 0xfd, 0xfe, 0xff} {
		for _, b := range []byte{0x7f, 0x80, 0x8f, 0x90, 0x9f, 0xa0, 0xbf, 0xc0} {
			for _, c := range []byte{0x7f, 0x80, 0xbf, 0xc0} {
				for _, d := range []byte{0x7f, 0x80, 0xbf, 0xc0} {
					checkAmongCharacters(t, string([]byte{a, b, c, d}))
				}
			}
		}
	}
}

// P5.1: each character that there is; cut off, it is wrong at its first byte; the halves of surrogates are none.
func TestWrongEveryCharacter(t *testing.T) {
	count := 0
	for r := rune(0); r <= utf8.MaxRune; r++ {
		if 0xd800 <= r && r <= 0xdfff {
			half := string([]byte{0xed, byte(0x80 | r>>6&0x3f), byte(0x80 | r&0x3f)})
			checkWrong(t, "a"+half, 1)
			continue
		}
		count++
		s := string(r)
		checkWrong(t, s, -1)
		for cut := 1; cut < len(s); cut++ {
			checkWrong(t, s[:cut], 0)
			checkWrong(t, s[cut:], 0)
			checkWrong(t, s+s[:cut], len(s))
			checkWrong(t, s[:cut]+"a", 0)
		}
	}
	if count != 0x110000-0x800 {
		t.Errorf("%d characters", count)
	}
}

// P5.1: random mixtures of characters and of bytes, by the definition and beside the library.
func TestWrongRandom(t *testing.T) {
	random := rand.New(rand.NewSource(1))
	for range 50000 {
		s := randomString(random, 12)
		checkWrong(t, s, definedWrong(s))
		if text.Told(s) != utf8.ValidString(s) {
			t.Errorf("Told(%q) differs from the library", s)
		}
	}
}

// randomString returns characters of all sizes, and now and then a byte that may be none.
func randomString(random *rand.Rand, most int) string {
	var s strings.Builder
	for range random.Intn(most + 1) {
		switch random.Intn(8) {
		case 0:
			s.WriteByte(byte(random.Intn(256)))
		case 1, 2:
			s.WriteRune(rune(random.Intn(0x800)))
		case 3:
			s.WriteRune(rune(random.Intn(0xd800)))
		case 4:
			s.WriteRune(rune(0x10000 + random.Intn(0x100000)))
		default:
			s.WriteByte(byte(random.Intn(128)))
		}
	}
	return s.String()
}

// definedEscape works a byte's escape out as the chapter tells it.
func definedEscape(b byte) string {
	const plain = "ABCDEFGHIJKLMNOPQRSTUVWXYZabcdefghijklmnopqrstuvwxyz0123456789-._*"
	switch {
	case strings.IndexByte(plain, b) >= 0:
		return string([]byte{b})
	case b == ' ':
		return "+"
	}
	return fmt.Sprintf("%%%02X", b)
}

func checkEscape(t *testing.T, s string, want string) {
	t.Helper()
	if got := text.Escape(s); got != want {
		t.Errorf("Escape(%q): got %q, want %q", s, got, want)
	}
}

func checkUnescape(t *testing.T, s string, want string) {
	t.Helper()
	if got, e := text.Unescape(s); e != api.OK || got != want {
		t.Errorf("Unescape(%q): got %q with error %d, want %q", s, got, e, want)
	}
}

func checkUnescapeError(t *testing.T, s string, want api.Errno) {
	t.Helper()
	if got, e := text.Unescape(s); e != want || got != "" {
		t.Errorf("Unescape(%q): got %q with error %d, want error %d and nothing", s, got, e, want)
	}
}

// P5.2: the chapter's example, and others with their escapes written out.
func TestEscapeKnown(t *testing.T) {
	for _, c := range []struct{ s, want string }{
		{"", ""}, {"a b&c", "a+b%26c"}, {" ", "+"}, {"  ", "++"}, {"+", "%2B"}, {"%", "%25"}, {"%41", "%2541"}, {"a+b", "a%2Bb"},
		{"AZaz09-._*", "AZaz09-._*"}, {"~!", "%7E%21"}, {"@[`{/:,", "%40%5B%60%7B%2F%3A%2C"}, {"=", "%3D"},
		{"\x00\x1f\x7f", "%00%1F%7F"}, {"\n", "%0A"}, {"é", "%C3%A9"}, {"€", "%E2%82%AC"}, {"😀", "%F0%9F%98%80"}, {"\xff", "%FF"}, {"\x80a", "%80a"},
	} {
		checkEscape(t, c.s, c.want)
	}
}

// P5.2: each byte from 0 to 255 escaped, alone and among others, and unescaped again.
func TestEveryByteEscaped(t *testing.T) {
	for x := range 256 {
		b := byte(x)
		s, escaped := string([]byte{b}), definedEscape(b)
		checkEscape(t, s, escaped)
		checkEscape(t, "a "+s+"é", "a+"+escaped+"%C3%A9")
		for y := range 256 {
			checkEscape(t, s+string([]byte{byte(y)}), escaped+definedEscape(byte(y)))
		}
		for _, form := range []string{escaped, fmt.Sprintf("%%%02X", b), fmt.Sprintf("%%%02x", b)} {
			if b < 0x80 {
				checkUnescape(t, form, s)
				checkUnescape(t, "x+"+form+"%20y", "x "+s+" y")
			} else {
				checkUnescapeError(t, form, api.ErrText)
				checkUnescapeError(t, "x"+form, api.ErrText)
				checkUnescapeError(t, form+"y", api.ErrText)
			}
		}
	}
}

// P5.2: each byte in what is unescaped stands for itself, for a space, or may not occur.
func TestEveryByteUnescaped(t *testing.T) {
	for x := range 256 {
		s := string([]byte{byte(x)})
		switch {
		case x == '+':
			checkUnescape(t, s, " ")
			checkUnescape(t, "a"+s+"b", "a b")
		case x < 0x21 || x > 0x7e || x == '%' || x == '&' || x == '=':
			checkUnescapeError(t, s, api.ErrSyntax)
			checkUnescapeError(t, "a"+s, api.ErrSyntax)
			checkUnescapeError(t, s+"xy", api.ErrSyntax)
			checkUnescapeError(t, "a%20"+s+"+", api.ErrSyntax)
		default:
			checkUnescape(t, s, s)
			checkUnescape(t, "a"+s+"b", "a"+s+"b")
		}
	}
}

// P5.2: `%` and any two bytes, and what follows them.
func TestPercentAndTwoBytes(t *testing.T) {
	const digits, capitals = "0123456789abcdef", "0123456789ABCDEF"
	value := func(b int) int {
		if i := strings.IndexByte(digits, byte(b)); i >= 0 {
			return i
		}
		return strings.IndexByte(capitals, byte(b))
	}
	for x := range 256 {
		for y := range 256 {
			s := string([]byte{'%', byte(x), byte(y)})
			high, low := value(x), value(y)
			switch {
			case high < 0 || low < 0:
				checkUnescapeError(t, s, api.ErrSyntax)
				checkUnescapeError(t, "a"+s+"41", api.ErrSyntax)
			case high < 8:
				checkUnescape(t, s, string([]byte{byte(high<<4 | low)}))
				checkUnescape(t, s+"41", string([]byte{byte(high<<4 | low)})+"41")
			default:
				checkUnescapeError(t, s, api.ErrText)
			}
		}
		checkUnescapeError(t, string([]byte{'%', byte(x)}), api.ErrSyntax)
		checkUnescapeError(t, string([]byte{'a', '%', byte(x)}), api.ErrSyntax)
	}
}

// P5.2: wrong strings one by one; what may not occur comes ahead of a result that is not valid.
func TestUnescapeWrong(t *testing.T) {
	for _, s := range []string{
		"%", "%%", "%%%", "%4", "%g1", "%4g", "%G1", "%4G", "%+1", "%1+", "% 1", "%-1", "%0x", "%x41", "%u0041", "a%", "a%4", "41%", "%41%", "%41%4", "%%41", "%4%41", "%é",
		" ", "a b", " a", "a ", "\t", "a\n", "\r\n", "\x00", "\x1f", "\x7f", "\x80", "\xff", "é", "aé", "&", "a&b", "=", "a=b", "a=", "=a",
		"%ff ", " %ff", "%ff%", "%ff%4", "%ff&", "=%ff", "%C3é", "%ff\xff", "\x80%80", "%C3%", "%80%zz",
	} {
		checkUnescapeError(t, s, api.ErrSyntax)
	}
	for _, s := range []string{
		"%80", "%ff", "%FF", "%C3", "a%c3", "%C3a", "%C3+%A9", "%A9%C3", "%C0%80", "%E0%9F%BF", "%ED%A0%80", "%F0%8F%BF%BF", "%F4%90%80%80", "%F5%80%80%80", "%E2%82", "ok+%ff+ok",
	} {
		checkUnescapeError(t, s, api.ErrText)
	}
}

func TestUnescapeKnown(t *testing.T) {
	for _, c := range []struct{ s, want string }{
		{"", ""}, {"a+b%26c", "a b&c"}, {"%C3%A9", "é"}, {"%c3%a9", "é"}, {"%c3%A9", "é"}, {"%E2%82%AC", "€"}, {"%f0%9F%98%80", "😀"}, {"%EF%BF%BD", "\uFFFD"},
		{"+", " "}, {"%20", " "}, {"%2B", "+"}, {"%2b", "+"}, {"%25", "%"}, {"%2541", "%41"}, {"%25%34%31", "%41"}, {"%00", "\x00"}, {"%7f", "\x7f"}, {"%3d%26", "=&"},
		{"!\"#$'()*,-./:;<>?@[\\]^_`{|}~", "!\"#$'()*,-./:;<>?@[\\]^_`{|}~"},
	} {
		checkUnescape(t, c.s, c.want)
	}
}

// P5.2: what is escaped is unescaped to itself, if it is valid; beside the library's escapes.
func TestEscapeRandom(t *testing.T) {
	random := rand.New(rand.NewSource(2))
	for range 50000 {
		s := randomString(random, 12)
		want := ""
		for i := range len(s) {
			want += definedEscape(s[i])
		}
		checkEscape(t, s, want)
		library := strings.ReplaceAll(strings.ReplaceAll(url.QueryEscape(s), "~", "%7E"), "%2A", "*")
		checkEscape(t, s, library)
		if utf8.ValidString(s) {
			checkUnescape(t, want, s)
		} else {
			checkUnescapeError(t, want, api.ErrText)
		}
		u, e := definedUnescape(s)
		if e == api.OK {
			checkUnescape(t, s, u)
		} else {
			checkUnescapeError(t, s, e)
		}
	}
}

// definedUnescape works Unescape out by what the library makes of the escapes.
func definedUnescape(s string) (string, api.Errno) {
	for i := range len(s) {
		if s[i] < 0x21 || s[i] > 0x7e || s[i] == '&' || s[i] == '=' {
			return "", api.ErrSyntax
		}
	}
	u, err := url.QueryUnescape(s)
	if err != nil {
		return "", api.ErrSyntax
	}
	if definedWrong(u) >= 0 {
		return "", api.ErrText
	}
	return u, api.OK
}

func checkForm(t *testing.T, s string, want ...text.Pair) {
	t.Helper()
	if got, e := text.Form(s); e != api.OK || !slices.Equal(got, want) {
		t.Errorf("Form(%q): got %q with error %d, want %q", s, got, e, want)
	}
}

func checkFormError(t *testing.T, s string, want api.Errno) {
	t.Helper()
	if got, e := text.Form(s); e != want || len(got) != 0 {
		t.Errorf("Form(%q): got %q with error %d, want error %d and no pairs", s, got, e, want)
	}
}

// P5.3: the chapter's example, and others.
func TestFormKnown(t *testing.T) {
	checkForm(t, "")
	checkForm(t, "x=1&y=%C3%A9", text.Pair{Name: "x", Value: "1"}, text.Pair{Name: "y", Value: "\xc3\xa9"})
	checkForm(t, "x=", text.Pair{Name: "x"})
	checkForm(t, "x=&y=", text.Pair{Name: "x"}, text.Pair{Name: "y"})
	checkForm(t, "y=2&x=1", text.Pair{Name: "y", Value: "2"}, text.Pair{Name: "x", Value: "1"})
	checkForm(t, "a+b=c+d", text.Pair{Name: "a b", Value: "c d"})
	checkForm(t, "%26=%3d&%3D=%26", text.Pair{Name: "&", Value: "="}, text.Pair{Name: "=", Value: "&"})
	checkForm(t, "a%3Db=1%26c%3D2", text.Pair{Name: "a=b", Value: "1&c=2"})
	checkForm(t, "+=+", text.Pair{Name: " ", Value: " "})
	checkForm(t, "%00=%00", text.Pair{Name: "\x00", Value: "\x00"})
	checkForm(t, "x=1;y", text.Pair{Name: "x", Value: "1;y"})
	checkForm(t, "a=v&A=v&aa=v", text.Pair{Name: "a", Value: "v"}, text.Pair{Name: "A", Value: "v"}, text.Pair{Name: "aa", Value: "v"})
}

// P5.3: each error by itself, in a first and in a later part.
func TestFormErrors(t *testing.T) {
	for _, c := range []struct {
		part string
		want api.Errno
	}{
		{"a", api.ErrSyntax}, {"a%3D1", api.ErrSyntax}, {"a==", api.ErrSyntax}, {"==", api.ErrSyntax}, {"a=b=c", api.ErrSyntax}, {"=a=", api.ErrSyntax}, {"===", api.ErrSyntax},
		{"%=1", api.ErrSyntax}, {"a=%", api.ErrSyntax}, {"a=%4", api.ErrSyntax}, {"%g0=1", api.ErrSyntax}, {"a=b c", api.ErrSyntax}, {"a b=c", api.ErrSyntax}, {"é=1", api.ErrSyntax}, {"a=é", api.ErrSyntax}, {"a=1\n", api.ErrSyntax}, {"\x00=1", api.ErrSyntax},
		{"%ff=1", api.ErrText}, {"a=%ff", api.ErrText}, {"%C3=%A9", api.ErrText}, {"a=%ED%A0%80", api.ErrText},
		{"=", api.ErrForm}, {"=1", api.ErrForm}, {"=%20", api.ErrForm},
	} {
		checkFormError(t, c.part, c.want)
		checkFormError(t, "x=1&"+c.part, c.want)
		checkFormError(t, c.part+"&y=2", c.want)
		checkFormError(t, "x=1&"+c.part+"&y=2", c.want)
	}
}

// P5.3: a part that is empty has no `=`.
func TestFormEmptyParts(t *testing.T) {
	for _, s := range []string{"&", "&&", "a=1&", "&a=1", "a=1&&b=2", "a=1&b=2&", "&a=1&"} {
		checkFormError(t, s, api.ErrSyntax)
	}
}

// P5.3: of two errors of one part, the one that the promise names first; of two parts, the first one's.
func TestFormOrderOfErrors(t *testing.T) {
	for _, c := range []struct {
		s    string
		want api.Errno
	}{
		{"%ff=%ff=1", api.ErrSyntax},           // the number of `=` ahead of the name's error
		{"%ff", api.ErrSyntax},                 // as well where there is none
		{"%ff=%", api.ErrText},                 // the name's error ahead of the value's
		{"%=%ff", api.ErrSyntax},               // likewise
		{"=%", api.ErrSyntax},                  // the value's error ahead of the empty name
		{"=%ff", api.ErrText},                  // likewise
		{"a=1&a=%", api.ErrSyntax},             // the value's error ahead of the name that is there twice
		{"a=1&a=%ff", api.ErrText},             // likewise
		{"a=1&a=2=3", api.ErrSyntax},           // the number of `=` ahead of the name that is there twice
		{"a=1&a", api.ErrSyntax},               // likewise
		{"=1&=2", api.ErrForm},                 // the empty name of the first part
		{"=1&a", api.ErrForm},                  // the first part's error, though the second one's is named ahead of it
		{"a=%ff&b", api.ErrText},               // likewise
		{"a=1&a=2&%", api.ErrTwice},            // likewise
		{"a=1&a=2&=1", api.ErrTwice},           // likewise
		{"a=1&=2&a=3", api.ErrForm},            // the second part's error ahead of the third one's
		{"a=1&b=2&a=%ff&b=%", api.ErrText},     // likewise
		{"a&" + manyPairs(40), api.ErrSyntax},  // the first part's error ahead of the number of parts
		{"=1&" + manyPairs(40), api.ErrForm},   // likewise
		{"%ff=&" + manyPairs(40), api.ErrText}, // likewise
		{"a=&a=&" + manyPairs(40), api.ErrTwice},
	} {
		checkFormError(t, c.s, c.want)
	}
}

// P5.3: names that are there twice, next to each other or not, and however they are escaped.
func TestFormTwice(t *testing.T) {
	for _, s := range []string{
		"a=1&a=2", "a=1&a=1", "a=&a=", "a=1&b=2&a=3", "a=1&b=2&b=3", "a=1&b=2&c=3&b=4",
		"a=1&%61=2", "%61=1&a=2", "+=1&%20=2", "%c3%a9=1&%C3%A9=2", "%7e=1&~=2", "%2a=&*=", "a+b=1&a%20b=2", "%00=1&%00=2",
		manyPairs(31) + "&p0=", manyPairs(31) + "&p30=",
	} {
		checkFormError(t, s, api.ErrTwice)
	}
}

// manyPairs returns a form of n pairs with different names.
func manyPairs(n int) string {
	var parts []string
	for i := range n {
		parts = append(parts, fmt.Sprintf("p%d=v%d", i, i))
	}
	return strings.Join(parts, "&")
}

// P5.3: up to MaxPairs pairs; one part more is refused ahead of whatever it is.
func TestFormNumberOfPairs(t *testing.T) {
	for n := range api.MaxPairs + 1 {
		var want []text.Pair
		for i := range n {
			want = append(want, text.Pair{Name: fmt.Sprintf("p%d", i), Value: fmt.Sprintf("v%d", i)})
		}
		checkForm(t, manyPairs(n), want...)
	}
	full := manyPairs(32)
	for _, part := range []string{"x=1", "", "x", "x==", "%=1", "x=%", "%ff=1", "x=%ff", "=1", "=", "p0=1", "p31=1", "x=1&y=2", "&", "é"} {
		checkFormError(t, full+"&"+part, api.ErrFull)
	}
	for _, n := range []int{33, 34, 64, 1000} {
		checkFormError(t, manyPairs(n), api.ErrFull)
	}
	for _, c := range []struct {
		last string
		want api.Errno
	}{{"", api.ErrSyntax}, {"x", api.ErrSyntax}, {"x=%ff", api.ErrText}, {"=1", api.ErrForm}, {"p5=1", api.ErrTwice}} {
		checkFormError(t, manyPairs(31)+"&"+c.last, c.want)
		checkFormError(t, manyPairs(31)+"&"+c.last+"&x=1", c.want)
	}
}

// definedForm works Form out as the chapter tells it.
func definedForm(s string) ([]text.Pair, api.Errno) {
	if s == "" {
		return nil, api.OK
	}
	var pairs []text.Pair
	names := map[string]bool{}
	for i, part := range strings.Split(s, "&") {
		if i >= 32 {
			return nil, api.ErrFull
		}
		sides := strings.Split(part, "=")
		if len(sides) != 2 {
			return nil, api.ErrSyntax
		}
		name, e := definedUnescape(sides[0])
		if e != api.OK {
			return nil, e
		}
		value, e := definedUnescape(sides[1])
		if e != api.OK {
			return nil, e
		}
		if name == "" {
			return nil, api.ErrForm
		}
		if names[name] {
			return nil, api.ErrTwice
		}
		names[name] = true
		pairs = append(pairs, text.Pair{Name: name, Value: value})
	}
	return pairs, api.OK
}

// P5.3: random forms, most of them with few faults, by the definition.
func TestFormRandom(t *testing.T) {
	random := rand.New(rand.NewSource(3))
	sound := []string{"a", "b", "c", "d", "%61", "%62", "+", "%20", "%C3%A9", "~", "12"}
	odd := []string{"&", "=", "%", "%ff", " ", "é", "\x00", "%C3"}
	met := map[api.Errno]int{}
	for range 100000 {
		var s strings.Builder
		faults := random.Intn(3) * 4
		word := func(least int) {
			for range least + random.Intn(4) {
				s.WriteString(sound[random.Intn(len(sound))])
			}
			if random.Intn(100) < faults {
				s.WriteString(odd[random.Intn(len(odd))])
			}
		}
		for i := range random.Intn(6) {
			if i > 0 {
				s.WriteByte('&')
			}
			word(min(1, random.Intn(20)))
			s.WriteByte('=')
			word(0)
		}
		want, e := definedForm(s.String())
		met[e]++
		if e == api.OK {
			checkForm(t, s.String(), want...)
		} else {
			checkFormError(t, s.String(), e)
		}
	}
	for _, e := range []api.Errno{api.OK, api.ErrSyntax, api.ErrText, api.ErrForm, api.ErrTwice} {
		if met[e] < 100 {
			t.Errorf("only %d random forms with error %d", met[e], e)
		}
	}
}

func checkShow(t *testing.T, want string, l ...text.Pair) {
	t.Helper()
	if got := text.Show(l); got != want {
		t.Errorf("Show(%q): got %q, want %q", l, got, want)
	}
}

// P5.3: the form of pairs, whatever is in them, and however many there are.
func TestShow(t *testing.T) {
	checkShow(t, "")
	checkShow(t, "x=1&y=%C3%A9", text.Pair{Name: "x", Value: "1"}, text.Pair{Name: "y", Value: "é"})
	checkShow(t, "y=1&x=2", text.Pair{Name: "y", Value: "1"}, text.Pair{Name: "x", Value: "2"})
	checkShow(t, "a+b=c%26d", text.Pair{Name: "a b", Value: "c&d"})
	checkShow(t, "a%3Db=%3D", text.Pair{Name: "a=b", Value: "="})
	checkShow(t, "=", text.Pair{})
	checkShow(t, "=&=", text.Pair{}, text.Pair{})
	checkShow(t, "=v&n=", text.Pair{Value: "v"}, text.Pair{Name: "n"})
	checkShow(t, "a=1&a=2", text.Pair{Name: "a", Value: "1"}, text.Pair{Name: "a", Value: "2"})
	checkShow(t, "%FF=%80", text.Pair{Name: "\xff", Value: "\x80"})
	if text.Show(nil) != "" || text.Show([]text.Pair{}) != "" {
		t.Error("the form of no pairs is not empty")
	}
	var many []text.Pair
	for i := range 40 {
		many = append(many, text.Pair{Name: fmt.Sprintf("p%d", i), Value: fmt.Sprintf("v%d", i)})
	}
	checkShow(t, manyPairs(40), many...)
}

// P5.3: what Show writes, Form reads again, if the names and values are such as a form has.
func TestShowIsReadAgain(t *testing.T) {
	random := rand.New(rand.NewSource(4))
	for range 20000 {
		l := make([]text.Pair, random.Intn(5))
		for i := range l {
			l[i] = text.Pair{Name: randomString(random, 3), Value: randomString(random, 6)}
		}
		e := firstFault(l)
		if e == api.OK {
			checkForm(t, text.Show(l), l...)
		} else {
			checkFormError(t, text.Show(l), e)
		}
	}
}

// firstFault returns the error that Form returns for the form of l.
func firstFault(l []text.Pair) api.Errno {
	for i, pair := range l {
		if !utf8.ValidString(pair.Name) || !utf8.ValidString(pair.Value) {
			return api.ErrText
		}
		if pair.Name == "" {
			return api.ErrForm
		}
		if slices.ContainsFunc(l[:i], func(earlier text.Pair) bool { return earlier.Name == pair.Name }) {
			return api.ErrTwice
		}
	}
	return api.OK
}

func checkGet(t *testing.T, l []text.Pair, name string, want string, there bool) {
	t.Helper()
	if got, ok := text.Get(l, name); got != want || ok != there {
		t.Errorf("Get(%q, %q): got %q, %v, want %q, %v", l, name, got, ok, want, there)
	}
}

// P5.3: the first pair with the name, wherever it is, and whatever its value.
func TestGet(t *testing.T) {
	l := []text.Pair{{Name: "a", Value: "1"}, {Name: "b", Value: ""}, {Name: "", Value: "none"}, {Name: "a", Value: "2"}, {Name: "b", Value: "3"}, {Name: "é", Value: "\xff"}, {Name: "\xff", Value: "last"}}
	checkGet(t, l, "a", "1", true)
	checkGet(t, l, "b", "", true)
	checkGet(t, l, "", "none", true)
	checkGet(t, l, "é", "\xff", true)
	checkGet(t, l, "\xff", "last", true)
	checkGet(t, l[1:], "a", "2", true)
	for _, name := range []string{"c", "A", "aa", "a ", "%61", "1", "\x00", "\xc3"} {
		checkGet(t, l, name, "", false)
	}
	checkGet(t, l[:2], "", "", false)
	for _, empty := range [][]text.Pair{nil, {}, l[:0]} {
		checkGet(t, empty, "a", "", false)
		checkGet(t, empty, "", "", false)
	}
}

// P1: every call ends and does not panic, for long strings and for many pairs.
func TestLong(t *testing.T) {
	const size = 1 << 20
	for _, part := range []string{"a", "é", "€", "😀", " ", "+", "%", "&", "=", "%41", "%ff", "a=&", "\x00", "\x80", "\xff", "\xf0\x9f"} {
		s := strings.Repeat(part, size/len(part))
		if got, want := text.Wrong(s), definedWrong(s); got != want {
			t.Errorf("Wrong of many %q: got %d, want %d", part, got, want)
		}
		if escaped := text.Escape(s); escaped != strings.Repeat(text.Escape(part), size/len(part)) {
			t.Errorf("Escape of many %q is wrong", part)
		}
		wantText, wantError := definedUnescape(s)
		if got, e := text.Unescape(s); got != wantText || e != wantError {
			t.Errorf("Unescape of many %q: error %d, want %d", part, e, wantError)
		}
		for _, form := range []string{s, "a=" + s, s + "=a"} {
			want, wantError := definedForm(form)
			if got, e := text.Form(form); e != wantError || !slices.Equal(got, want) {
				t.Errorf("Form with many %q: error %d, want %d", part, e, wantError)
			}
		}
	}
	many := make([]text.Pair, size)
	if got := text.Show(many); got != strings.Repeat("=&", size-1)+"=" {
		t.Error("Show of many pairs is wrong")
	}
	checkGet(t, append(many, text.Pair{Name: "a", Value: "b"}), "a", "b", true)
}

// changeable returns s as a string whose bytes the test can change behind it.
func changeable(s string) (string, []byte) {
	b := []byte("<" + s + ">")
	return unsafe.String(&b[1], len(s)), b
}

// Rules, Memory: arguments are neither changed nor kept: results do not change with the bytes of a string.
func TestStringsAreNotKept(t *testing.T) {
	for _, s := range []string{"a", "ab", "abc", "abcdefghijklmnopqrstuvwxyz0123456789", "a+b", "%C3%A9", "-._*"} {
		given, memory := changeable(s)
		escaped := text.Escape(given)
		unescaped, _ := text.Unescape(given)
		wantEscaped, wantUnescaped := strings.Clone(text.Escape(s)), strings.Clone(unescaped)
		if string(memory) != "<"+s+">" {
			t.Errorf("%q: an argument or its surroundings changed", s)
		}
		spoil(memory)
		if escaped != wantEscaped || unescaped != wantUnescaped {
			t.Errorf("%q: a result shares memory with its argument", s)
		}

		given, memory = changeable(s + "=" + s + "&z=" + s)
		pairs, e := text.Form(given)
		spoil(memory)
		if want := []text.Pair{{Name: wantUnescaped, Value: wantUnescaped}, {Name: "z", Value: wantUnescaped}}; e != api.OK || !slices.Equal(pairs, want) {
			t.Errorf("%q: the pairs of a form share memory with it", s)
		}

		name, nameMemory := changeable(s)
		value, valueMemory := changeable(s)
		l := []text.Pair{{Name: name, Value: value}}
		shown := text.Show(l)
		got, ok := text.Get(l, name)
		spoil(nameMemory)
		spoil(valueMemory)
		if shown != wantEscaped+"="+wantEscaped || !ok || got != s {
			t.Errorf("%q: a result shares memory with a pair", s)
		}
	}
}

func spoil(b []byte) {
	b = b[:cap(b)]
	for i := range b {
		b[i] = 0xa5
	}
}

// Rules, Memory: no two results, and no two strings of one result, share memory.
func TestResultsAreNotShared(t *testing.T) {
	for _, s := range []string{"a", "ab", "abcdefghijklmnopqrstuvwxyz0123456789", "+", "%41"} {
		var results []string
		for range 2 {
			unescaped, _ := text.Unescape(s)
			got, _ := text.Get([]text.Pair{{Name: "n", Value: s}}, "n")
			results = append(results, text.Escape(s), unescaped, got, text.Show([]text.Pair{{Name: s, Value: s}}))
			pairs, e := text.Form(s + "=" + s + "&z=" + s)
			if e != api.OK {
				t.Errorf("%q: error %d", s, e)
			}
			for _, pair := range pairs {
				results = append(results, pair.Name, pair.Value)
			}
		}
		for i := range results {
			for j := range i {
				if overlap(results[i], results[j]) {
					t.Errorf("%q: results %d and %d share memory", s, j, i)
				}
			}
		}
	}
}

func overlap(a, b string) bool {
	if a == "" || b == "" {
		return false
	}
	first, second := uintptr(unsafe.Pointer(unsafe.StringData(a))), uintptr(unsafe.Pointer(unsafe.StringData(b)))
	return first < second+uintptr(len(b)) && second < first+uintptr(len(a))
}

// Rules, Memory: lists that are given are not changed, nor is their spare capacity; those that are returned are new
// with theirs.
func TestListsAreNotShared(t *testing.T) {
	room := make([]text.Pair, 50)
	for i := range room {
		room[i] = text.Pair{Name: fmt.Sprintf("n%d", i), Value: fmt.Sprintf("v%d", i)}
	}
	before := slices.Clone(room)
	for n := range 40 {
		l := room[5 : 5+n]
		text.Show(l)
		text.Get(l, "n5")
		text.Get(l, "n44")
		text.Get(l, "none")
	}
	if !slices.Equal(room, before) {
		t.Error("a list or its surroundings changed")
	}
	for n := 1; n <= api.MaxPairs; n++ {
		first, _ := text.Form(manyPairs(n))
		second, _ := text.Form(manyPairs(n))
		want := slices.Clone(second)
		all := first[:cap(first)]
		for i := range all {
			all[i] = text.Pair{Name: "spoiled", Value: "spoiled"}
		}
		if !slices.Equal(second, want) {
			t.Errorf("%d pairs: two results share memory", n)
		}
		checkForm(t, manyPairs(n), want...)
	}
}

// Rules, Determinism: equal arguments, equal answers, whatever was asked before.
func TestDeterminism(t *testing.T) {
	for range 3 {
		checkForm(t, "a=1&b=2", text.Pair{Name: "a", Value: "1"}, text.Pair{Name: "b", Value: "2"})
		checkFormError(t, "a=1&a=2", api.ErrTwice)
		checkFormError(t, manyPairs(33), api.ErrFull)
		checkUnescape(t, "%41", "A")
		checkUnescapeError(t, "%ff", api.ErrText)
		checkEscape(t, "a b&c", "a+b%26c")
		checkWrong(t, "ab\xff", 2)
	}
}
