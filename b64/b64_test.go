package b64_test

import (
	"bytes"
	"encoding/base64"
	"math"
	"math/rand"
	"strings"
	"testing"

	"klaxon/api"
	"klaxon/b64"
)

// The calls keep the signatures that the chapter lists.
var (
	_ func([]byte) string              = b64.Encode
	_ func(string) ([]byte, api.Errno) = b64.Decode
	_ func(int) (int, api.Errno)       = b64.Length
	_ func([]byte) string              = b64.Standard
	_ func(string) ([]byte, api.Errno) = b64.FromStandard
)

// A form is one of the two ways in which bytes are written: its calls, and what the chapter says of its letters.
type form struct {
	name           string
	encode         func([]byte) string
	decode         func(string) ([]byte, api.Errno)
	letter62, last byte // what stands for 62 and for 63
	padded         bool
	library        *base64.Encoding
}

var url = form{"url", b64.Encode, b64.Decode, '-', '_', false, base64.RawURLEncoding.Strict()}

var standard = form{"standard", b64.Standard, b64.FromStandard, '+', '/', true, base64.StdEncoding.Strict()}

var forms = []form{url, standard}

// letter returns the letter that stands for a number from 0 to 63.
func (f form) letter(value int) byte {
	switch {
	case value < 26:
		return 'A' + byte(value)
	case value < 52:
		return 'a' + byte(value-26)
	case value < 62:
		return '0' + byte(value-52)
	case value == 62:
		return f.letter62
	}
	return f.last
}

func (f form) letters() string {
	var out []byte
	for value := range 64 {
		out = append(out, f.letter(value))
	}
	return string(out)
}

// defined works the encoding out as the chapter tells it, on bits that are kept one by one.
func (f form) defined(b []byte) string {
	var bits []int
	for _, x := range b {
		for i := range 8 {
			bits = append(bits, int(x>>(7-i))&1)
		}
	}
	for len(bits)%6 != 0 {
		bits = append(bits, 0)
	}
	var out []byte
	for at := 0; at < len(bits); at += 6 {
		value := 0
		for _, bit := range bits[at : at+6] {
			value = 2*value + bit
		}
		out = append(out, f.letter(value))
	}
	for f.padded && len(out)%4 != 0 {
		out = append(out, '=')
	}
	return string(out)
}

// padding returns the string with as many `=` as the form wants behind so many letters.
func (f form) padding(letters string) string {
	if !f.padded {
		return letters
	}
	return letters + strings.Repeat("=", (4-len(letters)%4)%4)
}

// isForm works out bit by bit whether s is the encoding of some bytes, and of which.
func (f form) isForm(s string) ([]byte, bool) {
	letters := s
	if f.padded {
		letters = strings.TrimRight(s, "=")
	}
	alphabet := f.letters()
	var bits []int
	for i := range len(letters) {
		value := strings.IndexByte(alphabet, letters[i])
		if value < 0 {
			return nil, false
		}
		for j := range 6 {
			bits = append(bits, value>>(5-j)&1)
		}
	}
	var out []byte
	for ; len(bits) >= 8; bits = bits[8:] {
		x := 0
		for _, bit := range bits[:8] {
			x = 2*x + bit
		}
		out = append(out, byte(x))
	}
	return out, f.defined(out) == s
}

func message(n int) []byte {
	m := make([]byte, n)
	for i := range m {
		m[i] = byte(i*7 + i/256 + 3)
	}
	return m
}

func randomMessage(r *rand.Rand, n int) []byte {
	m := make([]byte, n)
	r.Read(m)
	return m
}

func checkEncode(t *testing.T, f form, b []byte, want string) {
	t.Helper()
	if got := f.encode(b); got != want {
		t.Errorf("%s: %x is encoded as %q, want %q", f.name, b, got, want)
	}
}

func checkDecode(t *testing.T, f form, s string, want []byte) {
	t.Helper()
	if got, e := f.decode(s); e != api.OK || !bytes.Equal(got, want) {
		t.Errorf("%s: %q is decoded as %x with error %d, want %x", f.name, s, got, e, want)
	}
}

func checkRefused(t *testing.T, f form, s string) {
	t.Helper()
	if got, e := f.decode(s); e != api.ErrForm || len(got) != 0 {
		t.Errorf("%s: %q is decoded as %x with error %d, want ErrForm and no bytes", f.name, s, got, e)
	}
}

func checkBoth(t *testing.T, f form, b []byte, s string) {
	t.Helper()
	checkEncode(t, f, b, s)
	checkDecode(t, f, s, b)
}

// checkByDefinition holds what is decoded from s against the chapter's definition.
func checkByDefinition(t *testing.T, f form, s string) {
	t.Helper()
	if want, ok := f.isForm(s); ok {
		checkDecode(t, f, s, want)
	} else {
		checkRefused(t, f, s)
	}
}

// P4.1, P4.3: the chapter's examples, those of RFC 4648, and the letters that differ.
func TestKnown(t *testing.T) {
	for _, c := range []struct{ message, url, standard string }{
		{"", "", ""},
		{"f", "Zg", "Zg=="},
		{"fo", "Zm8", "Zm8="},
		{"foo", "Zm9v", "Zm9v"},
		{"foob", "Zm9vYg", "Zm9vYg=="},
		{"fooba", "Zm9vYmE", "Zm9vYmE="},
		{"foobar", "Zm9vYmFy", "Zm9vYmFy"},
		{"\xfb\xff", "-_8", "+/8="},
		{"\xff\xff\xff", "____", "////"},
		{"\xfb\xef\xbe", "----", "++++"},
		{"\x00", "AA", "AA=="},
		{"\x00\x00", "AAA", "AAA="},
		{"\x00\x00\x00", "AAAA", "AAAA"},
		{"\x80", "gA", "gA=="},
		{"\x01", "AQ", "AQ=="},
	} {
		checkBoth(t, url, []byte(c.message), c.url)
		checkBoth(t, standard, []byte(c.message), c.standard)
	}
}

// P4.1, P4.3: each letter by itself stands for its number.
func TestEveryLetter(t *testing.T) {
	const all = "ABCDEFGHIJKLMNOPQRSTUVWXYZabcdefghijklmnopqrstuvwxyz0123456789"
	for value := range 64 {
		b := []byte{byte(value << 2), 0, 0}
		checkBoth(t, url, b, (all + "-_")[value:value+1]+"AAA")
		checkBoth(t, standard, b, (all + "+/")[value:value+1]+"AAA")
	}
}

// P4.1, P4.3: every length through some hundreds, by the chapter's definition and beside the library.
func TestEveryLength(t *testing.T) {
	random := rand.New(rand.NewSource(1))
	for n := range 400 {
		for _, m := range [][]byte{message(n), make([]byte, n), bytes.Repeat([]byte{0xff}, n), randomMessage(random, n)} {
			for _, f := range forms {
				checkBoth(t, f, m, f.defined(m))
				checkEncode(t, f, m, f.library.EncodeToString(m))
			}
		}
	}
}

// P4.1, P4.3: each byte and each pair of bytes; no two are encoded alike, and of the strings of up to three letters
// just their encodings are decoded.
func TestEveryShortString(t *testing.T) {
	for _, f := range forms {
		known := map[string][]byte{"": nil}
		for size := 1; size <= 2; size++ {
			for x := range 1 << (8 * size) {
				b := []byte{byte(x), byte(x >> 8)}[:size]
				s := f.defined(b)
				checkBoth(t, f, b, s)
				known[s] = b
			}
		}
		if len(known) != 1+1<<8+1<<16 {
			t.Errorf("%s: %d strings for all bytes of up to two", f.name, len(known))
		}
		letters := f.letters()
		for size := range 4 {
			for x := range 1 << (6 * size) {
				s := f.padding(string([]byte{letters[x&63], letters[x>>6&63], letters[x>>12&63]}[:size]))
				if want, ok := known[s]; ok {
					checkDecode(t, f, s, want)
				} else {
					checkRefused(t, f, s)
				}
			}
		}
	}
}

// P4.1, P4.3: each string of up to two bytes, whatever they are.
func TestEveryPairOfBytes(t *testing.T) {
	for _, f := range forms {
		for x := range 256 {
			checkByDefinition(t, f, string([]byte{byte(x)}))
			for y := range 256 {
				checkByDefinition(t, f, string([]byte{byte(x), byte(y)}))
				checkByDefinition(t, f, string([]byte{byte(x), byte(y), '=', '='}))
			}
		}
	}
}

// P4.1, P4.3: any byte at any place of an encoding, in place of another and between others.
func TestEveryByteAtEveryPlace(t *testing.T) {
	for _, f := range forms {
		for n := range 14 {
			for _, b := range [][]byte{message(n), make([]byte, n), bytes.Repeat([]byte{0xff}, n)} {
				s := f.defined(b)
				for place := range len(s) + 1 {
					for x := range 256 {
						odd := string([]byte{byte(x)})
						checkByDefinition(t, f, s[:place]+odd+s[place:])
						if place < len(s) {
							checkByDefinition(t, f, s[:place]+odd+s[place+1:])
						}
					}
				}
			}
		}
	}
}

// P4.1, P4.3: an encoding that is cut off, at the end or at the beginning.
func TestCutOff(t *testing.T) {
	for _, f := range forms {
		for n := range 20 {
			s := f.defined(message(n))
			for place := range len(s) + 1 {
				checkByDefinition(t, f, s[:place])
				checkByDefinition(t, f, s[place:])
			}
		}
	}
}

// P4.1, P4.3: random letters of any number, and random bytes, beside the library (which passes over line ends).
func TestRandomStrings(t *testing.T) {
	random := rand.New(rand.NewSource(2))
	for _, f := range forms {
		some := f.letters() + "=-_+/ \n"
		for range 20000 {
			s := make([]byte, random.Intn(40))
			for i := range s {
				s[i] = some[random.Intn(64)]
				if random.Intn(100) == 0 {
					s[i] = some[random.Intn(len(some))]
				}
			}
			for _, s := range []string{string(s), f.padding(string(s)), string(randomMessage(random, len(s)))} {
				checkByDefinition(t, f, s)
				want, err := f.library.DecodeString(s)
				if err == nil && !strings.ContainsAny(s, "\r\n") {
					checkDecode(t, f, s, want)
				} else {
					checkRefused(t, f, s)
				}
			}
		}
	}
}

// P4.1: a length of 1 modulo 4 is that of no encoding.
func TestLengthOfOneModuloFour(t *testing.T) {
	for n := 1; n < 400; n += 4 {
		for _, letter := range []string{"A", "Q", "_", "-"} {
			s := strings.Repeat(letter, n)
			checkRefused(t, url, s)
			checkRefused(t, url, strings.Repeat("A", n-1)+letter)
			for pads := range 6 {
				checkRefused(t, standard, strings.Repeat("A", n)+strings.Repeat("=", pads))
			}
		}
	}
}

// P4.1, P4.3: the last letter's bits that belong to no byte are 0.
func TestLastBits(t *testing.T) {
	for _, f := range forms {
		for whole := range 50 {
			front := strings.Repeat("Zm9v", whole)
			bytesInFront := bytes.Repeat([]byte("foo"), whole)
			for value := range 64 {
				two := f.padding(front + "A" + string(f.letter(value)))
				if value&15 == 0 {
					checkDecode(t, f, two, append(bytes.Clone(bytesInFront), byte(value>>4)))
				} else {
					checkRefused(t, f, two)
				}
				three := f.padding(front + "AA" + string(f.letter(value)))
				if value&3 == 0 {
					checkDecode(t, f, three, append(bytes.Clone(bytesInFront), 0, byte(value>>2)))
				} else {
					checkRefused(t, f, three)
				}
			}
		}
	}
}

// P4.1: what other forms of base64 have is refused.
func TestWrongStrings(t *testing.T) {
	for _, s := range []string{
		"Zg=", "Zg==", "Zm8=", "Zm9v=", "Zm9v====", "=", "==", "====", "Z=g", "=Zg",
		"Zm+v", "Zm/v", "+/8", "++++", "////", "-/8", "+_8",
		" Zg", "Zg ", "Z g", "Zm9v ", " ", "    ", "Zm9v Zm9v",
		"Zg\n", "\nZg", "Z\ng", "Zm9v\n", "Zm9v\r\n", "Zm9vZm9\n", "\n", "\n\n\n\n", "\r\n", "\t", "Zm9\t",
		"é", "Zé", "Zmé", "éZm", "€", "Zm9€", "€A", "😀", "Zm9v😀", "ＡＡ", "АА",
		"\x00", "\x00\x00", "Zm9\x00", "Zg\x00", "\xff", "\xff\xff", "Zm\xff\xfe", "\x7f\x80",
		".", "Zm9v.Zm9v", "Zm,v", "Zm@v", "Zm[v", "Zm`v", "Zm{v", "Zm:v", "Zm^v", "Zm~v", "%5A%67",
	} {
		checkRefused(t, url, s)
	}
}

// P4.3: too few, too many or misplaced `=`, and the letters of the other form, are refused.
func TestWrongStandardStrings(t *testing.T) {
	for _, s := range []string{
		"Zg", "Zg=", "Zg===", "Zg====", "Zg======", "Zm8", "Zm8==", "Zm8===", "Zm8=====",
		"Zm9v=", "Zm9v==", "Zm9v===", "Zm9v====", "=", "==", "===", "====", "========",
		"A", "A=", "A==", "A===", "A====", "Zm9vA===", "Zm9vZg", "Zm9vZg=",
		"Z=g=", "=Zg=", "Z==g", "==Zg", "=Zm8", "Z=m8", "Zm=8", "Zg==Zg==", "Zm8=Zm9v", "Zg==Zm9v", "Zg==\n", "Zm8=A",
		"-_8=", "-/8=", "+_8=", "____", "----", "Zm-v", "Zm_v", "-_8",
		"Zh==", "Zv==", "Zm9=", "Zm+=", "Zm/=", "//==", "///=",
		" Zg==", "Zg== ", "Zg= =", "Zg ==", "Z g==", "Zm9v ", "    ", "Zm9v\n", "Zg\n==", "Zg=\n=", "\n\n\n\n", "Zm9v\r\n\r\n",
		"é", "éé", "éA==", "é===", "Zmé", "€A", "😀", "Zg=\x00", "Zg\x00\x00", "\xff\xff\xff\xff", "Zg＝",
	} {
		checkRefused(t, standard, s)
	}
}

// P4.3: behind any number of letters, just the number of `=` that fills up to a multiple of four.
func TestPadding(t *testing.T) {
	for n := range 100 {
		b := message(n)
		letters := strings.TrimRight(standard.defined(b), "=")
		for pads := range 10 {
			s := letters + strings.Repeat("=", pads)
			if len(s)%4 == 0 && pads < 4 {
				checkBoth(t, standard, b, s)
			} else {
				checkRefused(t, standard, s)
			}
		}
	}
}

// P4.1, P4.3: nil and empty bytes are the empty string, which is no bytes.
func TestNothing(t *testing.T) {
	for _, f := range forms {
		checkEncode(t, f, nil, "")
		checkEncode(t, f, []byte{}, "")
		checkEncode(t, f, message(5)[:0], "")
		checkDecode(t, f, "", nil)
	}
}

func TestLong(t *testing.T) {
	random := rand.New(rand.NewSource(3))
	for _, n := range []int{4095, 4096, 4097, 65535, 65536, 65537, 1<<20 + 1, 1<<20 + 2, 1<<20 + 3} {
		m := randomMessage(random, n)
		for _, f := range forms {
			s := f.library.EncodeToString(m)
			if f.encode(m) != s {
				t.Errorf("%s: %d bytes are encoded wrongly", f.name, n)
			}
			if got, e := f.decode(s); e != api.OK || !bytes.Equal(got, m) {
				t.Errorf("%s: %d bytes are decoded wrongly, with error %d", f.name, n, e)
			}
			if got, e := f.decode(s + "*"); e != api.ErrForm || len(got) != 0 {
				t.Errorf("%s: %d bytes and a wrong letter are decoded, with error %d", f.name, n, e)
			}
		}
	}
}

// P4.2: the number of letters, at the edges and between.
func TestLengthKnown(t *testing.T) {
	for _, c := range []struct{ n, want int }{
		{0, 0}, {1, 2}, {2, 3}, {3, 4}, {4, 6}, {5, 7}, {6, 8}, {7, 10}, {16, 22}, {32, 43}, {48, 64}, {8192, 10923},
		{1<<20 - 1, 1398100}, {1 << 20, 1398102},
		{1<<28 - 1, 357913940}, {1 << 28, 357913942}, {1<<29 - 1, 715827882}, {1 << 29, 715827883},
		{1<<30 - 2, 1431655763}, {1<<30 - 1, 1431655764}, {1 << 30, 1431655766},
	} {
		checkLength(t, c.n, c.want)
	}
}

func checkLength(t *testing.T, n int, want int) {
	t.Helper()
	if got, e := b64.Length(n); got != want || e != api.OK {
		t.Errorf("Length(%d): got %d with error %d, want %d", n, got, e, want)
	}
}

// P4.2: as many letters as Encode writes, and as the bits of so many bytes fill.
func TestLengthOfEncodings(t *testing.T) {
	for n := range 2000 {
		checkLength(t, n, len(b64.Encode(message(n))))
	}
	random := rand.New(rand.NewSource(4))
	for range 10000 {
		n := random.Intn(1<<30 + 1)
		checkLength(t, n, int((int64(n)*8+5)/6))
	}
}

// P4.2: numbers out of range are refused, with the number 0.
func TestLengthOutOfRange(t *testing.T) {
	for _, n := range []int{
		-1, -2, -3, -4, -1 << 30, math.MinInt32, math.MinInt, math.MinInt + 1,
		1<<30 + 1, 1<<30 + 2, 1<<30 + 3, math.MaxInt32, math.MaxInt - 1, math.MaxInt,
	} {
		if got, e := b64.Length(n); got != 0 || e != api.ErrRange {
			t.Errorf("Length(%d): got %d with error %d, want ErrRange and 0", n, got, e)
		}
	}
}

// Rules, Memory: arguments are not changed, nor is what lies about them in the same memory.
func TestArgumentsAreNotChanged(t *testing.T) {
	for n := range 70 {
		room := message(300)
		before := bytes.Clone(room)
		for _, f := range forms {
			checkEncode(t, f, room[100:100+n], f.defined(before[100:100+n]))
		}
		if !bytes.Equal(room, before) {
			t.Errorf("%d bytes: an argument or its surroundings changed", n)
		}
	}
}

// Rules, Memory: an encoding does not change with the bytes that it was made of.
func TestArgumentsAreNotKept(t *testing.T) {
	for n := range 70 {
		for _, f := range forms {
			m := message(n)
			s := f.encode(m)
			spoil(m)
			if s != f.defined(message(n)) {
				t.Errorf("%s: the encoding of %d bytes changed with them", f.name, n)
			}
		}
	}
}

// Rules, Memory: decoded bytes are new memory with their spare capacity: changing them changes no string, no other
// result, and no later call.
func TestResultsAreNotShared(t *testing.T) {
	for n := range 70 {
		for _, f := range forms {
			s := f.encode(message(n))
			first, _ := f.decode(s)
			second, _ := f.decode(s)
			spoil(first)
			if s != f.defined(message(n)) {
				t.Errorf("%s, %d bytes: a result shares memory with its argument", f.name, n)
			}
			if !bytes.Equal(second, message(n)) {
				t.Errorf("%s, %d bytes: two results share memory", f.name, n)
			}
			checkDecode(t, f, s, message(n))
			checkEncode(t, f, message(n), s)
		}
	}
}

func spoil(b []byte) {
	b = b[:cap(b)]
	for i := range b {
		b[i] = 0xa5
	}
}

// Rules, Determinism: equal arguments, equal answers, whatever was asked before.
func TestDeterminism(t *testing.T) {
	for n := range 100 {
		for _, f := range forms {
			first := f.encode(message(n))
			f.decode("*")
			f.decode("Zh")
			f.encode([]byte("else"))
			b64.Length(-1)
			checkBoth(t, f, message(n), first)
		}
	}
}
