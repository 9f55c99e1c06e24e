package json_test

import (
	"fmt"
	"math"
	"math/rand"
	"regexp"
	"strings"
	"testing"
	"unicode/utf16"
	"unicode/utf8"

	"klaxon/api"
	"klaxon/json"
	"klaxon/text"
)

// P6.1, P6.2: the chapter's example.
func TestExample(t *testing.T) {
	v := object(member("a", array(number("1"), number("-0.5e3"), str("é\n"))))
	checkParse(t, `{ "a" : [1, -0.5e3, "\u00e9\n"] }`, v)
	checkPrint(t, parsed(t, `{ "a" : [1, -0.5e3, "\u00e9\n"] }`), `{"a":[1,-0.5e3,"é\n"]}`)
}

// P6.1: values of each kind, which are printed again.
func TestParseKinds(t *testing.T) {
	for _, c := range []struct {
		s    string
		want json.Value
	}{
		{"null", null()}, {"true", truth(true)}, {"false", truth(false)}, {"0", number("0")}, {"-12.50E+03", number("-12.50E+03")},
		{`""`, str("")}, {`"a"`, str("a")}, {`"[1,{]}\"\\"`, str(`[1,{]}"\`)}, {`"null"`, str("null")}, {`"1"`, str("1")},
		{"[]", array()}, {"[[]]", array(array())}, {"[{}]", array(object())}, {"[1]", array(number("1"))}, {"[1,1]", array(number("1"), number("1"))},
		{`[null,true,false,0,"",[],{}]`, array(null(), truth(true), truth(false), number("0"), str(""), array(), object())},
		{"{}", object()}, {`{"":null}`, object(member("", null()))}, {`{"a":{"a":{}}}`, object(member("a", object(member("a", object()))))},
		{`{"b":1,"a":true,"c":[{}],"B":"x"}`, object(member("b", number("1")), member("a", truth(true)), member("c", array(object())), member("B", str("x")))},
	} {
		checkParse(t, c.s, c.want)
		checkPrint(t, parsed(t, c.s), c.s)
		checkDefined(t, c.s, api.MaxDepth)
	}
}

// spaced is a text as tokens, between which blanks may stand.
var spaced = []string{"[", "10", ",", "{", `"ab"`, ":", "[", "]", ",", `"c"`, ":", "{", "}", ",", `"d"`, ":", "-2.5e+1", "}", ",", `"x"`, ",", "null", ",", "true", ",", "false", "]"}

// P6.1: each blank at each place where it may stand, once and several times.
func TestBlanks(t *testing.T) {
	want := parsed(t, strings.Join(spaced, ""))
	for i := range len(spaced) + 1 {
		for _, blanks := range []string{" ", "\t", "\n", "\r", "\r\n", "  ", " \t\n\r ", "\n\n\n"} {
			checkParse(t, strings.Join(spaced[:i], "")+blanks+strings.Join(spaced[i:], ""), want)
			checkParse(t, strings.Join(spaced[:i], " ")+blanks+strings.Join(spaced[i:], "\t"), want)
		}
	}
	for _, b := range []string{" ", "\t", "\n", "\r"} {
		checkParse(t, b+strings.Join(spaced, b)+b, want)
		for s, want := range map[string]json.Value{"1": number("1"), "null": null(), `"a"`: str("a"), "[]": array(), "{}": object()} {
			checkParse(t, b+s, want)
			checkParse(t, s+b, want)
			checkParse(t, b+b+s+b+b, want)
		}
	}
}

// P6.1: blanks inside of a token, and bytes that are no blanks between tokens.
func TestNoBlanks(t *testing.T) {
	for i, token := range spaced {
		before, after := strings.Join(spaced[:i], ""), strings.Join(spaced[i:], "")
		for _, b := range []string{" ", "\t", "\n", "\r"} {
			for cut := 1; cut < len(token); cut++ {
				checkDefined(t, before+token[:cut]+b+token[cut:]+strings.Join(spaced[i+1:], ""), api.MaxDepth)
			}
		}
		for b := range 0x20 {
			if b != ' ' && b != '\t' && b != '\n' && b != '\r' {
				checkSyntax(t, before+string(rune(b))+after, len(before))
				checkSyntax(t, before+" "+string(rune(b))+" "+after, len(before)+1)
			}
		}
		for _, s := range []string{"\x7f", "\u0080", "\u0085", "\u00a0", "\u2028", "\u3000", "\ufeff", "/", "#", "'", "\\", "\U0001f600"} {
			checkSyntax(t, before+s+after, len(before))
		}
	}
	for s, at := range map[string]int{
		"1 0": 2, "- 1": 1, "1 .5": 2, "1. 5": 2, "1 e5": 2, "1e 5": 2, "1e+ 5": 3, "nu ll": 2, "tru\te": 3, "f\nalse": 1, "null null": 5, "1 2": 2, `"a" "b"`: 4,
		"\"a\tb\"": 2, "\"\n\"": 1, "\"\r": 1, "\"\\ n\"": 2, "\"\\u 041\"": 3, "\"\\u004 1\"": 6, "[1 2]": 3, `{"a" 1}`: 5, `{"a":1 "b":2}`: 7, "[] []": 3, "{} {}": 3,
	} {
		checkSyntax(t, s, at)
	}
	checkParse(t, `" a b "`, str(" a b "))
}

var numberText = regexp.MustCompile(`^-?(0|[1-9][0-9]*)(\.[0-9]+)?([eE][+-]?[0-9]+)?$`)

// P6.1, P6.2: the texts of numbers, each part there and not there; cut off after each byte; and with other bytes.
func TestNumbers(t *testing.T) {
	for _, sign := range []string{"", "-"} {
		for _, whole := range []string{"0", "1", "9", "10", "90", "1234567890"} {
			for _, fraction := range []string{"", ".0", ".5", ".00", ".9876543210"} {
				for _, exponent := range []string{"", "e0", "E9", "e+1", "E-2", "e00", "E+0012345678", "e-10"} {
					checkNumber(t, sign+whole+fraction+exponent)
				}
			}
		}
	}
}

func checkNumber(t *testing.T, s string) {
	t.Helper()
	checkParse(t, s, number(s))
	checkPrint(t, number(s), s)
	checkParse(t, "["+s+","+s+"]", array(number(s), number(s)))
	for cut := range len(s) {
		if numberText.MatchString(s[:cut]) {
			checkParse(t, s[:cut], number(s[:cut]))
			continue
		}
		checkSyntax(t, s[:cut], cut)
		checkSyntax(t, "[7,"+s[:cut]+"]", cut+3)
		if number(s[:cut]).Right() {
			t.Errorf("the number %q is valid", s[:cut])
		}
	}
}

// P6.1, P6.2: all short strings of the bytes of numbers and of a few others.
func TestShortNumbers(t *testing.T) {
	t.Parallel()
	forShort("-01.eE+x", 5, func(s string) {
		checkDefined(t, s, 1)
		want := numberText.MatchString(s)
		if number(s).Right() != want {
			t.Errorf("the number %q: Right is not %v", s, want)
		}
		if _, e := json.Print(number(s)); (e == api.OK) != want || !want && e != api.ErrForm {
			t.Errorf("the number %q: Print with error %d", s, e)
		}
	})
}

// forShort calls work with each string of at most so many of the bytes.
func forShort(letters string, most int, work func(s string)) {
	work("")
	for size := 1; size <= most; size++ {
		places := make([]int, size)
		for at := 0; at >= 0; {
			s := make([]byte, size)
			for i, place := range places {
				s[i] = letters[place]
			}
			work(string(s))
			for at = size - 1; at >= 0; at-- {
				places[at]++
				if places[at] < len(letters) {
					break
				}
				places[at] = 0
			}
		}
	}
}

// P6.1: leading zeros, and bytes that do not fit, at their offset.
func TestNumberFaults(t *testing.T) {
	for s, at := range map[string]int{
		"00": 1, "01": 1, "-00": 2, "-01": 2, "00.5": 1, "0123": 1, "+1": 0, "+": 0, "-": 1, "--1": 1, "-+1": 1, "-a": 1, "- ": 1, "-.5": 1, ".5": 0, "-e1": 1,
		"1.": 2, "1.e1": 2, "1..2": 2, "1.-2": 2, "1.2.3": 3, "0.": 2, "0.x": 2, "1.5.": 3, "1.5-": 3,
		"1e": 2, "1E": 2, "1e+": 3, "1e-": 3, "1ee1": 2, "1e1e1": 3, "1e1.5": 3, "1e+-1": 3, "1e++1": 3, "1e.5": 2, "1e1+": 3, "0e": 2, "0ex": 2, "1.5E+": 5,
		"1x": 1, "1_000": 1, "1,": 1, "0x1": 1, "0b1": 1, "1f": 1, "1-": 1, "1+1": 1, "1]": 1, "1é": 1, "-é": 1, "1.é": 2, "1eé": 2, "１": 0, "-１": 1, "1\x00": 1, "-\x00": 1,
		"Infinity": 0, "-Infinity": 1, "NaN": 0, "[-]": 2, "[1.]": 3, "[1e]": 3, "[01]": 2, "[1,-]": 4, `{"a":-}`: 6, `{"a":1.}`: 7, `{"a":1e+}`: 8,
	} {
		checkSyntax(t, s, at)
	}
	for b := range 0x80 {
		c := string(rune(b))
		for _, s := range []string{"-", "0", "-0", "12", "1.", "1.5", "1e", "1E+", "1e-5", "-0.0e0"} {
			checkDefined(t, s+c, 1)
			checkDefined(t, s+c+"1", 1)
			checkDefined(t, "["+s+c+"]", 1)
		}
	}
}

// P6.1: words cut off, with a byte that does not fit, and with more behind them.
func TestWords(t *testing.T) {
	for word, want := range map[string]json.Value{"null": null(), "true": truth(true), "false": truth(false)} {
		checkParse(t, word, want)
		for cut := range len(word) {
			checkSyntax(t, word[:cut], cut)
			checkSyntax(t, "[7,"+word[:cut]+"]", cut+3)
			checkSyntax(t, word[:cut]+"\x00", cut)
			for b := range 0x80 {
				if s := word[:cut] + string(rune(b)) + word[cut+1:]; s != word && cut > 0 {
					checkSyntax(t, s, cut)
					checkSyntax(t, " "+s, cut+1)
				}
			}
			checkDefined(t, word[:cut]+strings.ToUpper(word[cut:]), 1)
			checkDefined(t, word[:cut]+"é"+word[cut+1:], 1)
		}
		for _, more := range []string{"x", "1", "\"", "[", "{", ",", ":", "]", "}", "\\", "\x00", "é", word} {
			checkSyntax(t, word+more, len(word))
			checkSyntax(t, word+" "+more, len(word)+1)
		}
	}
	for _, s := range []string{"Null", "NULL", "True", "False", "None", "nil", "undefined", "yes", "x", "'a'", "a", "é"} {
		at := 0
		if s == "nil" {
			at = 1
		}
		checkSyntax(t, s, at)
	}
}

// P6.1: each byte behind `\`.
func TestEscapes(t *testing.T) {
	known := map[byte]string{'"': "\"", '\\': "\\", '/': "/", 'b': "\x08", 'f': "\x0c", 'n': "\x0a", 'r': "\x0d", 't': "\x09"}
	for b := range 0x80 {
		c := string(rune(b))
		if want, ok := known[byte(b)]; ok {
			checkParse(t, `"\`+c+`"`, str(want))
			checkParse(t, `"a\`+c+`\`+c+`é"`, str("a"+want+want+"é"))
			checkParse(t, `{"\`+c+`":0}`, object(member(want, number("0"))))
			continue
		}
		at := 2
		if b == 'u' {
			at = 3
		}
		checkSyntax(t, `"\`+c+`"`, at)
		checkSyntax(t, `"ab\`+c+`"`, at+2)
		checkSyntax(t, `["é\`+c, at+3)
		checkSyntax(t, `{"\`+c+`":0}`, at+1)
	}
	checkSyntax(t, `"\é"`, 2)
	checkSyntax(t, `"\`, 2)
	checkSyntax(t, `"\"`, 3)
	checkSyntax(t, `"\\\"`, 5)
	checkParse(t, `"\\\""`, str(`\"`))
	checkParse(t, `"\\n"`, str(`\n`))
	checkParse(t, `"\"\\\/\b\f\n\r\t"`, str("\"\\/\b\f\n\r\t"))
}

// P6.1: each byte as it is in a string: those below 20 may not stand there.
func TestCharacters(t *testing.T) {
	for b := range 0x80 {
		c := string(rune(b))
		switch {
		case b < 0x20:
			checkSyntax(t, `"`+c+`"`, 1)
			checkSyntax(t, `"aé`+c+`"`, 4)
			checkSyntax(t, `{"a`+c+`":1}`, 3)
			checkSyntax(t, `["`+c, 2)
			checkParse(t, fmt.Sprintf(`"\u%04x"`, b), str(c))
			checkParse(t, fmt.Sprintf(`"\u%04X"`, b), str(c))
		case b == '"':
			checkParse(t, `""`, str(""))
			checkSyntax(t, `"""`, 2)
		case b == '\\':
		default:
			checkParse(t, `"`+c+`"`, str(c))
			checkParse(t, `"`+c+c+`"`, str(c+c))
		}
	}
	for _, s := range []string{"\u0080", "\u00e9", "\u07ff", "\u0800", "\u2028", "\u2029", "\ud7ff", "\ue000", "\ufeff", "\ufffd", "\uffff", "\U00010000", "\U0001f600", "\U0010ffff", "\x7f"} {
		checkParse(t, `"`+s+`"`, str(s))
		checkParse(t, `{"`+s+`":"a`+s+`b"}`, object(member(s, str("a"+s+"b"))))
	}
}

// P6.1: `\u` with each number, and digits of either case.
func TestEveryUnit(t *testing.T) {
	for n := range 0x10000 {
		for _, digits := range []string{fmt.Sprintf("%04x", n), fmt.Sprintf("%04X", n)} {
			s := `"a\u` + digits + `b"`
			if utf16.IsSurrogate(rune(n)) {
				checkSyntax(t, s, 2)
			} else {
				checkParse(t, s, str("a"+string(rune(n))+"b"))
			}
		}
	}
	checkParse(t, `"\u00E9\u00e9\u20Ac\uFFFF\u0000"`, str("éé€\uffff\x00"))
	checkParse(t, `"\uD83D\ude00\ud83d\uDE00"`, str("😀😀"))
	checkParse(t, `"\u00411"`, str("A1"))
	checkSyntax(t, `"\U0041"`, 2)
}

// P6.1: two halves in the right order are a character.
func TestPairs(t *testing.T) {
	for _, high := range []rune{0xd800, 0xd801, 0xd83d, 0xdabc, 0xdbfe, 0xdbff} {
		for _, low := range []rune{0xdc00, 0xdc01, 0xde00, 0xdead, 0xdffe, 0xdfff} {
			c := string(utf16.DecodeRune(high, low))
			if utf8.RuneCountInString(c) != 1 || len(c) != 4 {
				t.Fatal("no character of four bytes")
			}
			s := fmt.Sprintf(`\u%04x\u%04X`, high, low)
			checkParse(t, `"`+s+`"`, str(c))
			checkParse(t, `"a`+s+s+`é"`, str("a"+c+c+"é"))
			checkParse(t, `{"`+s+`":"\n`+s+`\n"}`, object(member(c, str("\n"+c+"\n"))))
		}
	}
	checkParse(t, `"\ud800\udc00"`, str("\U00010000"))
	checkParse(t, `"\udbff\udfff"`, str("\U0010ffff"))
}

// P6.1: halves alone, in the wrong order, and ahead of other characters, escapes, and the end.
func TestLoneHalves(t *testing.T) {
	behind := []string{"", `"`, `a"`, `0"`, `é"`, `u"`, `udc00"`, ` \udc00"`, `/"`, `\`, `\"`, `\\"`, `\/"`, `\n"`, `\x"`, `\U"`, `\\udc00"`, `\n\udc00"`, "\n", "\x00",
		`\u0041"`, `\u0000"`, `\ud7ff"`, `\ud800"`, `\ud800\udc00"`, `\udbff"`, `\ue000"`, `\uffff"`, `\uDBFF"`}
	for _, half := range []string{"d800", "dbff", "D800", "DBFF", "dAbC"} {
		for _, rest := range behind {
			checkSyntax(t, `"\u`+half+rest, 1)
			checkSyntax(t, `"aé\n\u`+half+rest, 6)
			checkSyntax(t, `{"\u`+half+rest, 2)
			checkSyntax(t, `["",{"a":"\ud83d\ude00\u`+half+rest, 22)
		}
	}
	for _, half := range []string{"dc00", "dfff", "DC00", "DFFF", "dEaF"} {
		for _, rest := range append(behind, `\u`, `\u1`, `\udc0g"`, `\udc00"`, `\udfff"`) {
			checkSyntax(t, `"\u`+half+rest, 1)
			checkSyntax(t, `"\ud83d\ude00\u`+half+rest, 13)
			checkSyntax(t, `[{"a\u`+half+rest, 4)
		}
	}
}

// P6.1: digits that are missing, or not hexadecimal, in a `\u` alone, in the first and in the second of two.
func TestDigits(t *testing.T) {
	for _, before := range []string{`"`, `"é`, `["\n`, `{"`, `"\ud83d\ude00`} {
		for _, unit := range []string{`\u0041`, `\uABCD`, `\ud800`, `\udbff`, `\udc00`, `\udfff`, `\ud800\udc00`, `\uDBFF\uDFFF`, `\ud800\u0041`, `\ud800\ud800`} {
			for place := range len(unit) {
				if unit[place] == '\\' || unit[place] == 'u' {
					continue
				}
				start := before + unit[:place]
				for b := range 0x80 {
					if strings.IndexByte("0123456789abcdefABCDEF", byte(b)) < 0 {
						checkSyntax(t, start+string(rune(b))+unit[place+1:]+`"`, len(start))
						checkSyntax(t, start+string(rune(b)), len(start))
					}
				}
				checkSyntax(t, start+"é"+unit[place+1:]+`"`, len(start))
				checkSyntax(t, start, len(start))
			}
		}
	}
	checkSyntax(t, `"\u`, 3)
	checkSyntax(t, `"\u"`, 3)
	checkSyntax(t, `"\u004`, 6)
	checkSyntax(t, `"\u12g4"`, 5)
	checkSyntax(t, `"\ud8`, 5)
	checkSyntax(t, `"\ud80"`, 6)
	checkSyntax(t, `"\ud800\u`, 9)
	checkSyntax(t, `"\ud800\u"`, 9)
	checkSyntax(t, `"\ud800\u00"`, 11)
	checkSyntax(t, `"\ud800\udc0`, 12)
	checkSyntax(t, `"\ud800\ud8g0"`, 11)
	checkSyntax(t, `"\ud800\u0zzz"`, 10)
}

// P6.1: a text of MaxJSON bytes is read, and one of a byte more is refused ahead of all else.
func TestSize(t *testing.T) {
	long := strings.Repeat(" ", api.MaxJSON-1) + "1"
	checkParse(t, long, number("1"))
	checkParse(t, `"`+strings.Repeat("a", api.MaxJSON-2)+`"`, str(strings.Repeat("a", api.MaxJSON-2)))
	checkParse(t, strings.Repeat("7", api.MaxJSON), number(strings.Repeat("7", api.MaxJSON)))
	checkSyntax(t, strings.Repeat(" ", api.MaxJSON), api.MaxJSON)
	checkFault(t, long[1:]+"\xff", 1, api.ErrText, api.MaxJSON-1)
	var many []json.Value
	for range (api.MaxJSON - 2) / 2 {
		many = append(many, number("1"))
	}
	checkParse(t, "["+strings.TrimSuffix(strings.Repeat("1,", len(many)), ",")+"] ", array(many...))
	for _, s := range []string{long + " ", " " + long, long + "\xff", strings.Repeat("x", api.MaxJSON+1), strings.Repeat("\xff", api.MaxJSON+1), strings.Repeat("[", 1<<20), `{"a":1,"a":2}` + long, strings.Repeat("1", 1<<24)} {
		for _, depth := range []int{-1, 0, 1, 32, 33} {
			checkFault(t, s, depth, api.ErrSize, 0)
		}
	}
}

// P6.1: depths that are not from 1 to MaxDepth are refused ahead of what is in the text.
func TestDepthRange(t *testing.T) {
	for _, depth := range []int{-1, 0, api.MaxDepth + 1, 64, -32, 1 << 32, 1<<32 + 1, math.MinInt, math.MaxInt} {
		for _, s := range []string{"1", "[]", "", "x", "\xff", "a\xff", "[[", `{"a":1,"a":2}`, strings.Repeat(" ", api.MaxJSON)} {
			checkFault(t, s, depth, api.ErrRange, 0)
		}
	}
	for depth := 1; depth <= api.MaxDepth; depth++ {
		checkParseAt(t, "1", depth, number("1"))
		checkParseAt(t, "[1]", depth, array(number("1")))
		checkParseAt(t, `{"a":"[[["}`, depth, object(member("a", str("[[["))))
	}
}

// P6.1: arrays and objects as deep as depth, and one deeper.
func TestDepthFault(t *testing.T) {
	for depth := 1; depth <= api.MaxDepth; depth++ {
		for _, c := range []struct{ open, closing string }{{"[", "]"}, {`{"a":`, "}"}, {`[ {"b":1 , "a": `, "} ]"}, {`{"é":[[],{},0,`, `],"\n":{}}`}} {
			each := strings.Count(c.open, "[") + strings.Count(c.open, "{") - strings.Count(c.open, "]") - strings.Count(c.open, "}")
			levels := depth / each
			deep := strings.Repeat(c.open, levels) + "1" + strings.Repeat(c.closing, levels)
			checkDefined(t, deep, depth)
			checkDefined(t, strings.Repeat(c.open, levels+1)+"1"+strings.Repeat(c.closing, levels+1), depth)
			checkDefined(t, strings.Repeat(c.open, levels)+"[]"+strings.Repeat(c.closing, levels), depth)
		}
		brackets := strings.Repeat("[", depth)
		closing := strings.Repeat("]", depth)
		if _, e, at := json.Parse([]byte(brackets+closing), depth); e != api.OK || at != 0 {
			t.Errorf("depth %d: error %d at %d", depth, e, at)
		}
		for _, s := range []string{"[", "{", "[]", "{}", `{"a"`, "[x", "{x", "[[[["} {
			checkFault(t, brackets+s, depth, api.ErrDepth, depth)
			checkFault(t, brackets+" "+s+closing, depth, api.ErrDepth, depth+1)
			checkFault(t, brackets+"1,"+s, depth, api.ErrDepth, depth+2)
		}
	}
	checkFault(t, "[[[[[", 4, api.ErrDepth, 4)
	checkFault(t, `{"a":{"b":{}}}`, 2, api.ErrDepth, 10)
	checkFault(t, `[{"a":[[`, 3, api.ErrDepth, 7)
	// Brackets that are closed again are not open, and those in strings are none.
	checkParseAt(t, `[[],[],{},{"a":1},"[[[{{{"]`, 2, array(array(), array(), object(), object(member("a", number("1"))), str("[[[{{{")))
	checkFault(t, `[[],[],[[]]]`, 2, api.ErrDepth, 8)
	checkFault(t, `[{},{"a":{}}]`, 2, api.ErrDepth, 9)
}

// P6.1: a bracket where no value may begin opens nothing, whatever the depth is.
func TestBracketsOutOfPlace(t *testing.T) {
	for s, at := range map[string]int{"[1[": 2, "[[": 1, "{[": 1, "{{": 1, `{"a"[`: 4, `{"a"{`: 4, `{"a":1[`: 6, `{"a":1,[`: 7, "[][": 2, "1[": 1, "{}{": 2, `[""{`: 3} {
		want := api.ErrSyntax
		if s == "[[" {
			want = api.ErrDepth
		}
		checkFault(t, s, 1, want, at)
	}
}

// P6.1: bytes that are not valid come ahead of what else is wrong in the text.
func TestNotValid(t *testing.T) {
	for _, wrong := range []string{"\xff", "\x80", "\xc3", "\xc0\x80", "\xed\xa0\x80", "\xed\xb0\x80", "\xf4\x90\x80\x80", "\xe2\x82", "\xf0\x9f\x98"} {
		for _, before := range []string{"", `"`, `"é`, "x", "[[[", `{"a":1,"a":2}`, "1", " ", "nul", `"\ud800`, "\"\n", "null "} {
			for _, after := range []string{"", `"`, "]", "x", "\xff"} {
				s := before + wrong + after
				checkFault(t, s, 1, api.ErrText, len(before))
				if text.Wrong(s) != len(before) {
					t.Errorf("Wrong(%q): %d", s, text.Wrong(s))
				}
			}
		}
	}
}

// P6.1: names that their object has already, however they are written, and not those of other objects.
func TestTwice(t *testing.T) {
	for s, at := range map[string]int{
		`{"a":1,"a":1}`: 7, `{"a":1,"a":2}`: 7, `{"":0,"":0}`: 6, `{"a":1,"b":2,"a":3}`: 13, `{"a":1,"b":2,"b":3}`: 13, `{"a":1 , "a" : 2}`: 9, "{\"a\":1,\n\"a\"": 8,
		`{"a":1,"\u0061":2}`: 7, `{"\u0061":1,"a":2}`: 12, `{"/":1,"\/":2}`: 7, `{"\n":1,"\u000a":2}`: 8, `{"\u000A":1,"\u000a":2}`: 12, `{"é":1,"\u00E9":2}`: 8, `{"😀":1,"\uD83D\ude00":2}`: 10, `{"\"":1,"\u0022":2}`: 8, `{"\\":1,"\u005c":2}`: 8,
		`[{"a":1},{"a":1,"a":2}]`: 16, `{"a":{"b":1,"b":2}}`: 12, `{"a":{"a":1},"a":{"a":2}}`: 13, `{"a":{"a":1,"a":2},"a":3}`: 12, `{"a":[{"a":1,"b":1,"a":2}]}`: 19, `{"a":[],"a":`: 8, `{"a":{},"a"x`: 8, `{"a":1,"a"`: 7, `{"a":null,"a":null}`: 10,
	} {
		checkFault(t, s, 4, api.ErrTwice, at)
	}
	for _, s := range []string{
		`{"a":1,"A":2}`, `{"a":1,"aa":2,"":3," ":4,"a ":5}`, `[{"a":1},{"a":2}]`, `{"a":{"a":{"a":1}}}`, `{"a":["a","a"],"b":"a","c":"a"}`, `{"a":{"b":1},"b":{"a":1}}`, `{"a":[{"a":1},{"a":2}]}`, `{"é":1,"e\u0301":2}`, `{"\\n":1,"\n":2}`, `{"\u0000":1,"":2}`, `{"1":1,"01":2}`,
	} {
		if e := checkDefined(t, s, 4); e != api.OK {
			t.Errorf("%q: error %d", s, e)
		}
	}
	var many strings.Builder
	for i := range 1000 {
		fmt.Fprintf(&many, `"n%d":0,`, i)
	}
	checkFault(t, "{"+many.String()+`"n999":0}`, 1, api.ErrTwice, 1+many.Len())
	checkFault(t, "{"+many.String()+`"n0":0}`, 1, api.ErrTwice, 1+many.Len())
	if v := parsed(t, "{"+many.String()+`"n1000":0}`); len(v.Members) != 1001 {
		t.Errorf("%d members", len(v.Members))
	}
}

// P6.1: of several errors the first one from left to right.
func TestFirstFault(t *testing.T) {
	for _, c := range []struct {
		s    string
		want api.Errno
		at   int
	}{
		{`[x,[[]]]`, api.ErrSyntax, 1}, {`[[[x`, api.ErrDepth, 2}, {`[[[],x`, api.ErrDepth, 2}, {`[[x[`, api.ErrSyntax, 2}, {`[[],[[`, api.ErrDepth, 5},
		{`{"a":1,"a":x}`, api.ErrTwice, 7}, {`{"a":x,"a":1}`, api.ErrSyntax, 5}, {`{"a":1,x"a":1}`, api.ErrSyntax, 7}, {`{"a":1 "a":1}`, api.ErrSyntax, 7}, {`{"a":1,"a`, api.ErrSyntax, 9}, {`{"a":1,"a\x`, api.ErrSyntax, 10}, {`{"a":1,"a\ud800"`, api.ErrSyntax, 9}, {`{"a":1,"a"`, api.ErrTwice, 7}, {"{\"a\":1,\"a\n\"", api.ErrSyntax, 9}, {`{"a":1,,"a":2`, api.ErrSyntax, 7},
		{`{"a":[[[,"a":1}`, api.ErrDepth, 6}, {`{"a":1,"a":[[[`, api.ErrTwice, 7}, {`{"a":{"b":[],"b":[[`, api.ErrDepth, 10}, {`{"a":{"b":1,"b":[`, api.ErrTwice, 12}, {`{"a":{},"a":{"b":[`, api.ErrTwice, 8},
		{`[1]]`, api.ErrSyntax, 3}, {`[]x[[[`, api.ErrSyntax, 2}, {`{}{"a":1,"a":1}`, api.ErrSyntax, 2}, {`"\ud800[[[`, api.ErrSyntax, 1}, {`[["\ud800[[[`, api.ErrSyntax, 3},
	} {
		checkFault(t, c.s, 2, c.want, c.at)
		if e, at := definedFault(c.s, 2); e != c.want || at != c.at {
			t.Errorf("%q: the definition says error %d at %d", c.s, e, at)
		}
	}
}

// P6.1: no value at all, and what is there behind a value.
func TestNothingAndMore(t *testing.T) {
	if v, e, at := json.Parse(nil, 1); e != api.ErrSyntax || at != 0 || !isZero(v) {
		t.Errorf("nil: %+v with error %d at %d", v, e, at)
	}
	checkSyntax(t, "", 0)
	for _, s := range []string{" ", "\n", "\t\r", "     "} {
		checkSyntax(t, s, len(s))
	}
	for _, s := range []string{"1", "null", "true", `"a"`, "[]", "{}", `[1,{"a":2}]`, "-0.5e3"} {
		for _, more := range []string{",", "]", "}", ":", "[", "{", `"`, "x", "-", "\\", "\x00", "é", "/", "//", "null", `"b"`, "[]"} {
			checkSyntax(t, s+" "+more, len(s)+1)
			checkSyntax(t, s+"\r\n"+more, len(s)+2)
			checkSyntax(t, s+more, len(s))
		}
	}
	for s, at := range map[string]int{
		"[": 1, "[ ": 2, "[1": 2, "[1 ": 3, "[1,": 3, "[1, ": 4, "[,": 1, "[,]": 1, "[1,]": 3, "[1,,2]": 3, "[1:2]": 2, "]": 0, "[}": 1, "[1}": 2, "[]]": 2,
		"{": 1, "{ ": 2, "{,": 1, "{a": 1, "{1": 1, "{null:1}": 1, "{'a'": 1, `{"a"`: 4, `{"a"}`: 4, `{"a",`: 4, `{"a" `: 5, `{"a":`: 5, `{"a":}`: 5, `{"a":,`: 5, `{"a"::`: 5, `{"a":1`: 6, `{"a":1:`: 6, `{"a":1]`: 6, `{"a":1,`: 7, `{"a":1,}`: 7, `{"a":1,2`: 7, `{"a":1,"b"}`: 10, "{]": 1, "}": 0, "{}}": 2, `{"a"1}`: 4,
		`"`: 1, `"a`: 2, `"é`: 3, `["a`: 3, `["a]`: 4, `{"a`: 3, ",": 0, ":": 0, "\\": 0, "\x00": 0, "\ufeff1": 0,
	} {
		checkSyntax(t, s, at)
	}
}

// P6.1: texts cut off after each of their bytes, and with each byte replaced by others.
func TestCutOff(t *testing.T) {
	t.Parallel()
	for _, s := range []string{
		strings.Join(spaced, ""), strings.Join(spaced, " "), `{ "a" : [1, -0.5e3, "\u00e9\n"] }`, `[[[{"a":{"b":[1.5E+7]}}]]]`, `"aé€😀\u00e9\ud83d\ude00\\\"\/\b\f\n\r\t"`, `{"a":1,"b":{"a":2,"c":[]},"c":{}}`, ` [ true , false , null ] `, `{"\ud83d\ude00":"\ud83d","x":1}`, `{"a":1,"\u0061":2,"b":[[[[[[]]]]]]}`, `[[[[[[[1]]]]]]]`,
	} {
		for cut := range len(s) + 1 {
			for _, rest := range []string{"", " ", "]", "}", `"`, ",", ":", "x", "\\", "0", "\n", "[", "{"} {
				changed := s[:cut] + rest
				for _, depth := range []int{2, 5, 32} {
					if !utf8.ValidString(changed) {
						checkFault(t, changed, depth, api.ErrText, text.Wrong(changed))
						continue
					}
					checkDefined(t, changed, depth)
					if changed += s[min(cut+1, len(s)):]; utf8.ValidString(changed) && rest != "" {
						checkDefined(t, changed, depth)
					}
				}
			}
		}
	}
}

// P6.1: all short texts of the bytes that matter.
func TestShortTexts(t *testing.T) {
	t.Parallel()
	forShort(`[]{},:"1\`, 5, func(s string) { checkDefined(t, s, 2) })
	forShort(`[]{},:"a`, 3, func(s string) { checkDefined(t, `{"a":1,`+s, 2) })
	forShort(`"\ud80c`, 4, func(s string) { checkDefined(t, `"\ud800\u`+s, 2) })
	forShort(`"\ud8c0`, 4, func(s string) { checkDefined(t, `"\ud800`+s, 2) })
}

// P6.1: random texts, right ones and such as are changed somewhere, by the definition.
func TestRandomTexts(t *testing.T) {
	t.Parallel()
	random := rand.New(rand.NewSource(6))
	met := map[api.Errno]int{}
	for range 30000 {
		s := randomText(random, randomValue(random, 5))
		for range random.Intn(3) {
			s = changedText(random, s)
		}
		if !utf8.ValidString(s) {
			checkFault(t, s, 3, api.ErrText, text.Wrong(s))
			met[api.ErrText]++
			continue
		}
		met[checkDefined(t, s, 1+random.Intn(5))]++
	}
	for _, e := range []api.Errno{api.OK, api.ErrText, api.ErrSyntax, api.ErrDepth, api.ErrTwice} {
		if met[e] < 200 {
			t.Errorf("only %d random texts with error %d", met[e], e)
		}
	}
}

// randomText writes a valid value with blanks and escapes, and now and then a name twice.
func randomText(random *rand.Rand, v json.Value) string {
	blanks := func() string { return strings.Repeat(" \t\n\r"[random.Intn(4):][:1], max(0, random.Intn(5)-3)) }
	var parts []string
	switch v.Kind {
	case json.String:
		return blanks() + randomQuoted(random, v.Text) + blanks()
	case json.Array:
		for _, x := range v.List {
			parts = append(parts, randomText(random, x))
		}
		return blanks() + "[" + blanks() + strings.Join(parts, ",") + "]" + blanks()
	case json.Object:
		for _, m := range v.Members {
			parts = append(parts, blanks()+randomQuoted(random, m.Name)+blanks()+":"+randomText(random, m.Value))
		}
		if random.Intn(20) == 0 && len(v.Members) > 0 {
			parts = append(parts, blanks()+randomQuoted(random, v.Members[0].Name)+":0")
		}
		return blanks() + "{" + blanks() + strings.Join(parts, ",") + "}" + blanks()
	}
	return blanks() + definedPrint(v) + blanks()
}

func randomQuoted(random *rand.Rand, s string) string {
	var out strings.Builder
	for _, r := range s {
		if random.Intn(3) > 0 {
			out.WriteString(strings.Trim(definedQuote(string(r)), `"`))
			if r == '"' {
				out.WriteByte('"')
			}
			continue
		}
		units := []rune{r}
		if r > 0xffff {
			high, low := utf16.EncodeRune(r)
			units = []rune{high, low}
		}
		for _, unit := range units {
			fmt.Fprintf(&out, []string{`\u%04x`, `\u%04X`}[random.Intn(2)], unit)
		}
	}
	return `"` + out.String() + `"`
}

// changedText cuts a text off, or drops, adds or replaces something.
func changedText(random *rand.Rand, s string) string {
	parts := []string{"[", "]", "{", "}", ",", ":", `"`, `\`, " ", "0", "1", "-", ".", "e", "x", "null", "true", `"a":1,`, `,"a":1`, `"b":`, `\u00e9`, `\ud800`, `\udc00`, `\u`, "\n", "\x00", "é", "\xff", "[[", `{"a":`}
	at := random.Intn(len(s) + 1)
	part := parts[random.Intn(len(parts))]
	switch random.Intn(6) {
	case 0:
		return s[:at]
	case 1:
		return s[:at] + s[min(at+1, len(s)):]
	case 2:
		return s[:at] + part + s[min(at+1, len(s)):]
	}
	return s[:at] + part + s[at:]
}
