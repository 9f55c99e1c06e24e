package json

import (
	"strings"

	"klaxon/api"
	"klaxon/text"
)

const (
	firstPrinted = 0x20

	firstHigh = 0xd800
	firstLow  = 0xdc00
	lastLow   = 0xdfff
	firstLong = 0x10000
	lowBits   = 10
)

// fault is what the reading of an invalid text is abandoned with.
type fault struct {
	errno api.Errno
	at    int
}

// parser reads s, of which the bytes before at have been read; room more arrays and objects may be opened.
type parser struct {
	s    string
	at   int
	room int
}

// Parse returns the value of which b is a text, or an error and its offset.
func Parse(b []byte, depth int) (Value, api.Errno, int) {
	if len(b) > api.MaxJSON {
		return Value{}, api.ErrSize, 0
	}
	if depth < 1 || depth > api.MaxDepth {
		return Value{}, api.ErrRange, 0
	}
	s := string(b)
	if at := text.Wrong(s); at >= 0 {
		return Value{}, api.ErrText, at
	}
	return parse(s, depth)
}

// parse is where a text that was abandoned ends.
func parse(s string, depth int) (v Value, e api.Errno, at int) {
	defer func() {
		thrown := recover()
		if thrown == nil {
			return
		}
		f, ok := thrown.(fault)
		if !ok {
			panic(thrown)
		}
		v, e, at = Value{}, f.errno, f.at
	}()
	p := &parser{s: s, room: depth}
	v = p.value()
	p.skipBlanks()
	if p.at < len(s) {
		p.fail(api.ErrSyntax, p.at)
	}
	return v, api.OK, 0
}

func (p *parser) fail(e api.Errno, at int) { panic(fault{e, at}) }

// next returns the byte that is to be read; at the end it is 0, which may not stand anywhere in a text.
func (p *parser) next() byte {
	if p.at == len(p.s) {
		return 0
	}
	return p.s[p.at]
}

func (p *parser) take(b byte) {
	if p.next() != b {
		p.fail(api.ErrSyntax, p.at)
	}
	p.at++
}

func (p *parser) takeAll(s string) {
	for i := range len(s) {
		p.take(s[i])
	}
}

func (p *parser) skipBlanks() {
	for {
		switch p.next() {
		case ' ', '\t', '\n', '\r':
			p.at++
		default:
			return
		}
	}
}

func (p *parser) value() Value {
	p.skipBlanks()
	switch p.next() {
	case 'n':
		p.takeAll("null")
		return Value{Kind: Null}
	case 't':
		p.takeAll("true")
		return Value{Kind: Truth, Yes: true}
	case 'f':
		p.takeAll("false")
		return Value{Kind: Truth}
	case '"':
		return Value{Kind: String, Text: p.quoted()}
	case '[':
		return Value{Kind: Array, List: p.list()}
	case '{':
		return Value{Kind: Object, Members: p.members()}
	}
	return Value{Kind: Number, Text: p.number()}
}

func (p *parser) number() string {
	size, whole := numberEnd(p.s[p.at:])
	start := p.at
	p.at += size
	if !whole {
		p.fail(api.ErrSyntax, p.at)
	}
	// The value is not to hold on to the text around it.
	return strings.Clone(p.s[start:p.at])
}

func (p *parser) list() []Value {
	var l []Value
	p.elements(']', func() { l = append(l, p.value()) })
	return l
}

func (p *parser) members() []Member {
	var l []Member
	met := map[string]struct{}{}
	p.elements('}', func() {
		start := p.at
		name := p.quoted()
		if _, twice := met[name]; twice {
			p.fail(api.ErrTwice, start)
		}
		met[name] = struct{}{}
		p.skipBlanks()
		p.take(':')
		l = append(l, Member{Name: name, Value: p.value()})
	})
	return l
}

// elements reads an opening bracket, what element reads, with commas between, and the closing bracket.
func (p *parser) elements(closing byte, element func()) {
	if p.room == 0 {
		p.fail(api.ErrDepth, p.at)
	}
	p.room--
	p.at++
	p.skipBlanks()
	if p.next() != closing {
		element()
		p.skipBlanks()
		for p.next() == ',' {
			p.at++
			p.skipBlanks()
			element()
			p.skipBlanks()
		}
	}
	p.take(closing)
	p.room++
}

func (p *parser) quoted() string {
	p.take('"')
	var out strings.Builder
	for p.next() != '"' {
		switch b := p.next(); {
		case b == '\\':
			out.WriteRune(p.escaped())
		case b < firstPrinted:
			p.fail(api.ErrSyntax, p.at)
		default:
			out.WriteByte(b)
			p.at++
		}
	}
	p.at++
	return out.String()
}

// escaped reads what begins with `\`.
func (p *parser) escaped() rune {
	start := p.at
	p.at++
	letter := p.next()
	if letter != 'u' {
		r := unescape(letter)
		if r == 0 {
			p.fail(api.ErrSyntax, p.at)
		}
		p.at++
		return r
	}
	p.at++
	r := p.hexNumber()
	switch {
	case firstHigh <= r && r < firstLow:
		return p.secondHalf(r, start)
	case firstLow <= r && r <= lastLow:
		p.fail(api.ErrSyntax, start)
	}
	return r
}

// unescape returns the character that the letter behind `\` stands for, and 0 if it stands for none.
func unescape(letter byte) rune {
	switch letter {
	case '"', '\\', '/':
		return rune(letter)
	case 'b':
		return '\b'
	case 'f':
		return '\f'
	case 'n':
		return '\n'
	case 'r':
		return '\r'
	case 't':
		return '\t'
	}
	return 0
}

// secondHalf reads the `\u` that belongs to a first half, which began at start, and returns the character of both.
func (p *parser) secondHalf(first rune, start int) rune {
	if !strings.HasPrefix(p.s[p.at:], `\u`) {
		p.fail(api.ErrSyntax, start)
	}
	p.at += len(`\u`)
	second := p.hexNumber()
	if second < firstLow || second > lastLow {
		p.fail(api.ErrSyntax, start)
	}
	return firstLong + (first-firstHigh)<<lowBits + (second - firstLow)
}

// hexNumber reads four hexadecimal digits.
func (p *parser) hexNumber() rune {
	n := rune(0)
	for range 4 {
		digit := hexDigit(p.next())
		if digit < 0 {
			p.fail(api.ErrSyntax, p.at)
		}
		n = n<<4 | digit
		p.at++
	}
	return n
}

// hexDigit returns the value of a hexadecimal digit of either case, and -1 for other bytes.
func hexDigit(b byte) rune {
	switch {
	case '0' <= b && b <= '9':
		return rune(b - '0')
	case 'a' <= b && b <= 'f':
		return rune(b-'a') + 10
	case 'A' <= b && b <= 'F':
		return rune(b-'A') + 10
	}
	return -1
}
