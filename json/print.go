package json

import (
	"strconv"
	"strings"

	"klaxon/api"
)

const hexDigits = "0123456789abcdef"

// Print returns the plain text of v.
func Print(v Value) (string, api.Errno) { return printed(v, false) }

// Pretty returns a text of v on several lines.
func Pretty(v Value) (string, api.Errno) { return printed(v, true) }

func printed(v Value, lines bool) (string, api.Errno) {
	if !v.Right() {
		return "", api.ErrForm
	}
	p := printer{lines: lines}
	p.begin(&v)
	for len(p.open) > 0 {
		p.goOn()
	}
	p.newLine()
	return p.out.String(), api.OK
}

// printer writes valid values. It keeps a list of what is open and does not call itself: values may be deeper than
// the stack allows.
type printer struct {
	out   strings.Builder
	lines bool
	open  []opened
}

// opened is an array or an object of which some values have been written.
type opened struct {
	value *Value
	done  int
}

// begin writes v, or only its opening bracket if it has one.
func (p *printer) begin(v *Value) {
	switch v.Kind {
	case Null:
		p.out.WriteString("null")
	case Truth:
		p.out.WriteString(strconv.FormatBool(v.Yes))
	case Number:
		p.out.WriteString(v.Text)
	case String:
		p.quote(v.Text)
	case Array:
		p.out.WriteByte('[')
		p.open = append(p.open, opened{value: v})
	case Object:
		p.out.WriteByte('{')
		p.open = append(p.open, opened{value: v})
	}
}

// goOn begins the next value of what was opened last, or closes it.
func (p *printer) goOn() {
	last := &p.open[len(p.open)-1]
	v, i := last.value, last.done
	// A valid value has a list or members, not both.
	if i == len(v.List)+len(v.Members) {
		p.close()
		return
	}
	last.done++
	if i > 0 {
		p.out.WriteByte(',')
	}
	p.newLine()
	if v.Kind == Array {
		p.begin(&v.List[i])
		return
	}
	p.name(v.Members[i].Name)
	p.begin(&v.Members[i].Value)
}

// close closes what was opened last.
func (p *printer) close() {
	last := p.open[len(p.open)-1]
	p.open = p.open[:len(p.open)-1]
	if last.done > 0 {
		p.newLine()
	}
	if last.value.Kind == Array {
		p.out.WriteByte(']')
	} else {
		p.out.WriteByte('}')
	}
}

// newLine begins a line, if there are to be lines.
func (p *printer) newLine() {
	if !p.lines {
		return
	}
	p.out.WriteByte('\n')
	for range p.open {
		p.out.WriteString("  ")
	}
}

func (p *printer) name(s string) {
	p.quote(s)
	p.out.WriteByte(':')
	if p.lines {
		p.out.WriteByte(' ')
	}
}

func (p *printer) quote(s string) {
	p.out.WriteByte('"')
	for i := range len(s) {
		p.quoteByte(s[i])
	}
	p.out.WriteByte('"')
}

func (p *printer) quoteByte(b byte) {
	letter := escapeLetter(b)
	switch {
	case letter != 0:
		p.out.WriteByte('\\')
		p.out.WriteByte(letter)
	case b < firstPrinted:
		p.out.WriteString(`\u00`)
		p.out.WriteByte(hexDigits[b>>4])
		p.out.WriteByte(hexDigits[b&0xf])
	default:
		p.out.WriteByte(b)
	}
}

// escapeLetter returns the letter that stands for b behind a `\` in a plain text, and 0 if there is none.
func escapeLetter(b byte) byte {
	switch b {
	case '"', '\\':
		return b
	case '\b':
		return 'b'
	case '\f':
		return 'f'
	case '\n':
		return 'n'
	case '\r':
		return 'r'
	case '\t':
		return 't'
	}
	return 0
}
