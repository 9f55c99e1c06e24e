package tuple

import "strings"

const (
	// The first byte of a part tells its kind; a string's is the lesser one, since it precedes every number.
	textMark   = 0x01
	numberMark = 0x02

	zeroByte = "\x00"

	// The byte behind a zero byte tells whether the string ends there or has that byte itself. The end's is the lesser one,
	// since a string precedes those that it begins.
	endMark    = "\x00"
	insideMark = "\xff"

	numberBytes = 8
	bitsPerByte = 8

	// Numbers are written as their distance from the least one, so that negative ones come first.
	numberShift = 1 << 63
)

// writeText appends the bytes of a string as a part.
func writeText(out *strings.Builder, s string) {
	out.WriteByte(textMark)
	out.WriteString(strings.ReplaceAll(s, zeroByte, zeroByte+insideMark))
	out.WriteString(zeroByte + endMark)
}

// writeNumber appends the bytes of a number as a part.
func writeNumber(out *strings.Builder, n int) {
	out.WriteByte(numberMark)
	distance := uint64(n) + numberShift
	for i := range numberBytes {
		out.WriteByte(byte(distance >> ((numberBytes - 1 - i) * bitsPerByte)))
	}
}

// readPart returns the part whose bytes s begins with, and what follows them, if there is one. s is not empty.
func readPart(s string) (part Part, rest string, ok bool) {
	switch s[0] {
	case textMark:
		return readText(s[1:])
	case numberMark:
		return readNumber(s[1:])
	}
	return Part{}, "", false
}

// readText returns the string that s begins with, as a part, and what follows its end, if it has one.
func readText(s string) (part Part, rest string, ok bool) {
	var out strings.Builder
	for {
		piece, behind, _ := strings.Cut(s, zeroByte)
		if behind == "" { // without a zero byte, too, nothing is behind it
			return Part{}, "", false
		}
		out.WriteString(piece)
		s = behind[1:]
		switch behind[:1] {
		case endMark:
			return Part{Text: out.String()}, s, true
		case insideMark:
			out.WriteString(zeroByte)
		default:
			return Part{}, "", false
		}
	}
}

// readNumber returns the number whose bytes s begins with, as a part, and what follows them, if there are enough.
func readNumber(s string) (part Part, rest string, ok bool) {
	if len(s) < numberBytes {
		return Part{}, "", false
	}
	var distance uint64
	for i := range numberBytes {
		distance = distance<<bitsPerByte | uint64(s[i])
	}
	return Num(int(distance - numberShift)), s[numberBytes:], true
}
