package json

// What of the text of a number was read last.
const (
	nothing = iota
	minus
	zero
	digits
	point
	fraction
	letter
	sign
	exponent
	misfit
)

// isNumber reports whether s is the text of a number.
func isNumber(s string) bool {
	end, whole := numberEnd(s)
	return whole && end == len(s)
}

// numberEnd returns how far s begins as the text of a number does, and whether there is such a text up to there.
func numberEnd(s string) (int, bool) {
	last := nothing
	for i, r := range s {
		next := after(last, r)
		if next == misfit {
			return i, mayEnd(last)
		}
		last = next
	}
	return len(s), mayEnd(last)
}

func mayEnd(last int) bool {
	return last == zero || last == digits || last == fraction || last == exponent
}

// after returns what r is, if it continues the text of a number behind what was read last.
func after(last int, r rune) int {
	switch last {
	case nothing, minus:
		return afterStart(last, r)
	case zero, digits, fraction:
		return afterDigit(last, r)
	case point:
		return ifDigit(r, fraction)
	case letter:
		if r == '+' || r == '-' {
			return sign
		}
	}
	return ifDigit(r, exponent)
}

func afterStart(last int, r rune) int {
	switch {
	case r == '-' && last == nothing:
		return minus
	case r == '0':
		return zero
	}
	return ifDigit(r, digits)
}

func afterDigit(last int, r rune) int {
	switch {
	case r == '.' && last != fraction:
		return point
	case r == 'e', r == 'E':
		return letter
	case last == zero:
		return misfit
	}
	return ifDigit(r, last)
}

func ifDigit(r rune, then int) int {
	if '0' <= r && r <= '9' {
		return then
	}
	return misfit
}
