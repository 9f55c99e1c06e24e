package tuple_test

import (
	"math/big"
	"regexp"
	"strings"

	"klaxon/tuple"
)

// modelKey returns the bytes of a key, by the chapter's words.
func modelKey(parts []tuple.Part) string {
	var b []byte
	for _, p := range parts {
		if p.IsNum {
			b = append(b, 2)
			sum := new(big.Int).Add(big.NewInt(int64(p.Num)), new(big.Int).Lsh(big.NewInt(1), 63))
			b = append(b, sum.FillBytes(make([]byte, 8))...)
			continue
		}
		b = append(b, 1)
		for i := 0; i < len(p.Text); i++ {
			b = append(b, p.Text[i])
			if p.Text[i] == 0 {
				b = append(b, 255)
			}
		}
		b = append(b, 0, 0)
	}
	return string(b)
}

var keyBytes = regexp.MustCompile(`(?s)^(?:\x01(?:[^\x00]|\x00\x{ff})*\x00\x00|\x02.{8})*$`)

// modelIsKey reports whether a key has these bytes.
func modelIsKey(s string) bool {
	// Each byte as the character with its number.
	var letters strings.Builder
	for i := range len(s) {
		letters.WriteRune(rune(s[i]))
	}
	return keyBytes.MatchString(letters.String())
}

// modelOrder returns -1, 0, or 1, by the chapter's words.
func modelOrder(a, b []tuple.Part) int {
	for i := range min(len(a), len(b)) {
		if order := modelPartOrder(a[i], b[i]); order != 0 {
			return order
		}
	}
	return modelIntOrder(len(a), len(b))
}

func modelPartOrder(a, b tuple.Part) int {
	if a.IsNum != b.IsNum {
		if b.IsNum {
			return -1
		}
		return 1
	}
	if a.IsNum {
		return modelIntOrder(a.Num, b.Num)
	}
	for i := range min(len(a.Text), len(b.Text)) {
		if a.Text[i] != b.Text[i] {
			return modelIntOrder(int(a.Text[i]), int(b.Text[i]))
		}
	}
	return modelIntOrder(len(a.Text), len(b.Text))
}

func modelIntOrder(a, b int) int {
	if a < b {
		return -1
	}
	if a > b {
		return 1
	}
	return 0
}
