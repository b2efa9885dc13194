package impl

import (
	"strconv"
	"strings"
)

const MaxInt = 4611686018427387903
const MinInt = -4611686018427387904
const MaxWord = 12

const hexDigits = "0123456789abcdef"

// Wrap relies on the shift back being arithmetic: it spreads bit 62, the sign
// of a 63-bit number, over the bit that the first shift has dropped.
func Wrap(n int) int { return n << 1 >> 1 }

// AddW, SubW and MulW need no wider type: what 64 bits lose is a multiple of
// 2^64, which is 0 modulo 2^63 as well.
func AddW(a int, b int) int { return Wrap(a + b) }

func SubW(a int, b int) int { return Wrap(a - b) }

func MulW(a int, b int) int { return Wrap(a * b) }

// DivW tests the wrapped divisor, since an int that is not 0 may wrap to 0,
// and wraps the quotient, since MinInt / -1 is not a number.
func DivW(a int, b int) (int, bool) {
	x, y := Wrap(a), Wrap(b)
	if y == 0 {
		return 0, false
	}
	return Wrap(x / y), true
}

func RemW(a int, b int) (int, bool) {
	x, y := Wrap(a), Wrap(b)
	if y == 0 {
		return 0, false
	}
	return x % y, true
}

func NumText(n int) string {
	if !isNumber(n) {
		return ""
	}
	return strconv.Itoa(n)
}

// TextNum compares with NumText because Atoi also accepts a plus sign and
// leading zeros.
func TextNum(s string) (int, bool) {
	n, err := strconv.Atoi(s)
	if err != nil || NumText(n) != s {
		return 0, false
	}
	return n, true
}

func Quote(s string) string {
	parts := []string{`"`}
	for i := 0; i < len(s); i++ {
		parts = append(parts, quotedByte(s[i]))
	}
	parts = append(parts, `"`)
	return joined(parts...)
}

// Unquote reads s leniently and compares with Quote, which rejects every
// spelling of a string but the one that Quote chooses.
func Unquote(s string) (string, bool) {
	if len(s) < 2 {
		return "", false
	}
	text := unescaped(s[1 : len(s)-1])
	if Quote(text) != s {
		return "", false
	}
	return text, true
}

func NameOk(s string) bool {
	return isWord(s) && isLower(s[0]) && !isKeyword(s)
}

func ConOk(s string) bool {
	return isWord(s) && isUpper(s[0])
}

func isNumber(n int) bool { return Wrap(n) == n }

func joined(parts ...string) string { return strings.Join(parts, "") }

func quotedByte(b byte) string {
	itself := string([]byte{b})
	switch {
	case b == '\n':
		return `\n`
	case b == '"' || b == '\\':
		return joined(`\`, itself)
	case b >= 32 && b <= 126:
		return itself
	}
	upper, lower := b>>4, b&15
	return joined(`\x`, hexDigits[upper:upper+1], hexDigits[lower:lower+1])
}

func unescaped(inner string) string {
	text := []byte{}
	for i := 0; i < len(inner); i++ {
		b := inner[i]
		if b == '\\' && i+1 < len(inner) {
			meant, length := escaped(inner[i+1:])
			b = meant
			i += length
		}
		text = append(text, b)
	}
	return string(text)
}

// escaped returns the byte for which the text after a backslash stands, and
// the length of that text. Digits that are not hexadecimal count as 0: Unquote
// rejects them.
func escaped(rest string) (byte, int) {
	switch {
	case rest[0] == 'n':
		return '\n', 1
	case rest[0] == 'x' && len(rest) >= 3:
		n, _ := strconv.ParseUint(rest[1:3], 16, 8)
		return byte(n), 3
	}
	return rest[0], 1
}

func isWord(s string) bool {
	if len(s) < 1 || len(s) > MaxWord {
		return false
	}
	for i := 0; i < len(s); i++ {
		if !isWordByte(s[i]) {
			return false
		}
	}
	return true
}

func isWordByte(b byte) bool {
	return isLower(b) || isUpper(b) || isDigit(b) || b == '_'
}

func isLower(b byte) bool { return b >= 'a' && b <= 'z' }

func isUpper(b byte) bool { return b >= 'A' && b <= 'Z' }

func isDigit(b byte) bool { return b >= '0' && b <= '9' }

func isKeyword(s string) bool {
	switch s {
	case "let", "rec", "in", "fun", "if", "then", "else", "match", "with",
		"end", "type", "of", "raise", "try", "ref", "true", "false":
		return true
	}
	return false
}
