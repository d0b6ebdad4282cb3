package impl

import (
	"strconv"
	"strings"
)

const (
	maxSmallName = 20
	maxDigits    = 7
	maxHexDigits = 4
)

type byteKind int

const (
	plainByte byteKind = iota
	blank
	smallLetter
	largeLetter
	digit
	smallHexLetter
	largeHexLetter
	hyphen
)

func isOf(c byte, kind byteKind) bool {
	switch kind {
	case plainByte:
		return 32 <= c && c <= 126
	case blank:
		return c == 32 || c == 9
	case smallLetter:
		return 'a' <= c && c <= 'z'
	case largeLetter:
		return 'A' <= c && c <= 'Z'
	case digit:
		return '0' <= c && c <= '9'
	case smallHexLetter:
		return 'a' <= c && c <= 'f'
	case largeHexLetter:
		return 'A' <= c && c <= 'F'
	case hyphen:
		return c == '-'
	}
	return false
}

func isOneOf(c byte, kinds ...byteKind) bool {
	for _, kind := range kinds {
		if isOf(c, kind) {
			return true
		}
	}
	return false
}

func allOf(s string, kinds ...byteKind) bool {
	for i := 0; i < len(s); i++ {
		if !isOneOf(s[i], kinds...) {
			return false
		}
	}
	return true
}

func Plain(s string) bool { return allOf(s, plainByte) }

func SmallName(s string) bool {
	if len(s) < 1 || len(s) > maxSmallName || !isOneOf(s[0], smallLetter) {
		return false
	}
	return allOf(s, smallLetter, digit, hyphen)
}

// Lower goes byte by byte: the library's way would turn letters beyond ASCII,
// and bytes that are no runes, too.
func Lower(s string) string {
	b := []byte(s)
	for i, c := range b {
		if isOneOf(c, largeLetter) {
			b[i] = c - 'A' + 'a'
		}
	}
	return string(b)
}

func Trim(s string) string {
	from, to := 0, len(s)
	for from < to && isOneOf(s[from], blank) {
		from++
	}
	for from < to && isOneOf(s[to-1], blank) {
		to--
	}
	// A part of s would share its memory with the argument.
	return strings.Clone(s[from:to])
}

func NumText(n int) string { return strconv.Itoa(max(n, 0)) }

func ParseNum(s string, most int) (int, bool) {
	// The library reads signs as well, so the bytes are looked at ahead of it.
	if len(s) < 1 || len(s) > maxDigits || !allOf(s, digit) {
		return 0, false
	}
	if len(s) > 1 && s[0] == '0' {
		return 0, false
	}
	n, err := strconv.Atoi(s)
	if err != nil || n > most {
		return 0, false
	}
	return n, true
}

func Hex(n int) string { return strconv.FormatInt(int64(max(n, 0)), 16) }

func ParseHex(s string) (int, bool) {
	if len(s) < 1 || len(s) > maxHexDigits || !allOf(s, digit, smallHexLetter, largeHexLetter) {
		return 0, false
	}
	n, err := strconv.ParseInt(s, 16, 64)
	if err != nil {
		return 0, false
	}
	return int(n), true
}
