package impl

import (
	"strconv"
	"strings"
)

const maxNameBytes = 8
const maxPaddedBytes = 2000

func FormatInt(n int) string { return strconv.Itoa(n) }

func ParseInt(s string) (int, bool) {
	n, err := strconv.Atoi(s)
	// Atoi also reads texts that FormatInt never writes: +7, 07, -0.
	if err != nil || FormatInt(n) != s {
		return 0, false
	}
	return n, true
}

func isDigit(r rune) bool { return '0' <= r && r <= '9' }

func isLetter(r rune) bool { return 'a' <= r && r <= 'z' }

func IsDigits(s string) bool {
	for _, r := range s {
		if !isDigit(r) {
			return false
		}
	}
	return s != ""
}

func IsName(s string) bool {
	if s == "" || len(s) > maxNameBytes {
		return false
	}
	for i, r := range s {
		if !isLetter(r) && (i == 0 || !isDigit(r)) {
			return false
		}
	}
	return true
}

// SplitAny looks at bytes and not at runes, because by may contain a byte that is only a part of a rune of s.
func SplitAny(s string, by string) []string {
	var splits [256]bool
	for i := range len(by) {
		splits[by[i]] = true
	}
	var parts []string
	start := 0
	for i := range len(s) {
		if splits[s[i]] {
			parts = append(parts, s[start:i])
			start = i + 1
		}
	}
	return append(parts, s[start:])
}

func SplitLines(s string) []string {
	lines := SplitAny(s, "\n")
	if last := len(lines) - 1; lines[last] == "" {
		return lines[:last]
	}
	return lines
}

func Join(l []string, by string) string { return joinParts(by, l...) }

// joinParts is variadic so that lists and single pieces are put together in the same way.
func joinParts(by string, parts ...string) string {
	var text strings.Builder
	for i, part := range parts {
		if i > 0 {
			text.WriteString(by)
		}
		text.WriteString(part)
	}
	return text.String()
}

func PadZeros(s string, n int) string {
	if len(s) >= n || n > maxPaddedBytes {
		return s
	}
	return joinParts("", strings.Repeat("0", n-len(s)), s)
}
