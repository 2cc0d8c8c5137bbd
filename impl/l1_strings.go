package impl

import (
	"iter"
	"strconv"
	"strings"
)

const MaxString = 4000
const MaxDecimal = 999999

const checksumStart = 7
const checksumFactor = 41

// checksumModulus is a prime, so that no power of the factor makes the difference of two bytes
// vanish: a single changed byte always changes the checksum.
const checksumModulus = 999979
const checksumMark = "#"

// FormatInt returns the decimal representation of n and true. If n is outside
// -MaxDecimal..MaxDecimal it returns the empty string and false. The representation has no
// leading zeros; a negative number starts with `-`.
func FormatInt(n int) (string, bool) {
	if n < -MaxDecimal || n > MaxDecimal {
		return "", false
	}
	return strconv.Itoa(n), true
}

// ParseInt is the inverse of FormatInt: it returns the integer n for which FormatInt(n) is s,
// and true. For any other string, including strings with leading zeros, a leading `+`, or `-0`,
// it returns 0 and false.
func ParseInt(s string) (int, bool) {
	n := leadingInt(s)
	text, ok := FormatInt(n)
	if !ok || text != s {
		return 0, false
	}
	return n, true
}

// leadingInt only guesses: its caller formats the result again and compares. It stops at the
// first digit beyond the limit, so that no length of s lets the number wrap around.
func leadingInt(s string) int {
	n, sign := 0, 1
scan:
	for i := range len(s) {
		c := s[i]
		switch {
		case c == '-' && i == 0:
			sign = -1
		case c >= '0' && c <= '9' && n <= MaxDecimal:
			n = 10*n + int(c-'0')
		default:
			break scan
		}
	}
	return sign * n
}

// SplitString splits s, which must have at most MaxString bytes, at every occurrence of the
// single-byte separator sep, and returns the substrings between the separators in order, and
// true. The result has one element more than s has separators, so the empty string yields one
// empty element. If s is too long or sep does not consist of exactly one byte, it returns an
// empty slice and false.
func SplitString(s string, sep string) ([]string, bool) {
	if len(s) > MaxString || len(sep) != 1 {
		return nil, false
	}
	var parts []string
	for part := range partsOf(s, sep[0]) {
		// A copy, because a result shares no memory with an argument.
		parts = append(parts, strings.Clone(part))
	}
	return parts, true
}

// partsOf compares bytes, not runes, because the separator may be a byte that is no character
// on its own.
func partsOf(s string, sep byte) iter.Seq[string] {
	return func(yield func(string) bool) {
		begin := 0
		for i := range len(s) {
			if s[i] != sep {
				continue
			}
			if !yield(s[begin:i]) {
				return
			}
			begin = i + 1
		}
		yield(s[begin:])
	}
}

// JoinStrings is the inverse of SplitString: it returns the elements of parts concatenated with
// sep between consecutive elements, and true. It returns the empty string and false if parts is
// empty, if sep does not consist of exactly one byte, if an element contains sep, or if the
// result would have more than MaxString bytes.
func JoinStrings(parts []string, sep string) (string, bool) {
	if len(parts) == 0 || len(sep) != 1 || !canJoin(parts, sep[0]) {
		return "", false
	}
	// A copy, because joining a single element would return that element itself.
	return strings.Clone(strings.Join(parts, sep)), true
}

// canJoin refuses an element with sep inside, because splitting the joined string would tear
// that element in two.
func canJoin(parts []string, sep byte) bool {
	size := len(parts) - 1
	for _, part := range parts {
		size += len(part)
		if size > MaxString || strings.IndexByte(part, sep) >= 0 {
			return false
		}
	}
	return true
}

// LessString reports whether a is lexicographically less than b, comparing byte by byte; a
// proper prefix is less than the longer string.
func LessString(a string, b string) bool { return a < b }

// Checksum returns the checksum of s and true. The checksum starts at 7 and is updated for
// every byte c of s, in order, to (41*h + c + 1) modulo 999979. If s has more than MaxString
// bytes, it returns 0 and false.
func Checksum(s string) (int, bool) {
	if len(s) > MaxString {
		return 0, false
	}
	h := checksumStart
	for i := range len(s) {
		h = (checksumFactor*h + int(s[i]) + 1) % checksumModulus
	}
	return h, true
}

// AppendChecksum returns s followed by `#` and the decimal checksum of s, and true. It returns
// the empty string and false if s contains `#` or if s or the result has more than MaxString
// bytes.
func AppendChecksum(s string) (string, bool) {
	h, ok := Checksum(s)
	if !ok || strings.Contains(s, checksumMark) {
		return "", false
	}
	sum, ok := FormatInt(h)
	sealed := s + checksumMark + sum
	if !ok || len(sealed) > MaxString {
		return "", false
	}
	return sealed, true
}

// VerifyChecksum is the inverse of AppendChecksum: it returns the string t for which
// AppendChecksum(t) is s, and true. If there is no such string, it returns the empty string and
// false.
func VerifyChecksum(s string) (string, bool) {
	text, _, _ := strings.Cut(s, checksumMark)
	sealed, ok := AppendChecksum(text)
	if !ok || sealed != s {
		return "", false
	}
	// A copy, because a result shares no memory with an argument.
	return strings.Clone(text), true
}
