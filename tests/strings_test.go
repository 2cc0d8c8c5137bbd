package tests

import (
	"slices"
	"strconv"
	"strings"
	"testing"
	"unsafe"

	"loop.example/g01060/impl"
)

// oddTexts are texts with empty parts, bytes that are no characters, and both limits of a byte.
func oddTexts() []string {
	return []string{
		"", ",", ",,", "a", "a,", ",a", "a,,b", ",a,b,", "a b;c", "\x00", "\x00,\xff", "\xff\xfe,\x80",
		"é,ü", "line\nline", strings.Repeat(",", impl.MaxString), strings.Repeat("x", impl.MaxString),
		strings.Repeat("ab,", impl.MaxString/3),
	}
}

func TestFormatIntAndParseIntRoundTrip(t *testing.T) {
	for n := -impl.MaxDecimal; n <= impl.MaxDecimal; n++ {
		s, ok := impl.FormatInt(n)
		if !ok || s != strconv.Itoa(n) {
			t.Fatalf("FormatInt(%d) = %q, %v", n, s, ok)
		}
		if m, ok := impl.ParseInt(s); !ok || m != n {
			t.Fatalf("ParseInt(%q) = %d, %v", s, m, ok)
		}
	}
}

func TestFormatIntOutsideLimits(t *testing.T) {
	const maxInt = 1<<63 - 1
	for _, n := range []int{1000000, -1000000, 1000001, 1 << 32, -1 << 32, maxInt, -maxInt, -maxInt - 1} {
		if s, ok := impl.FormatInt(n); ok || s != "" {
			t.Errorf("FormatInt(%d) = %q, %v", n, s, ok)
		}
	}
}

func TestParseIntRejects(t *testing.T) {
	for _, s := range []string{
		"", "-", "--", "--1", "-+1", "+", "+1", "+0", "-0", "00", "01", "-01", "0001", "000000000000001",
		"1000000", "-1000000", "9999990", "10000000", "9223372036854775808", "18446744073709551616",
		"18446744073709551617", "-18446744073709551617", " 1", "1 ", "1-", "1-1", "1x", "x1", "0x1", "1_0",
		"1e3", "1.0", "1,0", "1\n", "\x001", "1\x00", "/", ":", "1:", "1/", "٣", "１", "\xff",
		strings.Repeat("0", 50), strings.Repeat("1", impl.MaxString+1), "1" + strings.Repeat("0", 64),
	} {
		if n, ok := impl.ParseInt(s); ok || n != 0 {
			t.Errorf("ParseInt(%q) = %d, %v", s, n, ok)
		}
	}
}

// TestParseIntShortTexts holds every text of at most four of these bytes against the definition:
// a number is accepted exactly if it is formatted in just this way.
func TestParseIntShortTexts(t *testing.T) {
	texts := []string{""}
	for i := 0; len(texts[i]) < 4; i++ {
		for _, c := range "019-+ x" {
			texts = append(texts, texts[i]+string(c))
		}
	}
	for _, s := range texts {
		want, err := strconv.Atoi(s)
		valid := err == nil && strconv.Itoa(want) == s
		if !valid {
			want = 0
		}
		if n, ok := impl.ParseInt(s); ok != valid || n != want {
			t.Errorf("ParseInt(%q) = %d, %v", s, n, ok)
		}
	}
}

func TestSplitStringParts(t *testing.T) {
	for _, c := range []struct {
		s, sep string
		want   []string
	}{
		{"a,,b", ",", []string{"a", "", "b"}},
		{"", ",", []string{""}},
		{",", ",", []string{"", ""}},
		{",,", ",", []string{"", "", ""}},
		{"a", ",", []string{"a"}},
		{"a,b,", ",", []string{"a", "b", ""}},
		{",a b", ",", []string{"", "a b"}},
		{"a,b;c", ";", []string{"a,b", "c"}},
		{"a\x00b", "\x00", []string{"a", "b"}},
		{"é", "\xc3", []string{"", "\xa9"}},
		{"\xff\xfe\xff", "\xfe", []string{"\xff", "\xff"}},
		{"one\ntwo", "\n", []string{"one", "two"}},
	} {
		if got, ok := impl.SplitString(c.s, c.sep); !ok || !slices.Equal(got, c.want) {
			t.Errorf("SplitString(%q, %q) = %q, %v", c.s, c.sep, got, ok)
		}
	}
}

func TestSplitStringLimits(t *testing.T) {
	for _, c := range []string{"x", ","} {
		full := strings.Repeat(c, impl.MaxString)
		parts, ok := impl.SplitString(full, ",")
		if !ok || len(parts) != strings.Count(full, ",")+1 {
			t.Errorf("%d times %q gives %d parts, %v", impl.MaxString, c, len(parts), ok)
		}
		if parts, ok := impl.SplitString(full+c, ","); ok || len(parts) != 0 {
			t.Errorf("%d times %q gives %d parts, %v", impl.MaxString+1, c, len(parts), ok)
		}
	}
	for _, sep := range []string{"", ",,", "ab", "é", strings.Repeat(",", impl.MaxString+1)} {
		for _, s := range []string{"", "a", "a,b", sep} {
			if parts, ok := impl.SplitString(s, sep); ok || len(parts) != 0 {
				t.Errorf("SplitString(%q, %q) = %q, %v", s, sep, parts, ok)
			}
		}
	}
}

func TestSplitThenJoinForEverySeparator(t *testing.T) {
	for _, s := range oddTexts() {
		for b := range 256 {
			sep := string([]byte{byte(b)})
			parts, ok := impl.SplitString(s, sep)
			if !ok || len(parts) != strings.Count(s, sep)+1 {
				t.Fatalf("SplitString(%q, %q) gives %d parts, %v", s, sep, len(parts), ok)
			}
			if joined, ok := impl.JoinStrings(parts, sep); !ok || joined != s {
				t.Fatalf("%q does not come back from its parts at %q: %q, %v", s, sep, joined, ok)
			}
		}
	}
}

func TestJoinThenSplit(t *testing.T) {
	for _, parts := range [][]string{
		{""}, {"a"}, {"", ""}, {"a", "", "b"}, {"", "a", ""}, {"a,b", "c"}, {"\x00", "\xff", "\x80"}, {"é", "ü"},
		make([]string, impl.MaxString+1), {strings.Repeat("x", impl.MaxString)},
	} {
		joined, ok := impl.JoinStrings(parts, ";")
		if !ok || joined != strings.Join(parts, ";") {
			t.Fatalf("JoinStrings(%q) = %q, %v", parts, joined, ok)
		}
		if back, ok := impl.SplitString(joined, ";"); !ok || !slices.Equal(back, parts) {
			t.Errorf("%q comes back as %q, %v", parts, back, ok)
		}
	}
}

func TestJoinStringsRejectsSeparatorInside(t *testing.T) {
	for _, bad := range []string{";", ";a", "a;", "a;b", ";;", strings.Repeat("a", 99) + ";"} {
		for _, parts := range [][]string{{bad}, {bad, "x"}, {"x", bad}, {"x", "", bad, "y"}} {
			if s, ok := impl.JoinStrings(parts, ";"); ok || s != "" {
				t.Errorf("JoinStrings(%q) = %q, %v", parts, s, ok)
			}
			if s, ok := impl.JoinStrings(parts, ","); !ok || s != strings.Join(parts, ",") {
				t.Errorf("JoinStrings(%q) with another separator = %q, %v", parts, s, ok)
			}
		}
	}
	for _, sep := range []string{"\x00", "\xff", "\xa9", "\xc3"} {
		if s, ok := impl.JoinStrings([]string{"a", "\x00\xff é"}, sep); ok || s != "" {
			t.Errorf("JoinStrings with %q inside = %q, %v", sep, s, ok)
		}
	}
}

func TestJoinStringsRejectsInvalid(t *testing.T) {
	for _, parts := range [][]string{nil, {}} {
		if s, ok := impl.JoinStrings(parts, ";"); ok || s != "" {
			t.Errorf("JoinStrings of nothing = %q, %v", s, ok)
		}
	}
	for _, sep := range []string{"", ";;", "ab", "é", strings.Repeat(";", impl.MaxString)} {
		for _, parts := range [][]string{nil, {""}, {"a"}, {"a", "b"}} {
			if s, ok := impl.JoinStrings(parts, sep); ok || s != "" {
				t.Errorf("JoinStrings(%q, %q) = %q, %v", parts, sep, s, ok)
			}
		}
	}
}

func TestJoinStringsLimit(t *testing.T) {
	half := strings.Repeat("x", impl.MaxString/2)
	for _, c := range []struct {
		parts []string
		fits  bool
	}{
		{[]string{half + half}, true},
		{[]string{half + half + "x"}, false},
		{[]string{half, half[1:]}, true},
		{[]string{half, half}, false},
		{[]string{half, "", half[2:]}, true},
		{[]string{half, "", half[1:]}, false},
		{make([]string, impl.MaxString+1), true},
		{make([]string, impl.MaxString+2), false},
		{slices.Repeat([]string{half}, 1000), false},
	} {
		want := ""
		if c.fits {
			want = strings.Join(c.parts, ";")
		}
		if s, ok := impl.JoinStrings(c.parts, ";"); ok != c.fits || s != want {
			t.Errorf("%d parts joined to %d bytes, %v", len(c.parts), len(s), ok)
		}
	}
}

func TestLessStringOrder(t *testing.T) {
	ascending := []string{"", "\x00", "\x00\x00", "\x01", " ", "A", "Z", "a", "a\x00", "aa", "ab", "b", "\x7f", "\x80", "é", "\xff", "\xff\x00", "\xff\xff"}
	for i, a := range ascending {
		for j, b := range ascending {
			if impl.LessString(a, b) != (i < j) {
				t.Errorf("LessString(%q, %q) = %v", a, b, i >= j)
			}
		}
	}
	long := strings.Repeat("x", impl.MaxString+1)
	if !impl.LessString(long, long+"x") || impl.LessString(long+"x", long) || impl.LessString(long, long) {
		t.Error("a text beyond MaxString is compared like any other one")
	}
}

// TestResultsOwnTheirMemory looks at addresses, because texts cannot be changed to show that
// they share memory.
func TestResultsOwnTheirMemory(t *testing.T) {
	s := strings.Repeat("part,", 3) + "#7"
	parts, _ := impl.SplitString(s, ",")
	joined, _ := impl.JoinStrings([]string{s}, ";")
	sealed, _ := impl.AppendChecksum("part")
	text, _ := impl.VerifyChecksum(sealed)
	if len(parts) != 4 || joined != s || text != "part" {
		t.Fatalf("%q, %q, %q", parts, joined, text)
	}
	if areWithin(joined, s) || areWithin(text, sealed) {
		t.Error("a result is a part of its argument")
	}
	for i, part := range parts {
		if areWithin(part, s) || i > 0 && areWithin(part, parts[i-1]) {
			t.Errorf("part %d shares memory", i)
		}
	}
}

// areWithin reports whether the bytes of part lie among those of whole; both have some.
func areWithin(part, whole string) bool {
	p, w := uintptr(unsafe.Pointer(unsafe.StringData(part))), uintptr(unsafe.Pointer(unsafe.StringData(whole)))
	return p >= w && p < w+uintptr(len(whole))
}
