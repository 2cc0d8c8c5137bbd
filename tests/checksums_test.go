package tests

import (
	"slices"
	"strconv"
	"strings"
	"testing"

	"loop.example/g01060/impl"
)

const checksumModulus = 999979

// longestSealable returns a text whose checksummed string has exactly MaxString bytes.
func longestSealable(t *testing.T) string {
	for c := byte('a'); c <= 'z'; c++ {
		s := string([]byte{c}) + strings.Repeat("m", impl.MaxString-8)
		h, ok := impl.Checksum(s)
		if ok && h >= 100000 {
			return s
		}
	}
	t.Fatal("no text fills MaxString with its checksum")
	return ""
}

// textWithChecksum returns a text of four bytes that has the checksum want: fewer bytes do not
// reach every checksum.
func textWithChecksum(t *testing.T, want int) string {
	for b := range 1 << 24 {
		prefix := string([]byte{byte(b >> 16), byte(b >> 8), byte(b)})
		h, _ := impl.Checksum(prefix)
		last := ((want-41*h-1)%checksumModulus + checksumModulus) % checksumModulus
		if last < 256 && last != '#' && !strings.Contains(prefix, "#") {
			return prefix + string([]byte{byte(last)})
		}
	}
	t.Fatal("no text of four bytes has the checksum", want)
	return ""
}

func TestChecksumKnown(t *testing.T) {
	for s, want := range map[string]int{
		"": 7, "a": 385, "ab": 15884, "abc": 651344, "abcd": 705751, "\x00": 288, "\xff": 543, "#": 323, "\x00\x00": 11809,
	} {
		if h, ok := impl.Checksum(s); !ok || h != want {
			t.Errorf("Checksum(%q) = %d, %v, not %d", s, h, ok, want)
		}
	}
}

func TestChecksumOfEachByte(t *testing.T) {
	s, h := "", 7
	for i := range impl.MaxString {
		c := byte(i*i + 3*i)
		s += string([]byte{c})
		h = (41*h + int(c) + 1) % checksumModulus
		if got, ok := impl.Checksum(s); !ok || got != h {
			t.Fatalf("checksum of %d bytes is %d, %v, not %d", len(s), got, ok, h)
		}
	}
	for _, more := range []string{"a", "ab", s} {
		if got, ok := impl.Checksum(s + more); ok || got != 0 {
			t.Errorf("checksum of %d bytes is %d, %v", len(s+more), got, ok)
		}
	}
}

func TestChecksummedTextsRoundTrip(t *testing.T) {
	texts := []string{"", "a", "0", "7", "a 7", "-1", "\x00", "\xff\xfe", "é", "line\n", "x@y", strings.Repeat("z", 500)}
	for _, h := range []int{0, 9, 10, 99, 100, 9999, 10000, 99999, 100000, checksumModulus - 1} {
		texts = append(texts, textWithChecksum(t, h))
	}
	texts = append(texts, longestSealable(t))
	for _, s := range texts {
		h, _ := impl.Checksum(s)
		sealed, ok := impl.AppendChecksum(s)
		if !ok || sealed != s+"#"+strconv.Itoa(h) {
			t.Fatalf("AppendChecksum(%q) = %q, %v", s, sealed, ok)
		}
		if back, ok := impl.VerifyChecksum(sealed); !ok || back != s {
			t.Errorf("VerifyChecksum(%q) = %q, %v", sealed, back, ok)
		}
	}
}

func TestAppendChecksumRejects(t *testing.T) {
	full := strings.Repeat("m", impl.MaxString)
	for _, s := range []string{
		"#", "#a", "a#", "a#b", "##", "a#385", full, full[1:], full[2:], full + "m", full + full,
		longestSealable(t)[1:] + "#",
	} {
		if sealed, ok := impl.AppendChecksum(s); ok || sealed != "" {
			t.Errorf("AppendChecksum of %d bytes = %q, %v", len(s), sealed, ok)
		}
	}
}

// TestAppendChecksumLimit needs one text that fills MaxString exactly and one that is a byte too
// long, with checksums of the same length.
func TestAppendChecksumLimit(t *testing.T) {
	exact, over := 0, 0
	for n := impl.MaxString - 8; n <= impl.MaxString; n++ {
		for _, c := range "klm" {
			s := strings.Repeat(string(c), n)
			h, _ := impl.Checksum(s)
			size := n + 1 + len(strconv.Itoa(h))
			sealed, ok := impl.AppendChecksum(s)
			if ok != (size <= impl.MaxString) || ok && len(sealed) != size || !ok && sealed != "" {
				t.Errorf("%d bytes are sealed to %d bytes, %v", n, len(sealed), ok)
			}
			switch size {
			case impl.MaxString:
				exact++
			case impl.MaxString + 1:
				over++
			}
		}
	}
	if exact == 0 || over == 0 {
		t.Error("the limit was not met exactly and exceeded by one")
	}
}

func TestVerifyChecksumRejects(t *testing.T) {
	for _, s := range []string{
		"", "a", "#", "##", "7", "#8", "#07", "# 7", "#+7", "#-7", "#7 ", "#7#", "##7", "#7#7", "a#", "a#384", "a#386",
		"a#0385", "a#+385", "a#-385", "a# 385", "a #385", "a#385 ", "a#385\n", "a#385#", "a#385#385", "a#385#1",
		"#a#385", "a##385", "aa#385", "a#1000364", "a#3850", "a#38", "385#a", "a385", "A#385", "a#385\x00", "a#٣٨٥",
		strings.Repeat("x", impl.MaxString+1), strings.Repeat("#", impl.MaxString+1),
	} {
		if text, ok := impl.VerifyChecksum(s); ok || text != "" {
			t.Errorf("VerifyChecksum(%q) = %q, %v", s, text, ok)
		}
	}
}

// TestVerifyChecksumTextWithMark seals texts that contain the mark as if that were allowed.
func TestVerifyChecksumTextWithMark(t *testing.T) {
	for _, s := range []string{"#", "a#", "#a", "a#b", "a#385"} {
		h, _ := impl.Checksum(s)
		if text, ok := impl.VerifyChecksum(s + "#" + strconv.Itoa(h)); ok || text != "" {
			t.Errorf("a text with the mark was verified: %q, %v", text, ok)
		}
	}
}

// TestVerifyChecksumBeyondLimit offers right checksums of texts that are too long to be sealed.
func TestVerifyChecksumBeyondLimit(t *testing.T) {
	for n := impl.MaxString - 3; n <= impl.MaxString+2; n++ {
		s, h := strings.Repeat("m", n), 7
		for range n {
			h = (41*h + 'm' + 1) % checksumModulus
		}
		sealed := s + "#" + strconv.Itoa(h)
		if text, ok := impl.VerifyChecksum(sealed); len(sealed) <= impl.MaxString || ok || text != "" {
			t.Errorf("%d bytes were verified: %d bytes, %v", len(sealed), len(text), ok)
		}
	}
}

func TestEveryChangedByteIsDetected(t *testing.T) {
	texts := []string{"", "a", "0", "12", "ab cd@ef", "\x00\xff", "é", strings.Repeat("xyz", 20), textWithChecksum(t, 0), textWithChecksum(t, checksumModulus-1)}
	for _, s := range texts {
		sealed, ok := impl.AppendChecksum(s)
		if !ok {
			t.Fatalf("%q is not sealed", s)
		}
		for i := range len(sealed) {
			for c := range 256 {
				detectChange(t, sealed, i, byte(c))
			}
		}
	}
}

// TestChangedByteOfLongTextIsDetected tries fewer bytes at each place, because there are many
// places.
func TestChangedByteOfLongTextIsDetected(t *testing.T) {
	sealed, ok := impl.AppendChecksum(longestSealable(t))
	if !ok {
		t.Fatal("the longest text is not sealed")
	}
	for i := range len(sealed) {
		for _, c := range []byte{0, '#', '0', '9', sealed[i] - 1, sealed[i] + 1, 255 - sealed[i], 255} {
			detectChange(t, sealed, i, c)
		}
	}
}

func detectChange(t *testing.T, sealed string, place int, c byte) {
	if sealed[place] == c {
		return
	}
	changed := []byte(sealed)
	changed[place] = c
	if text, ok := impl.VerifyChecksum(string(changed)); ok || text != "" {
		t.Errorf("byte %d of %q changed to %q was not detected: %q, %v", place, sealed, c, text, ok)
	}
}

func TestJoinStringsLeavesArgumentAlone(t *testing.T) {
	array := []string{"a", "", "b", "beyond", "beyond too"}
	before := slices.Clone(array)
	for range 2 {
		if s, ok := impl.JoinStrings(array[:3], ";"); !ok || s != "a;;b" {
			t.Errorf("joined %q, %v", s, ok)
		}
		if s, ok := impl.JoinStrings(array[:3:3], "b"); ok || s != "" {
			t.Errorf("joined %q, %v", s, ok)
		}
		if !slices.Equal(array, before) {
			t.Errorf("the argument was changed to %q", array)
		}
	}
}

func TestSplitStringResultsAreIndependent(t *testing.T) {
	first, _ := impl.SplitString("a,b,c", ",")
	second, _ := impl.SplitString("a,b,c", ",")
	for i := range first {
		first[i] = "changed"
	}
	first = append(first, "more")
	if third, ok := impl.SplitString("a,b,c", ","); !ok || !slices.Equal(second, []string{"a", "b", "c"}) || !slices.Equal(third, second) {
		t.Errorf("a changed result is seen in others: %q, %q, %q", first, second, third)
	}
}
