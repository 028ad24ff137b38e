package tests

import (
	"math"
	"strconv"
	"strings"
	"testing"

	"loop.example/g03402/impl"
)

// tails follow an encoding where a decoder reads a prefix.
var tails = []string{"", "\x00", "\x01", "z", "\x80", "\xff\xff\xff", "0123456789"}

// shortStrings returns all strings of at most two bytes.
func shortStrings() []string {
	all := []string{""}
	for a := range 256 {
		all = append(all, string([]byte{byte(a)}))
		for b := range 256 {
			all = append(all, string([]byte{byte(a), byte(b)}))
		}
	}
	return all
}

func TestEncodeFixed(t *testing.T) {
	for _, c := range []struct {
		n, width int
		want     string
	}{
		{258, 2, "\x01\x02"},
		{0, 1, "\x00"},
		{255, 1, "\xff"},
		{256, 1, ""},
		{256, 2, "\x01\x00"},
		{258, 4, "\x00\x00\x01\x02"},
		{0, 7, "\x00\x00\x00\x00\x00\x00\x00"},
		{0x01020304050607, 7, "\x01\x02\x03\x04\x05\x06\x07"},
		{-1, 3, ""},
		{-256, 7, ""},
		{0, 0, ""},
		{0, 8, ""},
		{1, 8, ""},
		{1, -1, ""},
		{1, math.MaxInt, ""},
		{1, math.MinInt, ""},
	} {
		if got := impl.EncodeFixed(c.n, c.width); got != c.want {
			t.Errorf("EncodeFixed(%d, %d) = %q, not %q", c.n, c.width, got, c.want)
		}
	}
}

func TestEncodeFixedFits(t *testing.T) {
	for width := 1; width <= 7; width++ {
		most := 1<<(8*width) - 1
		if got := impl.EncodeFixed(most, width); got != strings.Repeat("\xff", width) {
			t.Errorf("EncodeFixed(%d, %d) = %q", most, width, got)
		}
		for _, n := range []int{most + 1, math.MaxInt, -1, math.MinInt} {
			if got := impl.EncodeFixed(n, width); got != "" {
				t.Errorf("EncodeFixed(%d, %d) = %q, not empty", n, width, got)
			}
		}
	}
}

func TestDecodeFixed(t *testing.T) {
	for _, c := range []struct {
		s     string
		width int
		want  int
		ok    bool
	}{
		{"\x01\x02", 2, 258, true},
		{"\x01\x02\x03", 2, 258, true},
		{"\x00\x01", 1, 0, true},
		{"\xff", 1, 255, true},
		{"\x01\x02\x03\x04\x05\x06\x07", 7, 0x01020304050607, true},
		{"\xff\xff\xff\xff\xff\xff\xff", 7, 1<<56 - 1, true},
		{"a", 2, 0, false},
		{"", 1, 0, false},
		{"", 0, 0, false},
		{"abcdefghi", 0, 0, false},
		{"abcdefghi", 8, 0, false},
		{"abcdefghi", -1, 0, false},
		{"abcdefghi", math.MaxInt, 0, false},
		{"abcdefghi", math.MinInt, 0, false},
	} {
		if got, ok := impl.DecodeFixed(c.s, c.width); got != c.want || ok != c.ok {
			t.Errorf("DecodeFixed(%q, %d) = %d, %t", c.s, c.width, got, ok)
		}
	}
}

func TestDecodeFixedInvertsEncodeFixed(t *testing.T) {
	for width := 1; width <= 7; width++ {
		for bit := range 8 * width {
			for _, n := range []int{1<<bit - 1, 1 << bit, 1<<bit + bit/2} {
				encoded := impl.EncodeFixed(n, width)
				if len(encoded) != width {
					t.Fatalf("EncodeFixed(%d, %d) has %d bytes", n, width, len(encoded))
				}
				for _, tail := range tails {
					if got, ok := impl.DecodeFixed(encoded+tail, width); got != n || !ok {
						t.Errorf("DecodeFixed(%q, %d) = %d, %t, not %d", encoded+tail, width, got, ok, n)
					}
				}
				if got, ok := impl.DecodeFixed(encoded[1:], width); got != 0 || ok {
					t.Errorf("DecodeFixed(%q, %d) = %d, %t", encoded[1:], width, got, ok)
				}
			}
		}
	}
}

func TestEncodeFixedInvertsDecodeFixed(t *testing.T) {
	for _, s := range shortStrings() {
		for width := 1; width <= 3; width++ {
			n, ok := impl.DecodeFixed(s, width)
			if ok != (len(s) >= width) {
				t.Fatalf("DecodeFixed(%q, %d) = %d, %t", s, width, n, ok)
			}
			if ok && impl.EncodeFixed(n, width) != s[:width] {
				t.Errorf("DecodeFixed(%q, %d) = %d, which is encoded differently", s, width, n)
			}
		}
	}
}

func TestEncodeVarint(t *testing.T) {
	for _, c := range []struct {
		n    int
		want string
	}{
		{300, "\xac\x02"},
		{0, "\x00"},
		{1, "\x01"},
		{127, "\x7f"},
		{128, "\x80\x01"},
		{16383, "\xff\x7f"},
		{16384, "\x80\x80\x01"},
		{impl.MaxVarint, "\xff\xff\xff\xff\xff\xff\x7f"},
		{impl.MaxVarint + 1, ""},
		{math.MaxInt, ""},
		{-1, ""},
		{-300, ""},
		{math.MinInt, ""},
	} {
		if got := impl.EncodeVarint(c.n); got != c.want {
			t.Errorf("EncodeVarint(%d) = %q, not %q", c.n, got, c.want)
		}
	}
	if impl.MaxVarint != 1<<49-1 {
		t.Error("MaxVarint", impl.MaxVarint)
	}
}

func TestDecodeVarint(t *testing.T) {
	for _, c := range []struct {
		s         string
		n, length int
	}{
		{"\xac\x02", 300, 2},
		{"\xac\x02z", 300, 2},
		{"\x00", 0, 1},
		{"\x00\x00", 0, 1},
		{"\x7f\xff", 127, 1},
		{"\x80\x80\x01", 16384, 3},
		{"\xff\xff\xff\xff\xff\xff\x7f", impl.MaxVarint, 7},
		{"\xff\xff\xff\xff\xff\xff\x7f\x7f", impl.MaxVarint, 7},
		{"\x80\x80\x80\x80\x80\x80\x01", 1 << 42, 7},
	} {
		if n, length := impl.DecodeVarint(c.s); n != c.n || length != c.length {
			t.Errorf("DecodeVarint(%q) = %d, %d, not %d, %d", c.s, n, length, c.n, c.length)
		}
	}
}

func TestDecodeVarintRejects(t *testing.T) {
	bad := []string{"", "\x80", "\xff", "\xac\x82\x00", "\xff\xff\xff\xff\xff\xff\x00"}
	for n := 1; n <= 12; n++ {
		// Needless last groups, and encodings that are cut off.
		bad = append(bad, strings.Repeat("\x80", n)+"\x00", strings.Repeat("\xff", n)+"\x00\x01")
		bad = append(bad, strings.Repeat("\x80", n), strings.Repeat("\xff", n))
	}
	for n := 7; n <= 12; n++ {
		// Numbers beyond MaxVarint.
		bad = append(bad, strings.Repeat("\x80", n)+"\x01", strings.Repeat("\xff", n)+"\x7f")
	}
	for _, s := range bad {
		if n, length := impl.DecodeVarint(s); n != 0 || length != 0 {
			t.Errorf("DecodeVarint(%q) = %d, %d", s, n, length)
		}
	}
}

func TestDecodeVarintInvertsEncodeVarint(t *testing.T) {
	numbers := []int{300, 1000000007, impl.MaxVarint - 1, impl.MaxVarint}
	for bit := range 49 {
		numbers = append(numbers, 1<<bit-1, 1<<bit, 1<<bit+bit/2)
	}
	for _, n := range numbers {
		encoded := impl.EncodeVarint(n)
		for _, tail := range tails {
			if got, length := impl.DecodeVarint(encoded + tail); got != n || length != len(encoded) || length == 0 {
				t.Errorf("DecodeVarint(%q) = %d, %d, not %d, %d", encoded+tail, got, length, n, len(encoded))
			}
		}
		for cut := range len(encoded) {
			if got, length := impl.DecodeVarint(encoded[:cut]); got != 0 || length != 0 {
				t.Errorf("DecodeVarint(%q) = %d, %d", encoded[:cut], got, length)
			}
		}
	}
}

func TestDecodeVarintAcceptsOnlyVarints(t *testing.T) {
	numbers := map[string]int{}
	for n := range 1 << 14 {
		numbers[impl.EncodeVarint(n)] = n
	}
	for _, s := range shortStrings() {
		wantNumber, wantLength := 0, 0
		for length := 1; length <= len(s); length++ {
			if n, ok := numbers[s[:length]]; ok {
				wantNumber, wantLength = n, length
			}
		}
		if n, length := impl.DecodeVarint(s); n != wantNumber || length != wantLength {
			t.Errorf("DecodeVarint(%q) = %d, %d, not %d, %d", s, n, length, wantNumber, wantLength)
		}
	}
}

func TestHexExamples(t *testing.T) {
	for _, c := range []struct{ s, hex string }{
		{"", ""},
		{"a\xff", "61ff"},
		{"\x00", "00"},
		{"\x09\xa0", "09a0"},
		{"\x01\x23\x45\x67\x89\xab\xcd\xef", "0123456789abcdef"},
		{"\u00e9", "c3a9"},
	} {
		if got := impl.EncodeHex(c.s); got != c.hex {
			t.Errorf("EncodeHex(%q) = %q, not %q", c.s, got, c.hex)
		}
		if got, ok := impl.DecodeHex(c.hex); got != c.s || !ok {
			t.Errorf("DecodeHex(%q) = %q, %t, not %q", c.hex, got, ok, c.s)
		}
	}
}

func TestDecodeHexInvertsEncodeHex(t *testing.T) {
	for _, s := range shortStrings() {
		encoded := impl.EncodeHex(s)
		if len(encoded) != 2*len(s) {
			t.Fatalf("EncodeHex(%q) = %q", s, encoded)
		}
		if got, ok := impl.DecodeHex(encoded); got != s || !ok {
			t.Errorf("DecodeHex(%q) = %q, %t, not %q", encoded, got, ok, s)
		}
	}
}

func TestDecodeHexAcceptsOnlyHex(t *testing.T) {
	const digits = "0123456789abcdef"
	for _, s := range shortStrings() {
		good := len(s)%2 == 0
		for i := range len(s) {
			good = good && strings.IndexByte(digits, s[i]) >= 0
		}
		got, ok := impl.DecodeHex(s)
		if ok != good || ok && impl.EncodeHex(got) != s || !ok && got != "" {
			t.Errorf("DecodeHex(%q) = %q, %t", s, got, ok)
		}
	}
	for _, s := range []string{"6F", "61f", "61fg", "61 f", "0x61", "61\n", "61ff\x00", "\uff11", "0\uff11", "00\u00e9", "\u00e90", "61ff\xff\xff", " 61ff ", "-1", "61:ff1"} {
		if got, ok := impl.DecodeHex(s); got != "" || ok {
			t.Errorf("DecodeHex(%q) = %q, %t", s, got, ok)
		}
	}
}

func TestFormatInt(t *testing.T) {
	for _, c := range []struct {
		n    int
		want string
	}{
		{0, "0"},
		{7, "7"},
		{-7, "-7"},
		{10, "10"},
		{-120, "-120"},
		{999999999, "999999999"},
		{1000000000, "1000000000"},
		{-1000000000, "-1000000000"},
		{math.MaxInt, "9223372036854775807"},
		{math.MinInt, "-9223372036854775808"},
	} {
		if got := impl.FormatInt(c.n); got != c.want {
			t.Errorf("FormatInt(%d) = %q, not %q", c.n, got, c.want)
		}
	}
}

func TestParseIntInvertsFormatInt(t *testing.T) {
	var numbers []int
	for n := range 2001 {
		numbers = append(numbers, n-1000)
	}
	for power := 1; power <= 100000000; power *= 10 {
		for digit := 1; digit <= 9; digit++ {
			for _, n := range []int{digit * power, digit*power - 1, 10*power - digit} {
				numbers = append(numbers, n, -n)
			}
		}
	}
	for _, n := range numbers {
		if got, ok := impl.ParseInt(impl.FormatInt(n)); got != n || !ok {
			t.Errorf("ParseInt(%q) = %d, %t", impl.FormatInt(n), got, ok)
		}
	}
}

func TestParseIntTakesNineDigits(t *testing.T) {
	for _, c := range []struct {
		s    string
		want int
		ok   bool
	}{
		{"-7", -7, true},
		{"999999999", 999999999, true},
		{"-999999999", -999999999, true},
		{"100000000", 100000000, true},
		{"1000000000", 0, false},
		{"-1000000000", 0, false},
		{"0000000001", 0, false},
		{"000000001", 0, false},
		{"9223372036854775807", 0, false},
		{"-9223372036854775808", 0, false},
		{"18446744073709551616", 0, false},
		{"1" + strings.Repeat("0", 64), 0, false},
	} {
		if got, ok := impl.ParseInt(c.s); got != c.want || ok != c.ok {
			t.Errorf("ParseInt(%q) = %d, %t", c.s, got, ok)
		}
	}
}

func TestParseIntRejects(t *testing.T) {
	for _, s := range []string{"", "-", "-0", "07", "00", "-01", "+1", "--1", "-+1", "1-", " 1", "1 ", "- 1", "1\n", "1\x00", "\x00", "1.0", "1e3", "0x1", "1_0", "1,0", "a", "\xff", "1\xff", "\u0661", "\uff11", "1\u0660", "\u22121"} {
		if got, ok := impl.ParseInt(s); got != 0 || ok {
			t.Errorf("ParseInt(%q) = %d, %t", s, got, ok)
		}
	}
}

// TestParseIntAcceptsOnlyFormats tries all strings of at most four of these bytes.
func TestParseIntAcceptsOnlyFormats(t *testing.T) {
	const letters = "-+0189 a\xff"
	numbers := map[string]int{}
	for n := -999; n <= 9999; n++ {
		numbers[strconv.Itoa(n)] = n
	}
	all := []string{""}
	for next := 0; next < len(all); next++ {
		s := all[next]
		want, good := numbers[s]
		if got, ok := impl.ParseInt(s); got != want || ok != good {
			t.Errorf("ParseInt(%q) = %d, %t", s, got, ok)
		}
		for i := range len(letters) {
			if len(s) < 4 {
				all = append(all, s+letters[i:i+1])
			}
		}
	}
}
