package impl

import (
	"strconv"
	"strings"
)

const MaxVarint = 562949953421311

const (
	maxFixedWidth  = 7
	maxVarintBytes = 7
	maxDigits      = 9
)

func EncodeFixed(n int, width int) string {
	if width < 1 || width > maxFixedWidth || n < 0 || n>>(8*width) != 0 {
		return ""
	}
	encoded := make([]byte, width)
	for i := range encoded {
		encoded[i] = byte(n >> (8 * (width - 1 - i)))
	}
	return string(encoded)
}

func DecodeFixed(s string, width int) (int, bool) {
	if width < 1 || width > maxFixedWidth || len(s) < width {
		return 0, false
	}
	n := 0
	for i := range width {
		n = n<<8 | int(s[i])
	}
	return n, true
}

func EncodeVarint(n int) string {
	if n < 0 || n > MaxVarint {
		return ""
	}
	var encoded []byte
	for n >= 128 {
		encoded = append(encoded, byte(n&127)|128)
		n >>= 7
	}
	return string(append(encoded, byte(n)))
}

func DecodeVarint(s string) (int, int) {
	n := 0
	for i := range min(len(s), maxVarintBytes) {
		n |= int(s[i]&127) << (7 * i)
		if s[i] >= 128 {
			continue
		}
		// A last group of zeros could have been left out, so no encoder writes it.
		if s[i] == 0 && i > 0 {
			return 0, 0
		}
		return n, i + 1
	}
	return 0, 0
}

func EncodeHex(s string) string {
	encoded := make([]byte, 0, 2*len(s))
	for i := range len(s) {
		encoded = append(encoded, hexDigit(s[i]>>4), hexDigit(s[i]&15))
	}
	return string(encoded)
}

func hexDigit(half byte) byte {
	if half < 10 {
		return '0' + half
	}
	return 'a' + half - 10
}

func DecodeHex(s string) (string, bool) {
	if len(s)%2 != 0 {
		return "", false
	}
	decoded := make([]byte, len(s)/2)
	// Every digit that is accepted is one byte long, so the positions count digits.
	for i, r := range s {
		value, ok := hexValue(r)
		if !ok {
			return "", false
		}
		decoded[i/2] = decoded[i/2]<<4 | value
	}
	return string(decoded), true
}

func hexValue(r rune) (byte, bool) {
	switch {
	case '0' <= r && r <= '9':
		return byte(r - '0'), true
	case 'a' <= r && r <= 'f':
		return byte(r-'a') + 10, true
	}
	return 0, false
}

func FormatInt(n int) string {
	return strconv.Itoa(n)
}

func ParseInt(s string) (int, bool) {
	digits, negative := s, false
	if len(s) > 0 && s[0] == '-' {
		digits, negative = s[1:], true
	}
	n, ok := parseDigits(digits)
	if negative {
		n = -n
	}
	// Formatting again finds needless zeros and the sign of -0.
	if !ok || FormatInt(n) != s {
		return 0, false
	}
	return n, true
}

func parseDigits(digits string) (int, bool) {
	if len(digits) < 1 || len(digits) > maxDigits {
		return 0, false
	}
	n := 0
	for _, r := range digits {
		if r < '0' || r > '9' {
			return 0, false
		}
		n = 10*n + int(r-'0')
	}
	return n, true
}

func joinNumbers(numbers []int, separator string) string {
	texts := make([]string, len(numbers))
	for i, n := range numbers {
		texts[i] = FormatInt(n)
	}
	return strings.Join(texts, separator)
}

// splitNumbers reads what joinNumbers writes for one number or more; it refuses more than most of them.
func splitNumbers(s string, separator string, most int) ([]int, bool) {
	// One text more than allowed is enough to refuse the rest.
	texts := strings.SplitN(s, separator, most+1)
	if len(texts) > most {
		return nil, false
	}
	numbers := make([]int, len(texts))
	for i, text := range texts {
		n, ok := ParseInt(text)
		if !ok {
			return nil, false
		}
		numbers[i] = n
	}
	return numbers, true
}
