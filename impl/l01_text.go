package impl

import "strconv"

const (
	MaxInputLen      = 20000
	MaxUint          = 1000000000
	MaxLineLen       = 600
	MaxFieldsPerLine = 24
)

const (
	hexDigits      = "0123456789abcdef"
	firstPrintable = 32
	lastPrintable  = 126
)

func EncodeHex(s string) (string, bool) {
	if len(s) > MaxInputLen {
		return "", false
	}
	text := make([]byte, 0, 2*len(s))
	for i := range len(s) {
		text = append(text, hexDigits[s[i]>>4], hexDigits[s[i]&15])
	}
	return string(text), true
}

func DecodeHex(s string) (string, bool) {
	if len(s)%2 != 0 || len(s) > 2*MaxInputLen {
		return "", false
	}
	decoded := make([]byte, 0, len(s)/2)
	for i := 0; i < len(s); i += 2 {
		high, highOk := hexValue(s[i])
		low, lowOk := hexValue(s[i+1])
		if !highOk || !lowOk {
			return "", false
		}
		decoded = append(decoded, high<<4|low)
	}
	return string(decoded), true
}

// hexValue refuses A to F: EncodeHex never writes them, so no string has a text with them.
func hexValue(digit byte) (byte, bool) {
	switch {
	case '0' <= digit && digit <= '9':
		return digit - '0', true
	case 'a' <= digit && digit <= 'f':
		return digit - 'a' + 10, true
	}
	return 0, false
}

func FormatInt(n int) string { return strconv.Itoa(n) }

func ParseUint(s string) (int, bool) {
	n, err := strconv.Atoi(s)
	if err != nil || n < 0 || n > MaxUint {
		return 0, false
	}
	// Atoi also reads a plus sign, "-0" and leading zeros, which FormatInt never writes.
	if FormatInt(n) != s {
		return 0, false
	}
	return n, true
}

func SplitFields(line string) ([]string, bool) {
	if len(line) > MaxLineLen {
		return nil, false
	}
	fields := []string{}
	// The bytes are collected, not sliced out of line: a result shares no memory with an argument.
	field := []byte{}
	valid := true
scan:
	for i := range len(line) {
		b := line[i]
		switch {
		case b < firstPrintable || b > lastPrintable:
			valid = false
			break scan
		case b != ' ':
			field = append(field, b)
		case len(field) > 0:
			fields = append(fields, string(field))
			field = field[:0]
		}
	}
	if len(field) > 0 {
		fields = append(fields, string(field))
	}
	if !valid || len(fields) > MaxFieldsPerLine {
		return nil, false
	}
	return fields, true
}

func Clamp(n int, low int, high int) int {
	if n < low || high < low {
		return low
	}
	if n > high {
		return high
	}
	return n
}
