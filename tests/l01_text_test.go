package tests

import (
	"math"
	"slices"
	"strconv"
	"strings"
	"testing"

	"loop.example/g00983/impl"
)

// allBytes has each byte value once, so that no byte is special to the functions by accident.
func allBytes() string {
	b := make([]byte, 256)
	for i := range b {
		b[i] = byte(i)
	}
	return string(b)
}

func checkEncode(t *testing.T, s string, want string, wantOk bool) {
	t.Helper()
	got, ok := impl.EncodeHex(s)
	if got != want || ok != wantOk {
		t.Errorf("EncodeHex(%.40q) = %.40q, %v; want %.40q, %v", s, got, ok, want, wantOk)
	}
}

func checkDecode(t *testing.T, s string, want string, wantOk bool) {
	t.Helper()
	got, ok := impl.DecodeHex(s)
	if got != want || ok != wantOk {
		t.Errorf("DecodeHex(%.40q) = %.40q, %v; want %.40q, %v", s, got, ok, want, wantOk)
	}
}

func checkParse(t *testing.T, s string, want int, wantOk bool) {
	t.Helper()
	got, ok := impl.ParseUint(s)
	if got != want || ok != wantOk {
		t.Errorf("ParseUint(%.40q) = %d, %v; want %d, %v", s, got, ok, want, wantOk)
	}
}

func checkSplit(t *testing.T, line string, want []string, wantOk bool) {
	t.Helper()
	got, ok := impl.SplitFields(line)
	if !slices.Equal(got, want) || ok != wantOk {
		t.Errorf("SplitFields(%.40q) = %.40q, %v; want %.40q, %v", line, got, ok, want, wantOk)
	}
}

func TestTextConstants(t *testing.T) {
	if impl.MaxInputLen != 20000 || impl.MaxUint != 1000000000 || impl.MaxLineLen != 600 || impl.MaxFieldsPerLine != 24 {
		t.Error("a constant of chapter 1 differs from the document")
	}
}

func TestEncodeHex(t *testing.T) {
	checkEncode(t, "az", "617a", true)
	checkEncode(t, "", "", true)
	checkEncode(t, "\x00", "00", true)
	checkEncode(t, "\x0f\xf0\xff", "0ff0ff", true)
	checkEncode(t, "\x01\x23\x45\x67\x89\xab\xcd\xef", "0123456789abcdef", true)
	checkEncode(t, "é", "c3a9", true)
	checkEncode(t, "617a", "36313761", true)
}

func TestEncodeHexLimit(t *testing.T) {
	checkEncode(t, strings.Repeat("z", impl.MaxInputLen), strings.Repeat("7a", impl.MaxInputLen), true)
	checkEncode(t, strings.Repeat("z", impl.MaxInputLen+1), "", false)
	// The limit counts bytes: these are half as many characters.
	checkEncode(t, strings.Repeat("é", impl.MaxInputLen/2), strings.Repeat("c3a9", impl.MaxInputLen/2), true)
	checkEncode(t, strings.Repeat("é", impl.MaxInputLen/2)+"a", "", false)
}

func TestDecodeHex(t *testing.T) {
	checkDecode(t, "617a", "az", true)
	checkDecode(t, "", "", true)
	checkDecode(t, "00", "\x00", true)
	checkDecode(t, "0ff0ff", "\x0f\xf0\xff", true)
	checkDecode(t, "0123456789abcdef", "\x01\x23\x45\x67\x89\xab\xcd\xef", true)
}

func TestDecodeHexLimit(t *testing.T) {
	checkDecode(t, strings.Repeat("7a", impl.MaxInputLen), strings.Repeat("z", impl.MaxInputLen), true)
	checkDecode(t, strings.Repeat("7a", impl.MaxInputLen)+"7", "", false)
	checkDecode(t, strings.Repeat("7a", impl.MaxInputLen+1), "", false)
}

func TestDecodeHexOddLength(t *testing.T) {
	for _, s := range []string{"6", "0", "617", "617a6", "z"} {
		checkDecode(t, s, "", false)
	}
}

// Each byte value stands once as the high and once as the low digit.
func TestDecodeHexEachByte(t *testing.T) {
	for i := range 256 {
		c := string([]byte{byte(i)})
		digit := strings.Index("0123456789abcdef", c)
		if digit < 0 {
			checkDecode(t, c+"1", "", false)
			checkDecode(t, "1"+c, "", false)
			checkDecode(t, "6162"+c+"1"+"63", "", false)
			checkDecode(t, "61621"+c, "", false)
			continue
		}
		checkDecode(t, c+"1", string([]byte{byte(16*digit + 1)}), true)
		checkDecode(t, "1"+c, string([]byte{byte(16 + digit)}), true)
	}
}

func TestDecodeHexRefusesOtherNotations(t *testing.T) {
	for _, s := range []string{"617A", "AF", "0x61", "61 7a", " 617", "-1", "é", "６１"} {
		checkDecode(t, s, "", false)
	}
}

func TestHexRoundTrip(t *testing.T) {
	long := strings.Repeat(allBytes(), 1+impl.MaxInputLen/256)[:impl.MaxInputLen]
	for _, s := range []string{"", "a", "az", "\x00\x00", "node 7\n", "\xff\xfe", allBytes(), long} {
		text, ok := impl.EncodeHex(s)
		if !ok || len(text) != 2*len(s) {
			t.Errorf("EncodeHex(%.40q) = %.40q, %v", s, text, ok)
		}
		checkDecode(t, text, s, true)
	}
}

// Where a text can be decoded, encoding the result gives back this very text.
func TestHexOneTextEach(t *testing.T) {
	for i := range 256 {
		for j := range 256 {
			text := string([]byte{byte(i), byte(j)})
			s, ok := impl.DecodeHex(text)
			if ok {
				checkEncode(t, s, text, true)
			} else if s != "" {
				t.Errorf("DecodeHex(%q) = %q, false", text, s)
			}
		}
	}
}

func TestFormatInt(t *testing.T) {
	for _, c := range []struct {
		n    int
		want string
	}{
		{0, "0"}, {1, "1"}, {7, "7"}, {10, "10"}, {100, "100"}, {1000000000, "1000000000"},
		{-1, "-1"}, {-5, "-5"}, {-10, "-10"}, {-1000000001, "-1000000001"},
		{math.MaxInt, "9223372036854775807"}, {math.MinInt, "-9223372036854775808"}, {math.MinInt + 1, "-9223372036854775807"},
	} {
		if got := impl.FormatInt(c.n); got != c.want {
			t.Errorf("FormatInt(%d) = %q; want %q", c.n, got, c.want)
		}
	}
}

func TestParseUint(t *testing.T) {
	checkParse(t, "0", 0, true)
	checkParse(t, "1", 1, true)
	checkParse(t, "9", 9, true)
	checkParse(t, "10", 10, true)
	checkParse(t, "100", 100, true)
	checkParse(t, "123456789", 123456789, true)
}

func TestParseUintLimit(t *testing.T) {
	checkParse(t, "999999999", 999999999, true)
	checkParse(t, "1000000000", 1000000000, true)
	for _, s := range []string{
		"1000000001", "1000000010", "2000000000", "10000000000", "4294967296", "9223372036854775807",
		// The first number wraps around to 1 in 64 bits, and the second one to 0.
		"18446744073709551617", "18446744073709551616", strings.Repeat("9", impl.MaxInputLen+1),
	} {
		checkParse(t, s, 0, false)
	}
}

func TestParseUintLeadingZeros(t *testing.T) {
	for _, s := range []string{"00", "01", "000", "007", "010", "01000000000", "0000000001", strings.Repeat("0", 600) + "1"} {
		checkParse(t, s, 0, false)
	}
}

func TestParseUintSigns(t *testing.T) {
	for _, s := range []string{"-1", "-0", "-01", "-1000000000", "-9223372036854775808", "+1", "+0", "+", "-", "--1"} {
		checkParse(t, s, 0, false)
	}
}

func TestParseUintRefusesOtherNotations(t *testing.T) {
	for _, s := range []string{"", " ", " 1", "1 ", "1 2", "1_000", "0x1", "1e3", "1.0", "1,000", "a", "1a", "a1", "1\n", "1\x00", "\xff", "１", "٣"} {
		checkParse(t, s, 0, false)
	}
}

func TestParseUintEachByte(t *testing.T) {
	for i := range 256 {
		c := string([]byte{byte(i)})
		digit := strings.Index("0123456789", c)
		if digit < 0 {
			checkParse(t, c, 0, false)
			checkParse(t, "1"+c, 0, false)
			checkParse(t, c+"1", 0, false)
			checkParse(t, "1"+c+"1", 0, false)
			continue
		}
		checkParse(t, c, digit, true)
		checkParse(t, "1"+c, 10+digit, true)
	}
}

func TestDecimalRoundTrip(t *testing.T) {
	numbers := []int{impl.MaxUint}
	for n := 0; n < 20000; n++ {
		numbers = append(numbers, n, n*49999, impl.MaxUint-1-n)
	}
	for _, n := range numbers {
		text := impl.FormatInt(n)
		if text != strconv.Itoa(n) {
			t.Fatalf("FormatInt(%d) = %q", n, text)
		}
		checkParse(t, text, n, true)
	}
	for _, n := range []int{-1, -20000, impl.MaxUint + 1, math.MaxInt, math.MinInt} {
		checkParse(t, impl.FormatInt(n), 0, false)
	}
}

func TestSplitFields(t *testing.T) {
	checkSplit(t, "step", []string{"step"}, true)
	checkSplit(t, "set 3 1 -1 2", []string{"set", "3", "1", "-1", "2"}, true)
	checkSplit(t, " step  1 ", []string{"step", "1"}, true)
	checkSplit(t, "   a", []string{"a"}, true)
	checkSplit(t, "a   ", []string{"a"}, true)
	checkSplit(t, "a b a b", []string{"a", "b", "a", "b"}, true)
	checkSplit(t, "long short x longer", []string{"long", "short", "x", "longer"}, true)
	checkSplit(t, "a,b ~!", []string{"a,b", "~!"}, true)
}

func TestSplitFieldsNoFields(t *testing.T) {
	checkSplit(t, "", nil, true)
	checkSplit(t, " ", nil, true)
	checkSplit(t, "    ", nil, true)
	checkSplit(t, strings.Repeat(" ", impl.MaxLineLen), nil, true)
}

func TestSplitFieldsLineLimit(t *testing.T) {
	full := strings.Repeat("a", impl.MaxLineLen)
	checkSplit(t, full, []string{full}, true)
	checkSplit(t, full+"a", nil, false)
	checkSplit(t, full+" ", nil, false)
	checkSplit(t, " "+full, nil, false)
	checkSplit(t, strings.Repeat(" ", impl.MaxLineLen+1), nil, false)
	checkSplit(t, "a"+strings.Repeat(" ", impl.MaxLineLen-2)+"b", []string{"a", "b"}, true)
}

func TestSplitFieldsFieldLimit(t *testing.T) {
	want := slices.Repeat([]string{"ab"}, impl.MaxFieldsPerLine)
	full := strings.Join(want, " ")
	checkSplit(t, full, want, true)
	checkSplit(t, "  "+full+"  ", want, true)
	checkSplit(t, strings.Join(want, "  "), want, true)
	checkSplit(t, full+" c", nil, false)
	checkSplit(t, full+" c ", nil, false)
	checkSplit(t, strings.Repeat("a ", impl.MaxLineLen/2), nil, false)
}

// Each byte value stands first, last, alone, inside a field and after too many fields.
func TestSplitFieldsEachByte(t *testing.T) {
	for i := range 256 {
		c := string([]byte{byte(i)})
		switch {
		case i < 32 || i > 126:
			for _, line := range []string{c, c + "a", "a" + c, "a" + c + "b", "a " + c + " b", c + " a b", "a b " + c, strings.Repeat("a ", 25) + c} {
				checkSplit(t, line, nil, false)
			}
		case c == " ":
			checkSplit(t, "a"+c+"b", []string{"a", "b"}, true)
		default:
			checkSplit(t, c, []string{c}, true)
			checkSplit(t, "a"+c+"b", []string{"a" + c + "b"}, true)
			checkSplit(t, " "+c+" a", []string{c, "a"}, true)
		}
	}
}

func TestSplitFieldsOfMoreThanASCII(t *testing.T) {
	for _, line := range []string{"é", "a é", "a\u00a0b", "a\u2003b", "\ufeffa"} {
		checkSplit(t, line, nil, false)
	}
}

func TestSplitFieldsKeepsNothing(t *testing.T) {
	first, _ := impl.SplitFields("one two")
	second, _ := impl.SplitFields("one two")
	first[0] = "changed"
	first = append(first[:1], "changed")
	if !slices.Equal(second, []string{"one", "two"}) {
		t.Errorf("a change of one result %q changed another: %q", first, second)
	}
	checkSplit(t, "one two", []string{"one", "two"}, true)
}

func TestClamp(t *testing.T) {
	for _, c := range []struct{ n, low, high, want int }{
		{3, 1, 5, 3}, {0, 1, 5, 1}, {9, 1, 5, 5}, {1, 1, 5, 1}, {5, 1, 5, 5},
		{-3, -5, -1, -3}, {-9, -5, -1, -5}, {0, -5, -1, -1},
		{4, 4, 4, 4}, {3, 4, 4, 4}, {5, 4, 4, 4},
		{math.MinInt, 1, 5, 1}, {math.MaxInt, 1, 5, 5},
		{7, math.MinInt, math.MaxInt, 7}, {math.MinInt, math.MinInt, math.MaxInt, math.MinInt}, {math.MaxInt, math.MinInt, math.MaxInt, math.MaxInt},
	} {
		if got := impl.Clamp(c.n, c.low, c.high); got != c.want {
			t.Errorf("Clamp(%d, %d, %d) = %d; want %d", c.n, c.low, c.high, got, c.want)
		}
	}
}

func TestClampToNoRange(t *testing.T) {
	for _, n := range []int{math.MinInt, -1, 0, 1, 2, 3, 4, 5, 6, math.MaxInt} {
		if got := impl.Clamp(n, 5, 1); got != 5 {
			t.Errorf("Clamp(%d, 5, 1) = %d; want 5", n, got)
		}
		if got := impl.Clamp(n, math.MaxInt, math.MinInt); got != math.MaxInt {
			t.Errorf("Clamp(%d, MaxInt, MinInt) = %d; want MaxInt", n, got)
		}
	}
}

func TestClampStaysInRange(t *testing.T) {
	for low := -4; low <= 4; low++ {
		for high := low; high <= 4; high++ {
			for n := -6; n <= 6; n++ {
				got := impl.Clamp(n, low, high)
				if got < low || got > high || low <= n && n <= high && got != n {
					t.Errorf("Clamp(%d, %d, %d) = %d", n, low, high, got)
				}
			}
		}
	}
}
