package tests

import (
	"math"
	"math/big"
	"slices"
	"strings"
	"testing"

	"loop.example/g00846/impl"
)

var formattedInts = []struct {
	n    int
	text string
}{
	{0, "0"}, {1, "1"}, {-1, "-1"}, {7, "7"}, {9, "9"}, {10, "10"}, {-10, "-10"}, {100, "100"}, {-105, "-105"}, {846, "846"},
	{math.MaxInt32 + 1, "2147483648"}, {math.MinInt32 - 1, "-2147483649"},
	{math.MaxInt64 - 1, "9223372036854775806"}, {math.MaxInt64, "9223372036854775807"},
	{math.MinInt64 + 1, "-9223372036854775807"}, {math.MinInt64, "-9223372036854775808"},
}

// textsOfNoInt are close to the text of an int, but FormatInt writes none of them.
var textsOfNoInt = []string{
	"", "-", "+", "--1", "+1", "+0", "-0", "-00", "00", "07", "-07", "000000000000000000001",
	" 1", "1 ", "1\n", "\t1", "- 1", "1-", "1-2", "1_000", "1,000", "1.0", "1e3", "0x1", "0b1", "0o7", "a", "1a", "nan", "empty",
	"\x00", "1\x00", "\xff", "1\xff", "\u0661", "\uff11", "\u22121", "1\u0300",
	"9223372036854775808", "-9223372036854775809", "9223372036854775817", "10000000000000000000", "18446744073709551616", "-18446744073709551617",
	strings.Repeat("1", 1000), "-" + strings.Repeat("9", 5000), strings.Repeat("0", 64) + "1",
}

// textsOver returns all texts of at most n of the given bytes.
func textsOver(bytes string, n int) []string {
	texts := []string{""}
	for from := 0; n > 0; n-- {
		to := len(texts)
		for _, text := range texts[from:to] {
			for i := range len(bytes) {
				texts = append(texts, text+bytes[i:i+1])
			}
		}
		from = to
	}
	return texts
}

// sampleInts returns the ints around all powers of 2 and 10, and one of each size between them.
func sampleInts() []int {
	var list []int
	for bit := range 64 {
		power := 1 << bit
		list = append(list, power-1, power, power+1, -power, -power-1, -power+1, power/3, -power/7)
	}
	for power := 1; power <= math.MaxInt64/10; power *= 10 {
		list = append(list, power-1, power, power+1, -power, 1-power, -power-1, power*10-1, 1-power*10)
	}
	for n := -1200; n <= 1200; n++ {
		list = append(list, n)
	}
	return list
}

func wantInt(t *testing.T, text string, n int, ok bool) {
	t.Helper()
	if got, gotOk := impl.ParseInt(text); got != n || gotOk != ok {
		t.Errorf("ParseInt(%q) = %d, %t; want %d, %t", text, got, gotOk, n, ok)
	}
}

func TestP1IntIsRecoveredFromItsText(t *testing.T) {
	for _, c := range formattedInts {
		wantInt(t, c.text, c.n, true)
	}
	for _, n := range sampleInts() {
		wantInt(t, impl.FormatInt(n), n, true)
	}
}

func TestP1TextIsRecoveredFromItsInt(t *testing.T) {
	accepted := 0
	for _, text := range textsOver("+-0179 _a", 4) {
		n, ok := impl.ParseInt(text)
		if !ok {
			continue
		}
		accepted++
		if back := impl.FormatInt(n); back != text {
			t.Errorf("ParseInt(%q) = %d, whose text is %q", text, n, back)
		}
	}
	// 0; then 3, 12, 48 and 192 numbers of 1 to 4 digits; and the negative ones, of which the sign leaves 3 digits.
	if want := 1 + (3 + 12 + 48 + 192) + (3 + 12 + 48); accepted != want {
		t.Errorf("%d texts are accepted, want %d", accepted, want)
	}
}

func TestP1OtherTextsHaveNoInt(t *testing.T) {
	for _, text := range textsOfNoInt {
		wantInt(t, text, 0, false)
	}
	for i := range 256 {
		if i < '0' || i > '9' {
			wantInt(t, string([]byte{byte(i)}), 0, false)
			wantInt(t, string([]byte{'1', byte(i)}), 0, false)
			wantInt(t, string([]byte{'1', byte(i), '2'}), 0, false)
		}
	}
}

func TestP9FormatInt(t *testing.T) {
	for _, c := range formattedInts {
		if got := impl.FormatInt(c.n); got != c.text {
			t.Errorf("FormatInt(%d) = %q, want %q", c.n, got, c.text)
		}
	}
	for _, n := range sampleInts() {
		if got, want := impl.FormatInt(n), big.NewInt(int64(n)).String(); got != want {
			t.Errorf("FormatInt(%d) = %q, want %q", n, got, want)
		}
	}
}

func TestP9IsDigits(t *testing.T) {
	for i := range 256 {
		b, isDigit := string([]byte{byte(i)}), i >= 48 && i <= 57
		for _, text := range []string{b, b + "0", "9" + b, "1" + b + "2"} {
			if got := impl.IsDigits(text); got != isDigit {
				t.Errorf("IsDigits(%q) = %t", text, got)
			}
		}
	}
	for _, text := range []string{"0", "00", "0123456789", strings.Repeat("7", 5000)} {
		if !impl.IsDigits(text) {
			t.Errorf("IsDigits(%q) is false", text)
		}
	}
	for _, text := range []string{"", "-1", "+1", "1.5", " 1", "1 ", "\u0661", "\uff11", "1\u0662", "1\xc3", strings.Repeat("7", 5000) + "x"} {
		if impl.IsDigits(text) {
			t.Errorf("IsDigits(%q) is true", text)
		}
	}
}

func TestP9IsName(t *testing.T) {
	for i := range 256 {
		b, isLetter, isDigit := string([]byte{byte(i)}), i >= 97 && i <= 122, i >= 48 && i <= 57
		for _, text := range []string{b, b + "a", b + "9"} {
			if got := impl.IsName(text); got != isLetter {
				t.Errorf("IsName(%q) = %t", text, got)
			}
		}
		for _, text := range []string{"a" + b, "z" + b + "0", "abcdefg" + b} {
			if got := impl.IsName(text); got != (isLetter || isDigit) {
				t.Errorf("IsName(%q) = %t", text, got)
			}
		}
	}
	for n := range 20 {
		for _, text := range []string{strings.Repeat("q", n), strings.Repeat("z9", n)[:n]} {
			if got := impl.IsName(text); got != (n >= 1 && n <= 8) {
				t.Errorf("IsName(%q) = %t", text, got)
			}
		}
	}
	// The length is that of the bytes, and only bytes from a to z are letters.
	for _, text := range []string{"", "\u00e9", "a\u00e9", "abcdefg\u00e9", "a\u0661", "a\xff", "abcdefghi", "abcdefgh1", "A", "aB", "x y", "x_y", "-x"} {
		if impl.IsName(text) {
			t.Errorf("IsName(%q) is true", text)
		}
	}
}

func wantList(t *testing.T, of string, got []string, want []string) {
	t.Helper()
	if !slices.Equal(got, want) {
		t.Errorf("%q: got %q, want %q", of, got, want)
	}
}

func TestP9SplitAny(t *testing.T) {
	for _, c := range []struct {
		s, by string
		want  []string
	}{
		{"", "", []string{""}}, {"", ",", []string{""}}, {"abc", "", []string{"abc"}}, {"abc", ",", []string{"abc"}},
		{",", ",", []string{"", ""}}, {",,", ",", []string{"", "", ""}}, {",a,", ",", []string{"", "a", ""}},
		{"a,b c", ", ", []string{"a", "b", "c"}}, {"a, b", ", ", []string{"a", "", "b"}}, {"a,b", ",,,", []string{"a", "b"}},
		{"cut 3", " ", []string{"cut", "3"}}, {"a  b", " ", []string{"a", "", "b"}}, {"a\x00b", "\x00", []string{"a", "b"}},
		{"a-z", "a-z", []string{"", "", "", ""}}, {"m", "a-z", []string{"m"}},
		// A byte of by splits s even inside a rune; a rune of by is each of its bytes.
		{"\u00e9", "\xc3", []string{"", "\xa9"}}, {"x\u00e9y", "\u00e9", []string{"x", "", "y"}}, {"\u00e8", "\u00e9", []string{"", "\xa8"}},
		{"\ufffd", "\xff", []string{"\ufffd"}}, {"a\xffb\xfec", "\xff", []string{"a", "b\xfec"}}, {"a\xffb", "\ufffd", []string{"a\xffb"}},
	} {
		wantList(t, c.s+" at "+c.by, impl.SplitAny(c.s, c.by), c.want)
	}
}

func TestP9SplitAnySplitsAtEveryByte(t *testing.T) {
	for i := range 256 {
		b := string([]byte{byte(i)})
		wantList(t, "at "+b, impl.SplitAny("\x80"+b+"\x81", b), strings.Split("\x80"+b+"\x81", b))
	}
	for _, s := range textsOver("ab,;", 5) {
		parts := impl.SplitAny(s, ",;")
		if want := 1 + strings.Count(s, ",") + strings.Count(s, ";"); len(parts) != want {
			t.Errorf("SplitAny(%q) has %d elements, want %d", s, len(parts), want)
		}
		wantList(t, s, parts, strings.Split(strings.ReplaceAll(s, ";", ","), ","))
	}
}

func TestP9SplitLines(t *testing.T) {
	for _, c := range []struct {
		s    string
		want []string
	}{
		{"", nil}, {"a", []string{"a"}}, {"a\n", []string{"a"}}, {"a\nb", []string{"a", "b"}}, {"a\nb\n", []string{"a", "b"}},
		{"\n", []string{""}}, {"\n\n", []string{"", ""}}, {"\na", []string{"", "a"}}, {"a\n\n", []string{"a", ""}}, {"a\n\nb", []string{"a", "", "b"}},
		{" ", []string{" "}}, {"a\n ", []string{"a", " "}}, {"a\r\nb\r", []string{"a\r", "b\r"}}, {"a\vb\fc\u2028d\u0085e", []string{"a\vb\fc\u2028d\u0085e"}},
		{"a\x00\n\xff\n", []string{"a\x00", "\xff"}}, {"\xc3\n\xe2\x82\nx", []string{"\xc3", "\xe2\x82", "x"}},
	} {
		wantList(t, c.s, impl.SplitLines(c.s), c.want)
	}
}

func TestP9SplitLinesKeepsEveryByteOfALine(t *testing.T) {
	for _, s := range textsOver("a\n\xe2 ", 5) {
		var want []string
		for part := range strings.Lines(s) {
			want = append(want, strings.TrimSuffix(part, "\n"))
		}
		wantList(t, s, impl.SplitLines(s), want)
	}
}

func TestP9Join(t *testing.T) {
	for _, c := range []struct {
		l    []string
		by   string
		want string
	}{
		{nil, "", ""}, {nil, ",", ""}, {[]string{}, ",", ""}, {[]string{""}, ",", ""}, {[]string{"a"}, ",", "a"},
		{[]string{"a", "b"}, ",", "a,b"}, {[]string{"a", "b", "c"}, "", "abc"}, {[]string{"a", "b"}, " - ", "a - b"},
		{[]string{"", ""}, ",", ","}, {[]string{"", "", ""}, ",", ",,"}, {[]string{"", "a", ""}, ",", ",a,"},
		{[]string{",", ","}, ",", ",,,"}, {[]string{"\xff", "\xc3"}, "\xa9", "\xff\xa9\xc3"}, {[]string{"a\n", "b"}, "\x00", "a\n\x00b"},
	} {
		if got := impl.Join(c.l, c.by); got != c.want {
			t.Errorf("Join(%q, %q) = %q, want %q", c.l, c.by, got, c.want)
		}
	}
	for _, s := range textsOver("ab,", 6) {
		if got := impl.Join(impl.SplitAny(s, ","), ","); got != s {
			t.Errorf("%q is split and joined to %q", s, got)
		}
	}
}

func TestP9PadZeros(t *testing.T) {
	for _, c := range []struct {
		s    string
		n    int
		want string
	}{
		{"7", 3, "007"}, {"7", 2, "07"}, {"7", 1, "7"}, {"7", 0, "7"}, {"7", -1, "7"}, {"7", math.MinInt64, "7"},
		{"", 0, ""}, {"", 2, "00"}, {"", -5, ""}, {"1234", 3, "1234"}, {"1234", 4, "1234"}, {"1234", 5, "01234"},
		{"-5", 4, "00-5"}, {"ab", 3, "0ab"}, {"\u00e9", 3, "0\u00e9"}, {"\u00e9", 2, "\u00e9"}, {"\xff", 2, "0\xff"}, {"0", 2, "00"},
		{"7", 1999, strings.Repeat("0", 1998) + "7"}, {"7", 2000, strings.Repeat("0", 1999) + "7"}, {"", 2000, strings.Repeat("0", 2000)},
		{"7", 2001, "7"}, {"", 2001, ""}, {"7", 1 << 40, "7"}, {"7", math.MaxInt64, "7"},
		{strings.Repeat("x", 1999), 2000, "0" + strings.Repeat("x", 1999)}, {strings.Repeat("x", 2500), 2000, strings.Repeat("x", 2500)},
		{strings.Repeat("x", 2500), 3000, strings.Repeat("x", 2500)},
	} {
		if got := impl.PadZeros(c.s, c.n); got != c.want {
			t.Errorf("PadZeros(%q, %d) = %q, want %q", c.s, c.n, got, c.want)
		}
	}
}

// The conventions of chapter 1: arguments and what lies behind them stay, results share no memory, and equal calls give equal results.

func TestP9JoinLeavesItsList(t *testing.T) {
	behind := []string{"a", "b", "c", "d"}
	for range 2 {
		if got := impl.Join(behind[:2], ","); got != "a,b" {
			t.Errorf("Join gives %q", got)
		}
	}
	wantList(t, "the list behind Join's argument", behind, []string{"a", "b", "c", "d"})
}

func TestP9ListsOfTextsAreNew(t *testing.T) {
	for name, split := range map[string]func() []string{
		"SplitAny":   func() []string { return impl.SplitAny("a,b,c", ",") },
		"SplitLines": func() []string { return impl.SplitLines("a\nb\nc\n") },
	} {
		first, second := split(), split()
		for i := range first {
			first[i] = "x"
		}
		_ = append(first[:1], "y", "z", "z")
		wantList(t, name, second, []string{"a", "b", "c"})
		wantList(t, name+" after a change of its result", split(), []string{"a", "b", "c"})
	}
}
