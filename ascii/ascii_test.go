package ascii

import (
	"bytes"
	"math"
	"slices"
	"strings"
	"testing"
)

const tokenSigns = "ABCDEFGHIJKLMNOPQRSTUVWXYZabcdefghijklmnopqrstuvwxyz0123456789!#$%&'*+-.^_|~\x60"

// byteText: the text of that one byte (a conversion of a number would make a rune of it).
func byteText(c int) string { return string([]byte{byte(c)}) }

func TestTokenOfEachByte(t *testing.T) {
	for c := range 256 {
		s := byteText(c)
		want := strings.Contains(tokenSigns, s)
		for _, text := range []string{s, "a" + s, s + "a", "a" + s + "a"} {
			if got := Token(text); got != want {
				t.Errorf("Token(%q) = %v", text, got)
			}
		}
	}
}

func TestToken(t *testing.T) {
	for s, want := range map[string]bool{
		"":             false,
		tokenSigns:     true,
		"Content-Type": true,
		"a b":          false,
		" a":           false,
		"a\t":          false,
		"a:":           false,
		"é":            false,
		"Ａ":            false,
		"\u212a":       false, // the Kelvin sign, whose small form is k
		"a\x00":        false,
		"a\x7f":        false,
		"a\xff":        false,
		"\ufffd":       false,
	} {
		if got := Token(s); got != want {
			t.Errorf("Token(%q) = %v", s, got)
		}
	}
}

func TestLowerOfEachByte(t *testing.T) {
	for c := range 256 {
		want := c
		if 'A' <= c && c <= 'Z' {
			want = c + 32
		}
		if got := Lower(byteText(c)); got != byteText(want) {
			t.Errorf("Lower(%q) = %q", byteText(c), got)
		}
	}
}

func TestLower(t *testing.T) {
	for s, want := range map[string]string{
		"":                   "",
		"AbZ[":               "abz[",
		"@AZ[`az{":           "@az[`az{",
		"HoSt-9":             "host-9",
		"É\u212aA":           "É\u212aa",
		"\xc3A\xffB\xe2\x82": "\xc3a\xffb\xe2\x82",
		"\xf0\x9f\x98Z":      "\xf0\x9f\x98z",
		"\ufffdX\x00\x7f":    "\ufffdx\x00\x7f",
	} {
		if got := Lower(s); got != want {
			t.Errorf("Lower(%q) = %q, want %q", s, got, want)
		}
	}
}

func TestTrim(t *testing.T) {
	for s, want := range map[string]string{
		"":               "",
		" ":              "",
		"\t":             "",
		" \t \t":         "",
		"a":              "a",
		" \ta b\t ":      "a b",
		"a \t b":         "a \t b",
		"\t\ta":          "a",
		"a  ":            "a",
		"\na\r":          "\na\r",
		" \x0b a \x0c ":  "\x0b a \x0c",
		"\u00a0a\u2003":  "\u00a0a\u2003",
		" \xff \xa0 ":    "\xff \xa0",
		"\x00 a \x00":    "\x00 a \x00",
		"\t\x85a\x85\t ": "\x85a\x85",
	} {
		if got := Trim(s); got != want {
			t.Errorf("Trim(%q) = %q, want %q", s, got, want)
		}
	}
}

func TestValueOfEachByte(t *testing.T) {
	for c := range 256 {
		want := c == 9 || c >= 32 && c != 127
		s := byteText(c)
		for _, text := range []string{s, "a" + s, s + "a", "\xe2\x82" + s} {
			if got := Value(text); got != want {
				t.Errorf("Value(%q) = %v", text, got)
			}
		}
	}
}

func TestValue(t *testing.T) {
	for s, want := range map[string]bool{
		"":               true,
		"\t":             true,
		"text/html; q=1": true,
		"a\tb\xff":       true,
		"é\u0085\u2028":  true,
		"\u007f":         false,
		"a\r\nb":         false,
		"a\x1f":          false,
		"a\x00":          false,
	} {
		if got := Value(s); got != want {
			t.Errorf("Value(%q) = %v", s, got)
		}
	}
}

func TestNumber(t *testing.T) {
	zeros := strings.Repeat("0", 1000)
	for _, c := range []struct {
		s    string
		base int
		want int
	}{
		{"0", 10, 0},
		{"7", 10, 7},
		{"12", 10, 12},
		{"0012", 10, 12},
		{zeros, 10, 0},
		{zeros + "9", 10, 9},
		{"1073741823", 10, 1<<30 - 1},
		{"1073741824", 10, 1 << 30},
		{"0001073741824", 10, 1 << 30},
		{"0", 16, 0},
		{"10", 16, 16},
		{"1aF", 16, 431},
		{"abcdef", 16, 0xabcdef},
		{"ABCDEF", 16, 0xabcdef},
		{"3fffffff", 16, 1<<30 - 1},
		{"40000000", 16, 1 << 30},
		{zeros + "40000000", 16, 1 << 30},
	} {
		if n, ok := Number(c.s, c.base); !ok || n != c.want {
			t.Errorf("Number(%q, %d) = %d, %v, want %d", c.s, c.base, n, ok, c.want)
		}
	}
}

func TestNumberOfNone(t *testing.T) {
	for _, c := range []struct {
		s    string
		base int
	}{
		{"", 10},
		{"", 16},
		{"a", 10},
		{"1f", 10},
		{"g", 16},
		{"G", 16},
		{"@", 16},
		{"`", 16},
		{"0x1", 16},
		{"-1", 10},
		{"+1", 10},
		{"1_0", 10},
		{" 1", 10},
		{"1 ", 10},
		{"1.", 10},
		{"1\x00", 10},
		{"1\xff", 10},
		{"\u0661", 10}, // a digit of another script
		{"１", 10},
		{"1073741825", 10},
		{"1073741830", 10},
		{"10737418240", 10},
		{"2147483648", 10},
		{"4294967296", 10},
		{"9223372036854775808", 10},
		{"18446744073709551616", 10},
		{"18446744073709551617", 10},
		{"99999999999999999999", 10},
		{strings.Repeat("9", 1000), 10},
		{"40000001", 16},
		{"4000000a", 16},
		{"ffffffff", 16},
		{"100000000", 16},
		{"10000000000000000", 16},
		{"1" + strings.Repeat("0", 1000), 16},
		{"1", 0},
		{"1", 1},
		{"1", 2},
		{"1", 8},
		{"1", 9},
		{"1", 11},
		{"1", 15},
		{"1", 17},
		{"1", 36},
		{"0", 0},
		{"0", -10},
		{"0", -16},
		{"1", math.MaxInt},
		{"1", math.MinInt},
	} {
		if n, ok := Number(c.s, c.base); ok || n != 0 {
			t.Errorf("Number(%q, %d) = %d, %v", c.s, c.base, n, ok)
		}
	}
}

func TestNumberOfEachByte(t *testing.T) {
	const digits = "0123456789abcdef"
	for _, base := range []int{10, 16} {
		for c := range 256 {
			want := strings.IndexByte(digits[:base], bytes.ToLower([]byte{byte(c)})[0])
			ok := want >= 0
			want = max(want, 0)
			if n, got := Number(byteText(c), base); n != want || got != ok {
				t.Errorf("Number(%q, %d) = %d, %v", byteText(c), base, n, got)
			}
		}
	}
}

func TestWords(t *testing.T) {
	for _, c := range []struct {
		s    string
		by   byte
		want []string
	}{
		{"", ',', []string{""}},
		{"a", ',', []string{"a"}},
		{"abc", ',', []string{"abc"}},
		{",", ',', []string{"", ""}},
		{",,", ',', []string{"", "", ""}},
		{"a,b", ',', []string{"a", "b"}},
		{",a", ',', []string{"", "a"}},
		{"a,", ',', []string{"a", ""}},
		{",a,", ',', []string{"", "a", ""}},
		{"a,,b", ',', []string{"a", "", "b"}},
		{" a , b ", ',', []string{" a ", " b "}},
		{"GET / HTTP/1.1", ' ', []string{"GET", "/", "HTTP/1.1"}},
		{"a\x00b", 0, []string{"a", "b"}},
		{"a\xffb\xff", 0xff, []string{"a", "b", ""}},
		{"xé\xa9", 0xa9, []string{"x\xc3", "", ""}},
		{"\u00ff", 0xff, []string{"\u00ff"}},
		{"a\ufffdb", 0xfd, []string{"a\ufffdb"}},
	} {
		if got := Words(c.s, c.by); !slices.Equal(got, c.want) {
			t.Errorf("Words(%q, %q) = %q, want %q", c.s, c.by, got, c.want)
		}
	}
}

func TestWordsAreANewListEachTime(t *testing.T) {
	first := Words("a,b", ',')
	first[0] = "changed"
	if got := Words("a,b", ','); got[0] != "a" {
		t.Errorf("Words keeps what it answered: %q", got)
	}
}

// TestAllShortTexts holds each call, at all texts of up to three bytes of those at which something turns, against its words said byte by byte.
func TestAllShortTexts(t *testing.T) {
	signs := []byte("\x00\t\n\x1f !09:@AFGZ[`afgz{,\x7e\x7f\x80\xa9\xc3\xe2\xff")
	texts := []string{""}
	for from := 0; len(texts[from]) < 3; from++ {
		for _, c := range signs {
			texts = append(texts, texts[from]+string([]byte{c}))
		}
	}
	for _, s := range texts {
		if got, want := Token(s), s != "" && allTokenSigns(s); got != want {
			t.Fatalf("Token(%q) = %v", s, got)
		}
		if got := Lower(s); got != lowerByBytes(s) {
			t.Fatalf("Lower(%q) = %q", s, got)
		}
		if got := Trim(s); got != trimByBytes(s) {
			t.Fatalf("Trim(%q) = %q", s, got)
		}
		if got := Value(s); got != !strings.ContainsAny(s, "\x00\n\x1f\x7f") {
			t.Fatalf("Value(%q) = %v", s, got)
		}
		for _, by := range signs {
			words := Words(s, by)
			if got := strings.Join(words, string([]byte{by})); got != s || len(words) != 1+bytes.Count([]byte(s), []byte{by}) {
				t.Fatalf("Words(%q, %q) = %q", s, by, words)
			}
		}
		for _, base := range []int{math.MinInt, -16, -1, 0, 1, 2, 8, 36, math.MaxInt} {
			if n, ok := Number(s, base); n != 0 || ok {
				t.Fatalf("Number(%q, %d) = %d, %v", s, base, n, ok)
			}
		}
	}
}

func allTokenSigns(s string) bool {
	for _, c := range []byte(s) {
		if strings.IndexByte(tokenSigns, c) < 0 {
			return false
		}
	}
	return true
}

func lowerByBytes(s string) string {
	b := []byte(s)
	for i, c := range b {
		if 'A' <= c && c <= 'Z' {
			b[i] = c | 32
		}
	}
	return string(b)
}

func trimByBytes(s string) string {
	for s != "" && (s[0] == ' ' || s[0] == '\t') {
		s = s[1:]
	}
	for s != "" && (s[len(s)-1] == ' ' || s[len(s)-1] == '\t') {
		s = s[:len(s)-1]
	}
	return s
}
