package answer

import (
	"fmt"
	"math"
	"reflect"
	"regexp"
	"slices"
	"strconv"
	"strings"
	"testing"

	"crossroad/api"
)

// named: the statuses that have words of their own.
func named() map[int]string {
	return map[int]string{
		200: "OK",
		201: "Created",
		400: "Bad Request",
		401: "Unauthorized",
		404: "Not Found",
		405: "Method Not Allowed",
		409: "Conflict",
		412: "Precondition Failed",
		413: "Content Too Large",
		431: "Request Header Fields Too Large",
		500: "Internal Server Error",
		501: "Not Implemented",
		503: "Service Unavailable",
		507: "Insufficient Storage",
	}
}

func wordOf(status int) string {
	if word, ok := named()[status]; ok {
		return word
	}
	return "Unknown"
}

// fields: of names and values by turns.
func fields(l ...string) []api.Field {
	var f []api.Field
	for i := 0; i < len(l); i += 2 {
		f = append(f, api.Field{Name: l[i], Value: l[i+1]})
	}
	return f
}

// allBytes: one of each.
func allBytes() string {
	b := make([]byte, 256)
	for i := range b {
		b[i] = byte(i)
	}
	return string(b)
}

// valueBytes: one of each that may stand in a value, with none that is trimmed at its ends.
func valueBytes() string {
	return "<" + strings.NewReplacer("\r", "", "\n", "").Replace(allBytes()) + ">"
}

// a written one is a response and what Encode writes of it.
type written struct {
	r    api.Response
	text string
}

func writtenOnes() []written {
	const token = "abcdefghijklmnopqrstuvwxyz0123456789!#$%&'*+-.^_|~\x60"
	long := strings.Repeat("ab\r\n", 30000)
	return []written{
		{api.Response{Status: 200}, "HTTP/1.1 200 OK\r\ncontent-length: 0\r\n\r\n"},
		{api.Response{Status: 200, Close: true}, "HTTP/1.1 200 OK\r\nconnection: close\r\ncontent-length: 0\r\n\r\n"},
		{api.Response{Status: 201, Body: "a"}, "HTTP/1.1 201 Created\r\ncontent-length: 1\r\n\r\na"},
		{api.Response{Status: 100, Body: "\n"}, "HTTP/1.1 100 Unknown\r\ncontent-length: 1\r\n\r\n\n"},
		{api.Response{Status: 999, Close: true, Body: "\r"}, "HTTP/1.1 999 Unknown\r\nconnection: close\r\ncontent-length: 1\r\n\r\n\r"},
		{api.Response{Status: 418, Fields: fields("x-id", "0-1"), Body: "hi"}, "HTTP/1.1 418 Unknown\r\nx-id: 0-1\r\ncontent-length: 2\r\n\r\nhi"},
		{api.Response{Status: 405, Fields: fields("allow", "GET, PUT"), Body: "no\n", Close: true},
			"HTTP/1.1 405 Method Not Allowed\r\nallow: GET, PUT\r\nconnection: close\r\ncontent-length: 3\r\n\r\nno\n"},
		{api.Response{Status: 200, Fields: fields("a", "")}, "HTTP/1.1 200 OK\r\na: \r\ncontent-length: 0\r\n\r\n"},
		{api.Response{Status: 200, Fields: fields("a", "", "a", "", "b", ""), Close: true},
			"HTTP/1.1 200 OK\r\na: \r\na: \r\nb: \r\nconnection: close\r\ncontent-length: 0\r\n\r\n"},
		{api.Response{Status: 200, Fields: fields("b", "2", "a", "1", "b", "1", "c", "3"), Body: "0123456789"},
			"HTTP/1.1 200 OK\r\nb: 2\r\na: 1\r\nb: 1\r\nc: 3\r\ncontent-length: 10\r\n\r\n0123456789"},
		{api.Response{Status: 200, Fields: fields("a", "x: y:z", "b", ":", "c", ": d", "e", "f \t g")},
			"HTTP/1.1 200 OK\r\na: x: y:z\r\nb: :\r\nc: : d\r\ne: f \t g\r\ncontent-length: 0\r\n\r\n"},
		{api.Response{Status: 200, Fields: fields("a", "connection: close", "b", "content-length: 3", "connections", "close", "content-lengt", "5", "x-connection", "close")},
			"HTTP/1.1 200 OK\r\na: connection: close\r\nb: content-length: 3\r\nconnections: close\r\ncontent-lengt: 5\r\nx-connection: close\r\ncontent-length: 0\r\n\r\n"},
		{api.Response{Status: 500, Fields: fields(token, valueBytes()), Body: allBytes()},
			"HTTP/1.1 500 Internal Server Error\r\n" + token + ": " + valueBytes() + "\r\ncontent-length: 256\r\n\r\n" + allBytes()},
		{api.Response{Status: 200, Fields: fields("a", "\x00\x0b\x0c\x7f\x80\xff\u00a0\u2028"), Body: "\r\n\r\n"},
			"HTTP/1.1 200 OK\r\na: \x00\x0b\x0c\x7f\x80\xff\u00a0\u2028\r\ncontent-length: 4\r\n\r\n\r\n\r\n"},
		{api.Response{Status: 200, Body: "HTTP/1.1 200 OK\r\ncontent-length: 0\r\n\r\n"},
			"HTTP/1.1 200 OK\r\ncontent-length: 38\r\n\r\nHTTP/1.1 200 OK\r\ncontent-length: 0\r\n\r\n"},
		{api.Response{Status: 200, Fields: fields("a", long[:1]), Body: long},
			"HTTP/1.1 200 OK\r\na: a\r\ncontent-length: 120000\r\n\r\n" + long},
	}
}

func same(a, b api.Response) bool {
	return a.Status == b.Status && slices.Equal(a.Fields, b.Fields) && a.Body == b.Body && a.Close == b.Close
}

// show: a response as a text, not too long.
func show(r api.Response) string { return fmt.Sprintf("%.300s", fmt.Sprintf("%+v", r)) }

// tells: does Decode tell that response of s, and that rest behind it?
func tells(t *testing.T, s string, want api.Response, behind string) {
	t.Helper()
	if r, rest, ok := Decode(s); !ok || rest != behind || !same(r, want) {
		t.Errorf("Decode(%.300q) = %s, %.80q, %v", s, show(r), rest, ok)
	}
}

// tellsNone: does Decode tell false of s, and nothing beside it?
func tellsNone(t *testing.T, s string) {
	t.Helper()
	r, rest, ok := Decode(s)
	if ok || rest != "" || len(r.Fields) > 0 || !same(r, api.Response{}) {
		t.Errorf("Decode(%.300q) = %s, %.80q, %v", s, show(r), rest, ok)
	}
}

func TestWord(t *testing.T) {
	for status := -10; status < 2000; status++ {
		if got := Word(status); got != wordOf(status) {
			t.Errorf("Word(%d) = %q", status, got)
		}
	}
	for _, status := range []int{math.MinInt, math.MinInt32, -200, 200 + 1<<16, 404 + 1<<32, math.MaxInt32, math.MaxInt} {
		if got := Word(status); got != "Unknown" {
			t.Errorf("Word(%d) = %q", status, got)
		}
	}
}

func TestEncode(t *testing.T) {
	for _, w := range writtenOnes() {
		if got := Encode(w.r); got != w.text {
			t.Errorf("Encode(%s) = %.300q, want %.300q", show(w.r), got, w.text)
		}
	}
}

func TestEncodeOfEachStatus(t *testing.T) {
	for status := 100; status <= 999; status++ {
		first := "HTTP/1.1 " + strconv.Itoa(status) + " " + wordOf(status) + "\r\n"
		r := api.Response{Status: status, Fields: fields("a", "b"), Body: "c"}
		if got := Encode(r); got != first+"a: b\r\ncontent-length: 1\r\n\r\nc" {
			t.Errorf("Encode of %d: %q", status, got)
		}
		tells(t, Encode(r)+"d", r, "d")
		r.Close = true
		if got := Encode(r); got != first+"a: b\r\nconnection: close\r\ncontent-length: 1\r\n\r\nc" {
			t.Errorf("Encode of %d, closing: %q", status, got)
		}
		tells(t, Encode(r), r, "")
	}
}

// TestEncodeWritesFieldsAsTheyAre: which fields a response may have is Decode's to say alone.
func TestEncodeWritesFieldsAsTheyAre(t *testing.T) {
	r := api.Response{Status: 200, Fields: fields("A b", " c ", "", "", "connection", "keep", "content-length", "7", "x", "\r\n")}
	const want = "HTTP/1.1 200 OK\r\nA b:  c \r\n: \r\nconnection: keep\r\ncontent-length: 7\r\nx: \r\n\r\ncontent-length: 0\r\n\r\n"
	if got := Encode(r); got != want {
		t.Errorf("%q", got)
	}
}

func TestEncodeOfOtherStatusesEnds(t *testing.T) {
	for _, status := range []int{math.MinInt, -200, -1, 0, 1, 99, 1000, math.MaxInt} {
		tellsNone(t, Encode(api.Response{Status: status}))
		tellsNone(t, Encode(Plain(status, true)))
	}
}

func TestEncodeLeavesItsResponse(t *testing.T) {
	l := fields("b", "1", "a", "2", "c", "3")
	r := api.Response{Status: 200, Fields: l[:2], Body: "x", Close: true}
	first := Encode(r)
	if !slices.Equal(l, fields("b", "1", "a", "2", "c", "3")) {
		t.Errorf("%q", l)
	}
	l[0].Value = "changed"
	if second := Encode(r); first == second || second != strings.Replace(first, "b: 1", "b: changed", 1) {
		t.Errorf("%q, then %q", first, second)
	}
}

// behinds: what may stand behind a response.
func behinds() []string {
	return []string{"", "x", "\r", "\n", "\r\n", "\r\n\r\n", "\x00\xff", "content-length: 0\r\n\r\n", "HTTP/1.1 200 OK\r\n",
		"HTTP/1.1 404 Not Found\r\ncontent-length: 1\r\n\r\n!", allBytes()}
}

func TestDecodeTellsWhatEncodeWrote(t *testing.T) {
	for _, w := range writtenOnes() {
		for _, behind := range behinds() {
			tells(t, w.text+behind, w.r, behind)
		}
	}
}

func TestDecodeOneBehindTheOther(t *testing.T) {
	var all strings.Builder
	for _, w := range writtenOnes() {
		all.WriteString(w.text)
	}
	rest := all.String()
	for i, w := range writtenOnes() {
		r, behind, ok := Decode(rest)
		if !ok || !same(r, w.r) || rest != w.text+behind {
			t.Fatalf("%d: %s, %v", i, show(r), ok)
		}
		rest = behind
	}
	if rest != "" {
		t.Errorf("left: %q", rest)
	}
	tellsNone(t, rest)
}

func TestDecodeOfEachLength(t *testing.T) {
	for n := range 1200 {
		r := api.Response{Status: 200, Body: strings.Repeat("\n", n)}
		tells(t, Encode(r), r, "")
		tells(t, Encode(r)+"\n", r, "\n")
	}
}

func TestDecodeOfWhatIsCutOff(t *testing.T) {
	for _, w := range writtenOnes() {
		for i := range len(w.text) {
			// Of a long body, near its ends alone.
			if i > 1000 && i < len(w.text)-1000 {
				continue
			}
			tellsNone(t, w.text[:i])
		}
	}
}

// TestDecodeByFirstLines: only the first line differs from what Encode writes.
func TestDecodeByFirstLines(t *testing.T) {
	const behind = "\r\ncontent-length: 0\r\n\r\n"
	tells(t, "HTTP/1.1 200 OK"+behind, api.Response{Status: 200}, "")
	tells(t, "HTTP/1.1 100 Unknown"+behind, api.Response{Status: 100}, "")
	tells(t, "HTTP/1.1 999 Unknown"+behind, api.Response{Status: 999}, "")
	for _, first := range []string{
		"", " ", "200", "200 OK", "HTTP/1.1", "HTTP/1.1 ", "HTTP/1.1  ", "HTTP/1.1 200", "HTTP/1.1 200 ", "HTTP/1.1 OK",
		"HTTP/1.0 200 OK", "HTTP/1.2 200 OK", "HTTP/2 200 OK", "HTTP/1.1.1 200 OK", "http/1.1 200 OK", "Http/1.1 200 OK", "TTP/1.1 200 OK", " 200 OK",
		"HTTP/1.1 200 Ok", "HTTP/1.1 200 ok", "HTTP/1.1 200 O", "HTTP/1.1 200 OKK", "HTTP/1.1 200 OK ", "HTTP/1.1 200 Unknown", "HTTP/1.1 200 Created",
		"HTTP/1.1 200  OK", "HTTP/1.1  200 OK", " HTTP/1.1 200 OK", "HTTP/1.1\t200 OK", "HTTP/1.1 200\tOK", "HTTP/1.1 200OK", "HTTP/1.1200 OK",
		"HTTP/1.1 404 NotFound", "HTTP/1.1 404 Not  Found", "HTTP/1.1 404 Not", "HTTP/1.1 404 Not Found Found", "HTTP/1.1 413 Payload Too Large",
		"HTTP/1.1 418 I'm a teapot", "HTTP/1.1 418 OK", "HTTP/1.1 418 unknown",
		"HTTP/1.1 0 Unknown", "HTTP/1.1 1 Unknown", "HTTP/1.1 99 Unknown", "HTTP/1.1 099 Unknown", "HTTP/1.1 000 Unknown", "HTTP/1.1 1000 Unknown", "HTTP/1.1 -200 Unknown",
		"HTTP/1.1 0200 OK", "HTTP/1.1 +200 OK", "HTTP/1.1 200. OK", "HTTP/1.1 2_00 OK", "HTTP/1.1 0xc8 OK", "HTTP/1.1 c8 OK", "HTTP/1.1 20 OK", "HTTP/1.1 2000 OK",
		"HTTP/1.1 4294967496 OK", "HTTP/1.1 18446744073709551816 OK", "HTTP/1.1 99999999999999999999999 Unknown", "HTTP/1.1 abc Unknown", "HTTP/1.1 ２００ OK",
		"HTTP/1.1 200 OK\r", "HTTP/1.1 200 OK\n", "\rHTTP/1.1 200 OK", "\nHTTP/1.1 200 OK", "\r\nHTTP/1.1 200 OK", "HTTP/1.1 200\r\n OK", "HTTP/1.1 200 OK\x00",
	} {
		tellsNone(t, first+behind)
	}
}

// TestDecodeByFields: only a line among the fields differs from what Encode writes.
func TestDecodeByFields(t *testing.T) {
	const before = "HTTP/1.1 200 OK\r\na: b\r\n"
	const behind = "\r\nc: d\r\ncontent-length: 1\r\n\r\n!"
	tells(t, before+"x: y"+behind, api.Response{Status: 200, Fields: fields("a", "b", "x", "y", "c", "d"), Body: "!"}, "")
	for _, line := range []string{
		"", " ", ":", ": ", ": y", "x", "x:", "x:y", "x :y", "x : y", " x: y", "\tx: y", "x y: z", "x\t: y", "x;: y", "x y", "x= y", "x:\ty",
		"X: y", "xY: z", "x-Id: y", "Connection: close", "CONTENT-LENGTH: 1", "é: y", "x\x00: y", "x\x7f: y", "x\xff: y", "(x): y", "\"x\": y", "x/z: y", "x@: y",
		"connection: close", "connection: keep-alive", "connection: ", "connection: closed", "content-length: 1", "content-length: 0", "content-length: ", "content-length: x",
		"x:  y", "x: y ", "x: \ty", "x: y\t", "x:  ", "x: \t", "x:   y   ",
		"x: y\r", "x: \ry", "x: y\rz", "x: y\n", "x: \ny", "x: y\nz", "x: \r", "x: \n", "x: y\n\r", "x: y\r\n", "x: y\nz: w", "x: y\rz: w", "x\r\n: y", "x:\r\n y", "x: y\r\n z",
	} {
		tellsNone(t, before+line+behind)
	}
}

// TestDecodeByNamesOfEachByte: which bytes may stand in a name, each at its beginning, between and at its end.
func TestDecodeByNamesOfEachByte(t *testing.T) {
	const may = "abcdefghijklmnopqrstuvwxyz0123456789!#$%&'*+-.^_|~\x60"
	for c := range 256 {
		sign := string([]byte{byte(c)})
		for _, name := range []string{sign, "a" + sign, sign + "a", "a" + sign + "a"} {
			s := "HTTP/1.1 200 OK\r\n" + name + ": v\r\ncontent-length: 0\r\n\r\n"
			if strings.Contains(may, sign) {
				tells(t, s, api.Response{Status: 200, Fields: fields(name, "v")}, "")
			} else {
				tellsNone(t, s)
			}
		}
	}
}

// TestDecodeByValuesOfEachByte: which bytes may stand in a value, at its ends and between.
func TestDecodeByValuesOfEachByte(t *testing.T) {
	for c := range 256 {
		sign := string([]byte{byte(c)})
		ends := !strings.Contains("\r\n", sign)
		trimmed := strings.Contains(" \t", sign)
		for _, v := range []struct {
			value string
			may   bool
		}{{sign, ends && !trimmed}, {"a" + sign, ends && !trimmed}, {sign + "a", ends && !trimmed}, {"a" + sign + "a", ends}} {
			s := "HTTP/1.1 200 OK\r\nn: " + v.value + "\r\ncontent-length: 0\r\n\r\n"
			if v.may {
				tells(t, s, api.Response{Status: 200, Fields: fields("n", v.value)}, "")
			} else {
				tellsNone(t, s)
			}
		}
	}
}

// TestDecodeByLengths: only the length differs from what Encode writes of a body of ten bytes.
func TestDecodeByLengths(t *testing.T) {
	const before, behind = "HTTP/1.1 200 OK\r\ncontent-length: ", "\r\n\r\n0123456789"
	for n := range 11 {
		tells(t, before+strconv.Itoa(n)+behind, api.Response{Status: 200, Body: "0123456789"[:n]}, "0123456789"[n:])
	}
	for _, length := range []string{
		"", " ", "a", "x1", "1x", "1 ", " 1", "1\t", "\t1", "1,1", "1.0", "1_0", "1e0", "0x1", "A", "１", "1\x00", "-", "+", "-1", "-0", "+1", "+0", "--1",
		"00", "01", "001", "010", "0000000000", "11", "12", "100", "1000000", "1073741824", "1073741825", "2147483648", "4294967296", "4294967306",
		"9223372036854775807", "9223372036854775808", "18446744073709551616", "18446744073709551626", "-9223372036854775808", "-18446744073709551606",
		strings.Repeat("0", 1000), strings.Repeat("9", 1000), "1\r", "1\n", "\r1", "\n1", "\r\n1",
	} {
		tellsNone(t, before+length+behind)
	}
}

// TestDecodeByLastLines: only the lines behind the fields differ from what Encode writes.
func TestDecodeByLastLines(t *testing.T) {
	const before, behind = "HTTP/1.1 200 OK\r\na: b\r\n", "\r\n!"
	open := api.Response{Status: 200, Fields: fields("a", "b"), Body: "!"}
	tells(t, before+"content-length: 1\r\n"+behind, open, "")
	closed := open
	closed.Close = true
	tells(t, before+"connection: close\r\ncontent-length: 1\r\n"+behind, closed, "")
	for _, lines := range []string{
		"", "\r\n", "connection: close\r\n", "content-length\r\n", "content-length:\r\n", "content-length:1\r\n", "content-length:  1\r\n", "content-length : 1\r\n", " content-length: 1\r\n",
		"Content-Length: 1\r\n", "content-Length: 1\r\n", "contentlength: 1\r\n", "content-lengths: 1\r\n",
		"content-length: 1\r\nconnection: close\r\n", "content-length: 1\r\ncontent-length: 1\r\n", "content-length: 1\r\nc: d\r\n",
		"connection: close\r\nc: d\r\ncontent-length: 1\r\n", "connection: close\r\nconnection: close\r\ncontent-length: 1\r\n",
		"connection: close\r\ncontent-length: 1\r\nconnection: close\r\n", "connection: close\r\n\r\ncontent-length: 1\r\n", "\r\ncontent-length: 1\r\n",
		"connection: Close\r\ncontent-length: 1\r\n", "Connection: close\r\ncontent-length: 1\r\n", "connection:close\r\ncontent-length: 1\r\n", "connection:  close\r\ncontent-length: 1\r\n",
		"connection: close \r\ncontent-length: 1\r\n", "connection: close, close\r\ncontent-length: 1\r\n", "connection: keep-alive\r\ncontent-length: 1\r\n", "connection: \r\ncontent-length: 1\r\n",
		"connection: closecontent-length: 1\r\n", "transfer-encoding: chunked\r\n",
	} {
		tellsNone(t, before+lines+behind)
	}
}

// TestDecodeByEndsOfLines: each end of a line by turns is another one than CR LF.
func TestDecodeByEndsOfLines(t *testing.T) {
	const s = "HTTP/1.1 200 OK\r\na: b\r\nconnection: close\r\ncontent-length: 1\r\n\r\n!"
	for i := range strings.Count(s, "\r\n") {
		parts := strings.SplitAfterN(s, "\r\n", i+2)
		before, behind := strings.TrimSuffix(strings.Join(parts[:i+1], ""), "\r\n"), parts[i+1]
		for _, end := range []string{"\r", "\n", "\n\r", "\r\r\n", "\r \n", "\n\n", "\r\r", "\n\r\n"} {
			tellsNone(t, before+end+behind)
		}
		// Some of these are no ends, but bytes of a value or of the body.
		for _, end := range []string{"", " ", " \r\n", "\r\n ", "\r\n\r", "\r\n\n", "\r\n\r\n", "\x00", "\u0085", "\u2028"} {
			asByPattern(t, before+end+behind)
		}
	}
	tellsNone(t, strings.ReplaceAll(s, "\r\n", "\n"))
	tellsNone(t, strings.ReplaceAll(s, "\r\n", "\r"))
}

var form = regexp.MustCompile("(?s)^HTTP/1[.]1 ([1-9][0-9][0-9]) ([A-Za-z ]+)\r\n" +
	"((?:[-a-z0-9!#$%&'*+.^_|~\x60]+: [^\r\n]*\r\n)*?)(connection: close\r\n)?content-length: (0|[1-9][0-9]{0,9})\r\n\r\n(.*)$")

// decodeByPattern: what Decode is to answer, told in another way.
func decodeByPattern(s string) (api.Response, string, bool) {
	m := form.FindStringSubmatch(s)
	if m == nil {
		return api.Response{}, "", false
	}
	status, _ := strconv.Atoi(m[1])
	length, _ := strconv.Atoi(m[5])
	if m[2] != wordOf(status) || length > len(m[6]) {
		return api.Response{}, "", false
	}
	r := api.Response{Status: status, Body: m[6][:length], Close: m[4] != ""}
	for _, line := range strings.Split(m[3], "\r\n") {
		if line == "" {
			continue
		}
		name, value, _ := strings.Cut(line, ": ")
		if name == "connection" || name == "content-length" || strings.Trim(value, " \t") != value {
			return api.Response{}, "", false
		}
		r.Fields = append(r.Fields, api.Field{Name: name, Value: value})
	}
	return r, m[6][length:], true
}

// asByPattern holds Decode against the pattern; is it a response by that?
func asByPattern(t *testing.T, s string) bool {
	t.Helper()
	want, behind, ok := decodeByPattern(s)
	if r, rest, got := Decode(s); got != ok || rest != behind || !same(r, want) {
		t.Fatalf("Decode(%q) = %s, %q, %v; by the pattern %s, %q, %v", s, show(r), rest, got, show(want), behind, ok)
	}
	return ok
}

// TestDecodeOfWhatDiffersByAByte holds Decode against the pattern, at texts that differ from what Encode writes at one place.
func TestDecodeOfWhatDiffersByAByte(t *testing.T) {
	signs := []byte("\x00\t\n\r !019:Aaz\x7f\xff")
	for _, w := range writtenOnes() {
		if len(w.text) > 300 {
			continue
		}
		s := w.text + "HTTP"
		for i := range len(s) {
			asByPattern(t, s[:i]+s[i+1:])
			if i+1 < len(s) {
				asByPattern(t, s[:i]+s[i+1:i+2]+s[i:i+1]+s[i+2:])
			}
			for _, c := range signs {
				asByPattern(t, s[:i]+string([]byte{c})+s[i:])
				asByPattern(t, s[:i]+string([]byte{c})+s[i+1:])
			}
		}
	}
}

// TestDecodeOfLinesInAnyOrder holds Decode against the pattern, at a first line with up to four lines behind it, in all orders.
func TestDecodeOfLinesInAnyOrder(t *testing.T) {
	lines := []string{"", "a: b", "c: ", "connection: close", "connection: keep", "content-length: 0", "content-length: 2", "HTTP/1.1 200 OK", "x"}
	texts := []string{"HTTP/1.1 200 OK\r\n"}
	for from := 0; strings.Count(texts[from], "\r\n") < 5; from++ {
		for _, line := range lines {
			texts = append(texts, texts[from]+line+"\r\n")
		}
	}
	some := 0
	for _, s := range texts {
		if asByPattern(t, s) {
			some++
		}
	}
	if len(texts) != 1+9+9*9+9*9*9+9*9*9*9 || some == 0 {
		t.Errorf("%d texts, %d of them responses", len(texts), some)
	}
}

func TestDecodeOfNoResponse(t *testing.T) {
	for _, s := range []string{"", "\r\n", "\r\n\r\n", "\n", "x", "content-length: 0\r\n\r\n", "GET / HTTP/1.1\r\nhost: a\r\n\r\n", "HTTP/1.1 200 OK\r\n\r\n",
		allBytes(), strings.Repeat("\r\n", 10000), strings.Repeat("a: b\r\n", 10000), "HTTP/1.1 200 OK\r\n" + strings.Repeat("a: b\r\n", 10000)} {
		tellsNone(t, s)
	}
}

func TestDecodeOfManyFields(t *testing.T) {
	r := api.Response{Status: 200, Body: "x", Close: true}
	for i := range 5000 {
		r.Fields = append(r.Fields, api.Field{Name: "n" + strconv.Itoa(i%7), Value: strconv.Itoa(i)})
	}
	tells(t, Encode(r)+"y", r, "y")
}

func TestDecodeAnswersNewFields(t *testing.T) {
	const s = "HTTP/1.1 200 OK\r\na: b\r\nc: d\r\ncontent-length: 0\r\n\r\n"
	r, _, _ := Decode(s)
	r.Fields[0].Value = "changed"
	r.Fields = append(r.Fields[:1], fields("e", "f")...)
	tells(t, s, api.Response{Status: 200, Fields: fields("a", "b", "c", "d")}, "")
}

func TestPlain(t *testing.T) {
	for status := -10; status < 2000; status++ {
		for _, closes := range []bool{false, true} {
			r := Plain(status, closes)
			if r.Status != status || r.Body != wordOf(status)+"\n" || r.Close != closes || len(r.Fields) > 0 {
				t.Errorf("Plain(%d, %v) = %s", status, closes, show(r))
			}
			if status >= 100 && status <= 999 {
				tells(t, Encode(r)+"\n", r, "\n")
			}
		}
	}
	for _, status := range []int{math.MinInt, math.MaxInt} {
		if r := Plain(status, true); !reflect.DeepEqual(r, api.Response{Status: status, Body: "Unknown\n", Close: true}) {
			t.Errorf("Plain(%d, true) = %s", status, show(r))
		}
	}
}

func TestEncodeOfPlain(t *testing.T) {
	for want, r := range map[string]api.Response{
		"HTTP/1.1 404 Not Found\r\ncontent-length: 10\r\n\r\nNot Found\n":                                          Plain(404, false),
		"HTTP/1.1 503 Service Unavailable\r\nconnection: close\r\ncontent-length: 20\r\n\r\nService Unavailable\n": Plain(503, true),
		"HTTP/1.1 418 Unknown\r\ncontent-length: 8\r\n\r\nUnknown\n":                                               Plain(418, false),
		"HTTP/1.1 100 Unknown\r\nconnection: close\r\ncontent-length: 8\r\n\r\nUnknown\n":                          Plain(100, true),
	} {
		if got := Encode(r); got != want {
			t.Errorf("%q, want %q", got, want)
		}
	}
}
