package head

import (
	"cmp"
	"reflect"
	"slices"
	"strconv"
	"strings"
	"testing"

	"crossroad/api"
)

const (
	first = "GET / HTTP/1.1"
	host  = "host: a"
)

// good: the lines of a head with nothing wrong, and some more.
func good(more ...string) []string { return append([]string{first, host}, more...) }

// firstOf: a first line of that many bytes.
func firstOf(size int) string {
	return "GET /" + strings.Repeat("x", size-len("GET / HTTP/1.1")) + " HTTP/1.1"
}

// many: fields that say nothing.
func many(n int) []string {
	lines := make([]string, n)
	for i := range lines {
		lines[i] = "x" + strconv.Itoa(i) + ": y"
	}
	return lines
}

// refused: is it that status, and nothing beside it?
func refused(t *testing.T, status int, lines ...string) {
	t.Helper()
	if got, want := Parse(lines...), (Head{Status: status}); !reflect.DeepEqual(got, want) {
		t.Errorf("Parse(%q) = %+v, want status %d alone", lines, got, status)
	}
}

// taken: is nothing wrong with them?
func taken(t *testing.T, lines ...string) Head {
	t.Helper()
	h := Parse(lines...)
	if h.Status != 0 {
		t.Errorf("Parse(%q): status %d", lines, h.Status)
	}
	return h
}

func TestParseWhole(t *testing.T) {
	got := Parse("PUT /a/B?c HTTP/1.1", "Host:  x:80\t", "X-One:", "x-one:\t a \t b ", "Content-Length: 600", "CONNECTION: keep-alive")
	want := Head{Length: 600, Request: api.Request{Method: "PUT", Target: "/a/B?c", Fields: []api.Field{
		{Name: "host", Value: "x:80"},
		{Name: "x-one", Value: ""},
		{Name: "x-one", Value: "a \t b"},
		{Name: "content-length", Value: "600"},
		{Name: "connection", Value: "keep-alive"},
	}}}
	if !reflect.DeepEqual(got, want) {
		t.Errorf("%+v, want %+v", got, want)
	}
}

func TestParseLeast(t *testing.T) {
	want := Head{Request: api.Request{Method: "GET", Target: "/", Fields: []api.Field{{Name: "host", Value: "a"}}}}
	if got := Parse("GET / HTTP/1.1", "host: a"); !reflect.DeepEqual(got, want) {
		t.Errorf("%+v, want %+v", got, want)
	}
}

func TestParseNoLines(t *testing.T) {
	refused(t, api.Bad)
	refused(t, api.Bad, []string{}...)
	refused(t, api.Bad, "")
	refused(t, api.Bad, "", "")
}

func TestParseFirstLinesLength(t *testing.T) {
	h := taken(t, firstOf(200), host)
	if len(h.Target) != 200-len("GET  HTTP/1.1") {
		t.Errorf("a target of %d bytes", len(h.Target))
	}
	refused(t, api.LongHead, firstOf(201), host)
	refused(t, api.LongHead, strings.Repeat(" ", 201), host)
	refused(t, api.Bad, strings.Repeat(" ", 200), host)
	refused(t, api.LongHead, firstOf(201))
	refused(t, api.LongHead, strings.Repeat("x", 5000))
	// Bytes are counted, not runes.
	refused(t, api.LongHead, "GET /"+strings.Repeat("é", 100)+" HTTP/1.1", host)
	// Only the first line has that bound.
	taken(t, good("x: "+strings.Repeat("y", 900))...)
}

func TestParseFieldsNumber(t *testing.T) {
	h := taken(t, good(many(15)...)...)
	if len(h.Fields) != 16 {
		t.Errorf("%d fields", len(h.Fields))
	}
	refused(t, api.LongHead, good(many(16)...)...)
	refused(t, api.LongHead, append([]string{first}, many(17)...)...)
	refused(t, api.Bad, append([]string{first}, many(16)...)...)
	refused(t, api.LongHead, make([]string, 18)...)
	refused(t, api.Bad, make([]string, 17)...)
	refused(t, api.LongHead, make([]string, 1000)...)
}

func TestParseFirstLinesForm(t *testing.T) {
	for _, line := range []string{
		"GET", "HTTP/1.1", "GET /", "GET / ", "GET /HTTP/1.1", "/ HTTP/1.1", " / HTTP/1.1", "GET  HTTP/1.1", "  ",
		" GET / HTTP/1.1", "GET / HTTP/1.1 ", "GET  / HTTP/1.1", "GET /  HTTP/1.1", "GET / a HTTP/1.1", "GET\t/\tHTTP/1.1",
		"G:T / HTTP/1.1", "G\tT / HTTP/1.1", "GÉT / HTTP/1.1", "G\x00T / HTTP/1.1", "(GET) / HTTP/1.1",
		"GET a HTTP/1.1", "GET * HTTP/1.1", "GET http://a/ HTTP/1.1", "GET a/ HTTP/1.1", "GET \t/ HTTP/1.1",
		"GET /\x00 HTTP/1.1", "GET /\x1f HTTP/1.1", "GET /\x7f HTTP/1.1", "GET /\n HTTP/1.1", "GET /a\r HTTP/1.1",
		"GET / HTTP/1.0", "GET / HTTP/2", "GET / http/1.1", "GET / HTTP/1.10", "GET / HTTP/1.1\r", "GET / HTTP/1.1\t", "GET / HTTP/1", "GET / TTP/1.1",
	} {
		refused(t, api.Bad, line, host)
	}
	for line, want := range map[string][2]string{
		"get / HTTP/1.1":                {"get", "/"},
		"a~b` // HTTP/1.1":              {"a~b`", "//"},
		"! /a:b?c=d&e#f%00 HTTP/1.1":    {"!", "/a:b?c=d&e#f%00"},
		"DELETE /\ta\xff\x80é HTTP/1.1": {"DELETE", "/\ta\xff\x80é"},
	} {
		if h := taken(t, line, host); h.Method != want[0] || h.Target != want[1] {
			t.Errorf("Parse(%q): %q, %q", line, h.Method, h.Target)
		}
	}
}

func TestParseFieldsForm(t *testing.T) {
	for _, line := range []string{
		"", "x", "x y", ":", ": y", " : y", "x : y", " x: y", "\tx: y", "x\t: y", "x y: z", "(x): y", "é: y", "x\x00: y", "x\xff: y",
		"x: \x00", "x: y\x1fz", "x: y\x7f", "x: y\r", "x:\n", "x:y\x00", "x: y\v",
	} {
		refused(t, api.Bad, good(line)...)
		refused(t, api.Bad, first, line, host)
	}
	for line, want := range map[string]api.Field{
		"x:":             {Name: "x", Value: ""},
		"x: \t ":         {Name: "x", Value: ""},
		"x:y":            {Name: "x", Value: "y"},
		"X-Y:\tz\t":      {Name: "x-y", Value: "z"},
		"x::y:":          {Name: "x", Value: ":y:"},
		"x: : ":          {Name: "x", Value: ":"},
		"A!Z~: Y":        {Name: "a!z~", Value: "Y"},
		"x: a \t b":      {Name: "x", Value: "a \t b"},
		"x: \u00a0\xffé": {Name: "x", Value: "\u00a0\xffé"},
	} {
		if h := taken(t, good(line)...); !slices.Equal(h.Fields, []api.Field{{Name: "host", Value: "a"}, want}) {
			t.Errorf("Parse(.., %q): %q", line, h.Fields)
		}
	}
}

func TestParseHosts(t *testing.T) {
	refused(t, api.Bad, first)
	refused(t, api.Bad, first, "x: y")
	refused(t, api.Bad, first, "hosts: a")
	refused(t, api.Bad, good(host)...)
	refused(t, api.Bad, good("HOST: b")...)
	refused(t, api.Bad, good("x: y", "Host:", "host:")...)
	taken(t, first, "hOsT:")
	taken(t, first, "x: y", "Host: a b")
}

func TestParseLength(t *testing.T) {
	for value, want := range map[string]int{"0": 0, "00": 0, "1": 1, "007": 7, "599": 599, "600": 600, "0000000000000000600": 600, "\t5 ": 5} {
		if h := taken(t, good("Content-Length:"+value)...); h.Length != want {
			t.Errorf("content-length %q: %d", value, h.Length)
		}
	}
	for value, want := range map[string]int{
		"601": api.TooBig, "1000": api.TooBig, "1073741824": api.TooBig, "0000000601": api.TooBig,
		"1073741825": api.Bad, "99999999999999999999999": api.Bad,
		"": api.Bad, "x": api.Bad, "-1": api.Bad, "+5": api.Bad, "0x5": api.Bad, "a": api.Bad, "5 5": api.Bad, "5,5": api.Bad, "5.0": api.Bad, "٥": api.Bad,
	} {
		refused(t, want, good("content-length: "+value)...)
	}
	refused(t, api.Bad, good("content-length: 5", "content-length: 5")...)
	refused(t, api.Bad, good("content-length: 5", "CONTENT-LENGTH: 601")...)
	if h := taken(t, good("x-content-length: 5")...); h.Length != 0 {
		t.Error(h.Length)
	}
}

func TestParseCoding(t *testing.T) {
	for _, value := range []string{"chunked", "Chunked", "CHUNKED", "cHuNkEd", "\tchunked "} {
		if h := taken(t, good("Transfer-Encoding: "+value)...); h.Length != -1 {
			t.Errorf("transfer-encoding %q: %d", value, h.Length)
		}
	}
	for _, value := range []string{"", "gzip", "identity", "chunked, chunked", "gzip, chunked", "chunked,", "chunke", "chunkedd", "chun\u212aed", "\"chunked\""} {
		refused(t, api.NotDone, good("transfer-encoding: "+value)...)
	}
	for _, two := range [][2]string{{"chunked", "chunked"}, {"gzip", "chunked"}, {"chunked", "gzip"}, {"gzip", "gzip"}, {"chunked", ""}} {
		refused(t, api.NotDone, good("transfer-encoding: "+two[0], "Transfer-Encoding: "+two[1])...)
	}
}

func TestParseLengthBesideCoding(t *testing.T) {
	for _, length := range []string{"0", "5", "601", "x", ""} {
		for _, coding := range []string{"chunked", "gzip", ""} {
			l, c := "content-length: "+length, "transfer-encoding: "+coding
			refused(t, api.Bad, good(l, c)...)
			refused(t, api.Bad, good(c, l)...)
			refused(t, api.Bad, good(c, l, c)...)
			refused(t, api.Bad, good(l, c, l)...)
		}
	}
}

func TestParseClose(t *testing.T) {
	for value, want := range map[string]bool{
		"close": true, "Close": true, "CLOSE": true, "\t close \t": true, "a,close": true, "close,a": true, "a \t,\t Close \t, b": true, ",,close,": true, "close,close": true,
		"": false, ",": false, "keep-alive": false, "closed": false, "clos": false, "a close": false, "close a": false, "close;a": false, "\"close\"": false, "c,lose": false,
	} {
		if h := taken(t, good("Connection: "+value)...); h.Close != want {
			t.Errorf("connection %q: %v", value, h.Close)
		}
	}
	for _, two := range [][]string{{"connection: a", "connection: close"}, {"connection: close", "connection: keep-alive"}, {"x: y", "CONNECTION: b, CLOSE", "z: y", "connection:"}} {
		if h := taken(t, good(two...)...); !h.Close {
			t.Errorf("%q doesn't close", two)
		}
	}
	for _, other := range []string{"x-connection: close", "close: close", "proxy-connection: close", "x: close"} {
		if h := taken(t, good(other)...); h.Close {
			t.Errorf("%q closes", other)
		}
	}
}

// TestParseFirstFaultCounts: of two things that are wrong the one that the chapter names first is told, in whichever order their lines stand.
func TestParseFirstFaultCounts(t *testing.T) {
	faults := []struct {
		status int
		first  string
		more   []string
	}{
		{status: api.LongHead, first: firstOf(201)},
		{status: api.LongHead, more: many(17)},
		{status: api.Bad, first: "GET / HTTP/1.0"},
		{status: api.Bad, more: []string{"x"}},
		{status: api.Bad, more: []string{"x y: z"}},
		{status: api.Bad, more: []string{"x: \x00"}},
		{status: api.Bad, more: []string{host}},
		{status: api.Bad, more: []string{"content-length: 5", "content-length: 5"}},
		{status: api.Bad, more: []string{"content-length: 5", "transfer-encoding: chunked"}},
		{status: api.NotDone, more: []string{"transfer-encoding: gzip"}},
		{status: api.NotDone, more: []string{"transfer-encoding: chunked", "transfer-encoding: chunked"}},
		{status: api.Bad, more: []string{"content-length: x"}},
		{status: api.TooBig, more: []string{"content-length: 601"}},
	}
	for i, a := range faults {
		for _, b := range faults[i+1:] {
			line := cmp.Or(a.first, b.first, first)
			want := a.status
			// A length beside a coding is a fault of its own, which comes ahead of both.
			if want == api.NotDone && strings.HasPrefix(b.more[0], "content-length") {
				want = api.Bad
			}
			refused(t, want, slices.Concat([]string{line, host}, a.more, b.more)...)
			refused(t, want, slices.Concat([]string{line}, b.more, a.more, []string{host})...)
		}
	}
	refused(t, api.Bad, first, "transfer-encoding: gzip")
	refused(t, api.Bad, first, "content-length: 601")
}

func TestParseLeavesLines(t *testing.T) {
	lines := good("X: Y", "Connection: Close")
	kept := slices.Clone(lines)
	h := Parse(lines...)
	if !slices.Equal(lines, kept) {
		t.Errorf("changed: %q", lines)
	}
	other := Parse(lines...)
	for i := range lines {
		lines[i] = "!"
	}
	h.Fields[0].Value = "changed"
	if other.Fields[0].Value != "a" || other.Method != "GET" || Parse(kept...).Fields[0].Value != "a" {
		t.Errorf("shared: %+v", other)
	}
}

func TestParseAnyBytes(t *testing.T) {
	for c := range 256 {
		sign := string([]byte{byte(c)})
		for _, lines := range [][]string{{sign}, {sign + first, host}, {first + sign, host}, {first, host + sign}, {first, sign + host}, {first, host, sign}, {"GET " + sign + " HTTP/1.1", host}, {"GET /" + sign + " HTTP/1.1", host}} {
			switch h := Parse(lines...); h.Status {
			case 0, api.Bad:
			default:
				t.Errorf("Parse(%q): status %d", lines, h.Status)
			}
		}
		inTarget := c >= 32 && c != ' ' && c != 127 || c == '\t'
		if got := Parse("GET /"+sign+" HTTP/1.1", host).Status == 0; got != inTarget {
			t.Errorf("%q in a target: %v", sign, got)
		}
		inValue := c >= 32 && c != 127 || c == '\t'
		if got := Parse(first, "host: a"+sign+"b").Status == 0; got != inValue {
			t.Errorf("%q in a value: %v", sign, got)
		}
	}
}

func TestAll(t *testing.T) {
	l := []api.Field{{Name: "a", Value: "1"}, {Name: "b", Value: "2"}, {Name: "a", Value: ""}, {Name: "ab", Value: "3"}, {Name: "a", Value: "1"}, {Name: "", Value: "4"}}
	kept := slices.Clone(l)
	for name, want := range map[string][]string{"a": {"1", "", "1"}, "b": {"2"}, "ab": {"3"}, "": {"4"}, "c": {}, "A": {}, "a ": {}} {
		if got := All(l, name); !slices.Equal(got, want) {
			t.Errorf("All(%q) = %q, want %q", name, got, want)
		}
	}
	if got := All(nil, "a"); len(got) != 0 {
		t.Errorf("All(nil) = %q", got)
	}
	got := All(l, "a")
	got[0] = "changed"
	if !slices.Equal(l, kept) || All(l, "a")[0] != "1" {
		t.Errorf("shared: %q", l)
	}
}
