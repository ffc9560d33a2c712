package cutter

import (
	"reflect"
	"strconv"
	"strings"
	"testing"

	"crossroad/api"
	"crossroad/body"
	"crossroad/head"
)

const (
	one     = "GET /a HTTP/1.1\r\nhost: x\r\n\r\n"
	two     = "PUT /b HTTP/1.1\r\nHost: x\r\ncontent-length: 4\r\n\r\nh\r\ni"
	three   = "PUT /c HTTP/1.1\r\nhost: x\r\nTransfer-Encoding: Chunked\r\n\r\n2;e\r\nhi\r\n1\r\n!\r\n0\r\nt: r\r\n\r\n"
	closing = "GET /d HTTP/1.1\r\nhost: x\r\nconnection: close\r\n\r\n"
	closed  = "PUT /e HTTP/1.1\r\nhost: x\r\nconnection: a, CLOSE\r\ncontent-length: 2\r\n\r\nab"
	none    = "PUT /f HTTP/1.1\r\nhost: x\r\ncontent-length: 0\r\n\r\n"
)

// oneIs and the others: the requests that the texts above tell.
func oneIs() api.Request {
	return api.Request{Method: "GET", Target: "/a", Fields: []api.Field{{Name: "host", Value: "x"}}}
}

func twoIs() api.Request {
	return api.Request{Method: "PUT", Target: "/b", Body: "h\r\ni",
		Fields: []api.Field{{Name: "host", Value: "x"}, {Name: "content-length", Value: "4"}}}
}

func threeIs() api.Request {
	return api.Request{Method: "PUT", Target: "/c", Body: "hi!",
		Fields: []api.Field{{Name: "host", Value: "x"}, {Name: "transfer-encoding", Value: "Chunked"}}}
}

func closingIs() api.Request {
	return api.Request{Method: "GET", Target: "/d", Close: true,
		Fields: []api.Field{{Name: "host", Value: "x"}, {Name: "connection", Value: "close"}}}
}

func closedIs() api.Request {
	return api.Request{Method: "PUT", Target: "/e", Body: "ab", Close: true,
		Fields: []api.Field{{Name: "host", Value: "x"}, {Name: "connection", Value: "a, CLOSE"}, {Name: "content-length", Value: "2"}}}
}

func noneIs() api.Request {
	return api.Request{Method: "PUT", Target: "/f",
		Fields: []api.Field{{Name: "host", Value: "x"}, {Name: "content-length", Value: "0"}}}
}

func requests(l ...api.Request) []api.Request { return l }

// drain: the requests that are whole by now.
func drain(c *Cutter) []api.Request {
	var l []api.Request
	for r, ok := c.Next(); ok; r, ok = c.Next() {
		l = append(l, r)
	}
	return l
}

// an outcome is all that is seen of a cutter once nothing is whole any more.
type outcome struct {
	requests   []api.Request
	done, idle bool
	status     int
	left       int
}

func (o outcome) is(p outcome) bool {
	same := len(o.requests) == len(p.requests) && (len(o.requests) == 0 || reflect.DeepEqual(o.requests, p.requests))
	return same && o.done == p.done && o.idle == p.idle && o.status == p.status && o.left == p.left
}

func seen(c *Cutter, l []api.Request) outcome {
	return outcome{l, c.Done(), c.Idle(), c.Status(), c.Left()}
}

// cut: what comes of parts; asked behind each of them, or behind the last one alone.
func cut(each bool, parts ...string) outcome {
	c := New()
	var l []api.Request
	for _, part := range parts {
		c.Feed(part)
		if each {
			l = append(l, drain(c)...)
		}
	}
	return seen(c, append(l, drain(c)...))
}

// single: a text's bytes, one by one.
func single(s string) []string {
	l := make([]string, len(s))
	for i := range l {
		l[i] = s[i : i+1]
	}
	return l
}

// comes: does that come of s, in whatever parts?
func comes(t *testing.T, s string, want outcome) {
	t.Helper()
	say := func(how string, got outcome) {
		t.Helper()
		if !got.is(want) {
			t.Errorf("%q, %s:\n%+v, want\n%+v", s, how, got, want)
		}
	}
	say("at once", cut(true, s))
	say("byte by byte", cut(true, single(s)...))
	say("byte by byte, asked at the end", cut(false, single(s)...))
	// Of long texts: at each place near the ends, and at some between.
	for i := 0; i <= len(s); i++ {
		if i > 60 && i < len(s)-60 && len(s) > 400 && i%29 != 0 {
			continue
		}
		say("parted at "+strconv.Itoa(i), cut(true, s[:i], s[i:]))
		say("parted at "+strconv.Itoa(i)+", asked at the end", cut(false, s[:i], s[i:]))
	}
	if l, status := All(s); !(outcome{requests: l, status: status}).is(outcome{requests: want.requests, status: want.status}) {
		t.Errorf("All(%q) = %+v, %d", s, l, status)
	}
}

// whole: are those cut out of s, and does nothing of a next one come?
func whole(t *testing.T, s string, want ...api.Request) {
	t.Helper()
	comes(t, s, outcome{requests: want, idle: true})
}

// amid: are those cut out of s, and does something of a next one come that isn't whole?
func amid(t *testing.T, s string, want ...api.Request) {
	t.Helper()
	comes(t, s, outcome{requests: want})
}

// ends: is it done by the last byte of s, not by one ahead, and does nothing come of bytes behind that?
func ends(t *testing.T, s string, status int, want ...api.Request) {
	t.Helper()
	if got := cut(true, s[:len(s)-1]); got.done || got.status != 0 {
		t.Errorf("%q: done ahead of its last byte, status %d", s, got.status)
	}
	over := outcome{requests: want, done: true, idle: true, status: status}
	comes(t, s, over)
	for _, more := range []string{one, "\r\n" + one, "\n", "\r\n\r\n", "x"} {
		for _, got := range []outcome{cut(true, s+more), cut(true, s, more), cut(false, s, more), cut(true, single(s+more)...)} {
			if !got.is(over) {
				t.Errorf("%q, and %q behind it:\n%+v, want\n%+v", s, more, got, over)
			}
		}
	}
}

// wrong: is it done by the last byte of s with that status, be it the first request, or behind others?
func wrong(t *testing.T, s string, status int) {
	t.Helper()
	ends(t, s, status)
	ends(t, one+s, status, oneIs())
	ends(t, two+three+s, status, twoIs(), threeIs())
}

// headOf: a head of so many bytes, ends of lines and the empty line with them.
func headOf(n int) string {
	const ahead, behind = "GET / HTTP/1.1\r\nhost: x\r\ny: ", "\r\n\r\n"
	return ahead + strings.Repeat("z", n-len(ahead)-len(behind)) + behind
}

func parsed(t *testing.T, s string) api.Request {
	t.Helper()
	h := head.Parse(strings.Split(strings.TrimSuffix(s, "\r\n\r\n"), "\r\n")...)
	if h.Status != 0 {
		t.Fatalf("%q: status %d", s, h.Status)
	}
	return h.Request
}

func TestNothing(t *testing.T) {
	whole(t, "")
	c := New()
	for range 3 {
		if r, ok := c.Next(); ok || !reflect.DeepEqual(r, api.Request{}) {
			t.Errorf("%+v, %v", r, ok)
		}
		c.Feed("")
		if got := seen(c, nil); !got.is(outcome{idle: true}) {
			t.Errorf("%+v", got)
		}
	}
}

func TestOneRequest(t *testing.T) {
	whole(t, one, oneIs())
	whole(t, two, twoIs())
	whole(t, three, threeIs())
	whole(t, none, noneIs())
	ends(t, closing, 0, closingIs())
	ends(t, closed, 0, closedIs())
	whole(t, "PUT /%20?q HTTP/1.1\r\nX:\r\nHOST:\t x \r\nx: Y z\r\n\r\n", api.Request{Method: "PUT", Target: "/%20?q",
		Fields: []api.Field{{Name: "x"}, {Name: "host", Value: "x"}, {Name: "x", Value: "Y z"}}})
}

func TestSeveralRequests(t *testing.T) {
	whole(t, one+one, oneIs(), oneIs())
	whole(t, two+none+three+one, twoIs(), noneIs(), threeIs(), oneIs())
	whole(t, three+two+one+three, threeIs(), twoIs(), oneIs(), threeIs())
	amid(t, one+two+"G", oneIs(), twoIs())
	// Nothing of a request is left in the next one: fields, a body, that it comes in chunks.
	whole(t, two+one+none, twoIs(), oneIs(), noneIs())
	many := make([]api.Request, 300)
	for i := range many {
		many[i] = oneIs()
	}
	if got := cut(true, strings.Repeat(one, 300)); !got.is(outcome{requests: many, idle: true}) {
		t.Errorf("%d requests of 300", len(got.requests))
	}
}

func TestBodies(t *testing.T) {
	text := strings.Repeat("\r\n\x00\xffa", 120)
	const ahead = "PUT / HTTP/1.1\r\nhost: x\r\n"
	of := func(field, data string) api.Request {
		r := parsed(t, ahead+field+"\r\n\r\n")
		r.Body = data
		return r
	}
	for _, n := range []int{1, 2, 3, 599, 600} {
		field := "content-length: " + strconv.Itoa(n)
		whole(t, ahead+field+"\r\n\r\n"+text[:n]+one, of(field, text[:n]), oneIs())
		amid(t, ahead+field+"\r\n\r\n"+text[:n-1])
	}
	for _, n := range []int{0, 1, 20, 600} {
		for _, part := range []int{7, 600} {
			const field = "transfer-encoding: chunked"
			chunks := body.Chunks(text[:n], part)
			whole(t, ahead+field+"\r\n\r\n"+chunks+one, of(field, text[:n]), oneIs())
			amid(t, ahead+field+"\r\n\r\n"+chunks[:len(chunks)-1])
		}
	}
	// What looks like a request in a body is none.
	field := "content-length: " + strconv.Itoa(len(closing))
	whole(t, ahead+field+"\r\n\r\n"+closing+one, of(field, closing), oneIs())
}

func TestBodyIsAsLongAsAHeadMayBe(t *testing.T) {
	// Bytes of a body don't count among those of a head.
	s := strings.TrimSuffix(headOf(1000-len("content-length: 600\r\n")), "\r\n") + "content-length: 600\r\n\r\n"
	r := parsed(t, s)
	r.Body = strings.Repeat("b", 600)
	whole(t, s+r.Body+s+r.Body, r, r)
}

func TestClose(t *testing.T) {
	for _, more := range []string{"", one, "\r\n", "\n", "\r", "x", "G", "\x00"} {
		over := outcome{done: true, idle: true}
		over.requests = requests(closingIs())
		comes(t, closing+more, over)
		over.requests = requests(oneIs(), closedIs())
		comes(t, one+closed+more, over)
		over.requests = requests(twoIs(), threeIs(), closingIs())
		comes(t, two+three+closing+more, over)
	}
	amid(t, closing[:len(closing)-1])
	amid(t, closed[:len(closed)-1])
	// Nothing closes, without that word.
	r := parsed(t, "GET / HTTP/1.1\r\nhost: x\r\nconnection: closed, keep-alive\r\n\r\n")
	whole(t, "GET / HTTP/1.1\r\nhost: x\r\nconnection: closed, keep-alive\r\n\r\n"+one, r, oneIs())
}

func TestDoneAtOnceBehindClose(t *testing.T) {
	c := New()
	c.Feed(closing + one)
	if c.Done() {
		t.Error("done ahead of the request")
	}
	if r, ok := c.Next(); !ok || !r.Close || !c.Done() || c.Status() != 0 || c.Left() != 0 || !c.Idle() {
		t.Errorf("%+v, %v: %+v", r, ok, seen(c, nil))
	}
	c.Feed(one)
	if got := seen(c, drain(c)); !got.is(outcome{done: true, idle: true}) {
		t.Errorf("%+v", got)
	}
}

func TestEmptyLinesAhead(t *testing.T) {
	whole(t, "\r\n")
	whole(t, "\r\n\r\n")
	whole(t, "\r\n\r\n\r\n\r\n\r\n")
	whole(t, "\r\n"+one, oneIs())
	whole(t, "\r\n\r\n\r\n"+one+"\r\n"+two+"\r\n\r\n"+three+"\r\n", oneIs(), twoIs(), threeIs())
	ends(t, "\r\n\r\n"+closing, 0, closingIs())
	amid(t, "\r")
	amid(t, "\r\n\r")
	amid(t, one+"\r", oneIs())
	if got := cut(true, strings.Repeat("\r\n", 5000)+one); !got.is(outcome{requests: requests(oneIs()), idle: true}) {
		t.Errorf("%+v", got)
	}
	// A line of a blank isn't empty.
	wrong(t, " \r\n\r\n", api.Bad)
	wrong(t, "\r\n \r\n"+one, api.Bad)
}

func TestHeadsLength(t *testing.T) {
	for _, ahead := range []string{"", "\r\n", "\r\n\r\n\r\n"} {
		for _, n := range []int{40, 500, 999, 1000} {
			s := headOf(n)
			whole(t, ahead+s+one, parsed(t, s), oneIs())
		}
		// By its 1001st byte, whatever that is.
		ends(t, ahead+headOf(1001), api.LongHead)
		ends(t, ahead+headOf(1002)[:1001], api.LongHead)
		ends(t, ahead+headOf(1003)[:1001], api.LongHead)
		ends(t, ahead+headOf(1004)[:1001], api.LongHead)
		ends(t, ahead+headOf(1005)[:1001], api.LongHead)
		ends(t, ahead+headOf(5000)[:1001], api.LongHead)
		amid(t, ahead+headOf(5000)[:1000])
		amid(t, ahead+headOf(1001)[:1000])
	}
	whole(t, headOf(1000)+headOf(1000), parsed(t, headOf(1000)), parsed(t, headOf(1000)))
	wrong(t, headOf(1001), api.LongHead)
	ends(t, headOf(1000)+headOf(1001), api.LongHead, parsed(t, headOf(1000)))
	// Many short lines, and one long one, are a head too.
	wrong(t, strings.Repeat("x\r\n", 400)[:1001], api.LongHead)
	wrong(t, strings.Repeat("x", 1001), api.LongHead)
	// Bytes are counted, not runes.
	wrong(t, strings.Repeat("é", 501)[:1001], api.LongHead)
}

func TestHeadsLengthAmongFaults(t *testing.T) {
	x := func(n int) string { return strings.Repeat("x", n) }
	// An end of a line that is wrong by the 1001st byte is named ahead of the length; behind it nothing is looked at.
	wrong(t, x(1000)+"\n", api.Bad)
	wrong(t, x(999)+"\rx", api.Bad)
	wrong(t, x(999)+"\r\r", api.Bad)
	wrong(t, x(1001), api.LongHead)
	wrong(t, x(1000)+"\r", api.LongHead)
	// The length is named ahead of what Parse tells.
	wrong(t, "G\r\n"+x(994)+"\r\n\r\n", api.LongHead)
	wrong(t, "G\r\n"+x(993)+"\r\n\r\n", api.Bad)
	wrong(t, strings.Replace(headOf(1001), "host: x", "content-length: 601", 1)[:1001], api.LongHead)
}

func TestEndsOfLines(t *testing.T) {
	// Ahead of what is wrong: nothing, an empty line, a first line that isn't ended, one that is, a field that isn't ended, one that is.
	for _, ahead := range []string{"", "\r\n", "GET / HTTP/1.1", "GET / HTTP/1.1\r\n", "GET / HTTP/1.1\r\nhost: x", "GET / HTTP/1.1\r\nhost: x\r\n", "bad\r\n"} {
		for _, s := range []string{"\n", "\r\r", "\rx", "\r ", "\r\x00", "x\n", "x\r\r", "x\rx"} {
			wrong(t, ahead+s, api.Bad)
		}
		if ahead != "" && ahead != "\r\n" {
			amid(t, ahead+"\r")
		}
	}
	// A request that is whole has no end of its own: what follows is the next one's.
	ends(t, one+"\n", api.Bad, oneIs())
	ends(t, two+"\n", api.Bad, twoIs())
	ends(t, three+"\rx", api.Bad, threeIs())
}

func TestWrongHeads(t *testing.T) {
	for s, status := range map[string]int{
		"GET /":                                           api.Bad,
		"x":                                               api.Bad,
		"GET / HTTP/1.1":                                  api.Bad,
		"GET / HTTP/1.0\r\nhost: x":                       api.Bad,
		"GET  / HTTP/1.1\r\nhost: x":                      api.Bad,
		"GET x HTTP/1.1\r\nhost: x":                       api.Bad,
		"GET / HTTP/1.1\r\nhost: x\r\nhost: y":            api.Bad,
		"GET / HTTP/1.1\r\nhost: x\r\ny":                  api.Bad,
		"GET / HTTP/1.1\r\nhost: x\r\n y: z":              api.Bad,
		"GET / HTTP/1.1\r\nhost: x\r\ny: \x00":            api.Bad,
		"PUT / HTTP/1.1\r\nhost: x\r\ncontent-length: -1": api.Bad,
		"PUT / HTTP/1.1\r\nhost: x\r\ncontent-length: 1\r\ncontent-length: 1":                  api.Bad,
		"PUT / HTTP/1.1\r\nhost: x\r\ncontent-length: 1\r\ntransfer-encoding: chunked":         api.Bad,
		"PUT / HTTP/1.1\r\nhost: x\r\ntransfer-encoding: gzip":                                 api.NotDone,
		"PUT / HTTP/1.1\r\nhost: x\r\ntransfer-encoding: gzip, chunked":                        api.NotDone,
		"PUT / HTTP/1.1\r\nhost: x\r\ncontent-length: 601":                                     api.TooBig,
		"PUT / HTTP/1.1\r\nhost: x\r\nconnection: close\r\ncontent-length: 601":                api.TooBig,
		"GET /" + strings.Repeat("a", 187) + " HTTP/1.1\r\nhost: x":                            api.LongHead,
		"GET / HTTP/1.1\r\nhost: x" + strings.Repeat("\r\ny: z", 16):                           api.LongHead,
		"GET / HTTP/1.1\r\nhost: x\r\nconnection: close" + strings.Repeat("\r\nz", 15):         api.LongHead,
		"GET / HTTP/1.1\r\nhost: x\r\nconnection: close" + strings.Repeat("\r\nz", 14):         api.Bad,
		"GET / HTTP/1.1\r\nhost: x\r\ntransfer-encoding: chunked\r\ntransfer-encoding: \tgzip": api.NotDone,
	} {
		wrong(t, s+"\r\n\r\n", status)
		amid(t, s+"\r\n")
	}
	// At the bounds nothing is wrong.
	long := "GET /" + strings.Repeat("a", 186) + " HTTP/1.1\r\nhost: x\r\n\r\n"
	many := "GET / HTTP/1.1\r\nhost: x" + strings.Repeat("\r\ny: z", 15) + "\r\n\r\n"
	whole(t, long+many, parsed(t, long), parsed(t, many))
}

func TestWrongBodies(t *testing.T) {
	for _, ahead := range []string{
		"PUT / HTTP/1.1\r\nhost: x\r\ntransfer-encoding: chunked\r\n\r\n",
		"PUT / HTTP/1.1\r\nhost: x\r\nconnection: close\r\ntransfer-encoding: chunked\r\n\r\n",
	} {
		for s, status := range map[string]int{
			"\n":                api.Bad,
			"\r\n":              api.Bad,
			"x\r\n":             api.Bad,
			"1\n":               api.Bad,
			"1\rx":              api.Bad,
			"1\r\nab\r\n":       api.Bad,
			"1\r\na\n":          api.Bad,
			"1\r\na\r\n0\r\n\n": api.Bad,
			"0\r\n\rx":          api.Bad,
			"259\r\n":           api.TooBig,
			body.Chunks(fill(600), 600)[:607] + "1\r\nx": api.TooBig,
			"1;" + fill(199):    api.LongHead,
			"0\r\n" + fill(201): api.LongHead,
		} {
			wrong(t, ahead+s, status)
		}
	}
}

func fill(n int) string { return strings.Repeat("f", n) }

func TestCutOff(t *testing.T) {
	for s, r := range map[string]api.Request{one: oneIs(), two: twoIs(), three: threeIs(), closed: closedIs()} {
		for i := 1; i < len(s); i++ {
			for _, got := range []outcome{cut(true, s[:i]), cut(true, single(s[:i])...)} {
				if !got.is(outcome{}) {
					t.Errorf("%q: %+v", s[:i], got)
				}
			}
			if l, status := All(s[:i]); len(l) != 0 || status != 0 {
				t.Errorf("All(%q) = %+v, %d", s[:i], l, status)
			}
			if l, status := All(one + s[:i]); !reflect.DeepEqual(l, requests(oneIs())) || status != 0 {
				t.Errorf("All of one and %q = %+v, %d", s[:i], l, status)
			}
			c := New()
			c.Feed(s[:i])
			drain(c)
			c.Feed(s[i:])
			if got, ok := c.Next(); !ok || !reflect.DeepEqual(got, r) {
				t.Errorf("%q, parted at %d: %+v, %v", s, i, got, ok)
			}
		}
	}
}

func TestAll(t *testing.T) {
	for _, c := range []struct {
		s      string
		want   []api.Request
		status int
	}{
		{"", nil, 0},
		{"\r\n", nil, 0},
		{"x", nil, 0},
		{"GET / HTTP/1.1\r\nhost: a\r\n\r\n", requests(api.Request{Method: "GET", Target: "/", Fields: []api.Field{{Name: "host", Value: "a"}}}), 0},
		{one + two + three, requests(oneIs(), twoIs(), threeIs()), 0},
		{one + two[:len(two)-1], requests(oneIs()), 0},
		{one + closing + two, requests(oneIs(), closingIs()), 0},
		{one + closing + "\n", requests(oneIs(), closingIs()), 0},
		{one + "GET /\r\n\r\n" + one, requests(oneIs()), api.Bad},
		{two + "\n" + one, requests(twoIs()), api.Bad},
		{three + headOf(1001) + one, requests(threeIs()), api.LongHead},
	} {
		l, status := All(c.s)
		if !(outcome{requests: l, status: status}).is(outcome{requests: c.want, status: c.status}) {
			t.Errorf("All(%q) = %+v, %d", c.s, l, status)
		}
	}
}

func TestIdleAndLeft(t *testing.T) {
	c := New()
	at := func(what string, idle bool, left int) {
		t.Helper()
		if c.Idle() != idle || c.Left() != left || c.Done() || c.Status() != 0 {
			t.Errorf("%s: %+v", what, seen(c, nil))
		}
	}
	ask := func(want bool) {
		t.Helper()
		if _, ok := c.Next(); ok != want {
			t.Errorf("whole: %v", ok)
		}
	}
	at("at the beginning", true, 0)
	c.Feed("\r\n")
	at("an empty line that waits", false, 2)
	ask(false)
	at("behind an empty line", true, 0)
	c.Feed("G")
	at("a byte that waits", false, 1)
	c.Feed(one[1:5])
	at("bytes that wait", false, 5)
	ask(false)
	at("amid a first line", false, 0)
	c.Feed(one[5:])
	at("amid a first line, and bytes that wait", false, len(one)-5)
	ask(true)
	at("between two", true, 0)
	c.Feed(two[:len(two)-3])
	ask(false)
	at("amid a body", false, 0)
	c.Feed(two[len(two)-3:] + "\r\nabc")
	at("amid a body, and bytes that wait", false, 8)
	ask(true)
	at("between two, and bytes that wait", false, 5)
	ask(false)
	at("amid the next head", false, 0)
}

func TestBodyThatDidNotBegin(t *testing.T) {
	c := New()
	c.Feed(two[:len(two)-4])
	if _, ok := c.Next(); ok || c.Idle() || c.Left() != 0 {
		t.Errorf("between a head and its body: %+v", seen(c, nil))
	}
	c.Feed("h")
	if _, ok := c.Next(); ok || c.Idle() || c.Left() != 0 {
		t.Errorf("amid a body: %+v", seen(c, nil))
	}
}

func TestOneRequestACall(t *testing.T) {
	// A request that is whole isn't cut ahead of the call that answers it; nothing behind it is looked at.
	c := New()
	c.Feed(one + two + one + "\n" + one)
	if c.Left() != 3*len(one)+len(two)+1 || c.Done() || c.Idle() {
		t.Errorf("fed: %+v", seen(c, nil))
	}
	left := c.Left()
	for _, want := range []api.Request{oneIs(), twoIs(), oneIs()} {
		left -= len(one)
		if want.Body != "" {
			left += len(one) - len(two)
		}
		r, ok := c.Next()
		if got := seen(c, nil); !ok || !reflect.DeepEqual(r, want) || !got.is(outcome{left: left}) {
			t.Errorf("%+v, %v: %+v, %d wait", r, ok, got, left)
		}
	}
	for range 2 {
		if r, ok := c.Next(); ok || !reflect.DeepEqual(r, api.Request{}) {
			t.Errorf("%+v, %v", r, ok)
		}
		if got := seen(c, nil); !got.is(outcome{done: true, idle: true, status: api.Bad}) {
			t.Errorf("%+v", got)
		}
	}
}

func TestNothingIsLookedAtByFeed(t *testing.T) {
	c := New()
	c.Feed("\n")
	if got := seen(c, nil); !got.is(outcome{left: 1}) {
		t.Errorf("%+v", got)
	}
	c.Feed(one)
	if got := seen(c, drain(c)); !got.is(outcome{done: true, idle: true, status: api.Bad}) {
		t.Errorf("%+v", got)
	}
}

func TestFedOnceItIsDone(t *testing.T) {
	for s, want := range map[string]outcome{
		closing:                                 {done: true, idle: true},
		"\n":                                    {done: true, idle: true, status: api.Bad},
		"x\ry":                                  {done: true, idle: true, status: api.Bad},
		"x\r\n\r\n":                             {done: true, idle: true, status: api.Bad},
		headOf(1001):                            {done: true, idle: true, status: api.LongHead},
		strings.Split(three, "2;")[0] + "x\r\n": {done: true, idle: true, status: api.Bad},
	} {
		c := New()
		c.Feed(s + one)
		drain(c)
		for _, more := range []string{"", one, "\n", closing, strings.Repeat("x", 2000)} {
			c.Feed(more)
			if got := seen(c, nil); !got.is(want) {
				t.Errorf("%q, then %q: %+v", s, more, got)
			}
			if r, ok := c.Next(); ok || !reflect.DeepEqual(r, api.Request{}) {
				t.Errorf("%q, then %q: %+v, %v", s, more, r, ok)
			}
			if got := seen(c, nil); !got.is(want) {
				t.Errorf("%q, then %q, asked: %+v", s, more, got)
			}
		}
	}
}

func TestAnswersAreNewMemory(t *testing.T) {
	l, _ := All(one + one)
	l[0].Fields[0].Value = "changed"
	if l[1].Fields[0].Value != "x" {
		t.Error("two requests share their fields")
	}
	// Two cutters have nothing in common.
	c, d := New(), New()
	c.Feed(one[:9])
	d.Feed("\r\n" + three[:30])
	drain(c)
	drain(d)
	c.Feed(one[9:])
	d.Feed(three[30:])
	if got := drain(c); !reflect.DeepEqual(got, requests(oneIs())) {
		t.Errorf("%+v", got)
	}
	if got := drain(d); !reflect.DeepEqual(got, requests(threeIs())) {
		t.Errorf("%+v", got)
	}
}

// byWords: what comes of a whole text, by the chapter's words, told with all of it at hand.
func byWords(s string) outcome {
	var o outcome
	stop := func(status int) outcome {
		return outcome{requests: o.requests, done: true, idle: true, status: status}
	}
	for {
		for strings.HasPrefix(s, "\r\n") {
			s = s[2:]
		}
		o.idle = s == ""
		end, fault := strings.Index(s, "\r\n\r\n"), faultOfEnds(s)
		switch {
		case fault >= 0 && fault <= 1000 && (end < 0 || fault < end+4):
			return stop(api.Bad)
		case end+4 > 1000, end < 0 && len(s) > 1000:
			return stop(api.LongHead)
		case end < 0:
			return o
		}
		h := head.Parse(strings.Split(s[:end], "\r\n")...)
		if h.Status != 0 {
			return stop(h.Status)
		}
		s = s[end+4:]
		b := body.New(h.Length)
		for ; s != "" && !b.Done(); s = s[1:] {
			b.Feed(s[0])
		}
		if b.Status() != 0 {
			return stop(b.Status())
		}
		if !b.Done() {
			return o
		}
		h.Request.Body = b.Data()
		o.requests = append(o.requests, h.Request)
		if h.Close {
			return stop(0)
		}
	}
}

// faultOfEnds: the first byte by which an end of a line is wrong; -1: none.
func faultOfEnds(s string) int {
	for i := range len(s) {
		if (s[i] == '\n') != (i > 0 && s[i-1] == '\r') {
			return i
		}
	}
	return -1
}

// TestTextsOfPieces holds what is cut, of all texts of up to five pieces at which something turns, against the chapter's words.
func TestTextsOfPieces(t *testing.T) {
	pieces := []string{"\r", "\n", "\r\n", "0", "x: y", "GET / HTTP/1.1\r\n", "host: x\r\n", "content-length: 2\r\n", "connection: close\r\n", "transfer-encoding: chunked\r\n", one}
	texts := []string{""}
	for from, end := 0, 1; len(texts) < 150000; from, end = end, len(texts) {
		for _, text := range texts[from:end] {
			for _, piece := range pieces {
				texts = append(texts, text+piece)
			}
		}
	}
	for i, s := range texts {
		want := byWords(s)
		if got := cut(true, s); !got.is(want) {
			t.Fatalf("%q:\n%+v, want\n%+v", s, got, want)
		}
		// Parted elsewhere each time.
		at := i % (len(s) + 1)
		if got := cut(i%2 == 0, s[:at], s[at:]); !got.is(want) {
			t.Fatalf("%q, parted at %d:\n%+v, want\n%+v", s, at, got, want)
		}
		if i%10 == 0 {
			comes(t, s, want)
		}
	}
}

// FuzzParts: whatever comes, in whatever parts, the same is cut, by the chapter's words.
func FuzzParts(f *testing.F) {
	f.Add(one+two+three+closing+one, uint8(1))
	f.Add("\r\n\r\n"+three+"\n", uint8(7))
	f.Add(one+headOf(1001), uint8(200))
	f.Fuzz(func(t *testing.T, s string, size uint8) {
		want := byWords(s)
		var parts []string
		for rest := s; rest != ""; {
			n := min(len(rest), int(size)+1)
			parts = append(parts, rest[:n])
			rest = rest[n:]
		}
		for _, got := range []outcome{cut(true, s), cut(true, parts...), cut(false, parts...)} {
			if !got.is(want) {
				t.Fatalf("%q, by %d:\n%+v, want\n%+v", s, size, got, want)
			}
		}
		l, status := All(s)
		if !(outcome{requests: l, status: status}).is(outcome{requests: want.requests, status: want.status}) {
			t.Fatalf("All(%q) = %+v, %d", s, l, status)
		}
	})
}
