package chain

import (
	"errors"
	"fmt"
	"math"
	"reflect"
	"slices"
	"strings"
	"testing"

	"crossroad/api"
)

// fine: what the handles of these tests answer.
func fine() api.Response {
	return api.Response{Status: 207, Fields: []api.Field{{Name: "a", Value: "1"}, {Name: "b", Value: "2"}}, Body: "fine"}
}

// fineHandle answers fine, whatever the call.
func fineHandle(Call) api.Response { return fine() }

// words: what a plain answer's body has.
func words(status int) string {
	switch status {
	case 400:
		return "Bad Request\n"
	case 401:
		return "Unauthorized\n"
	case 404:
		return "Not Found\n"
	case 405:
		return "Method Not Allowed\n"
	case 500:
		return "Internal Server Error\n"
	case 501:
		return "Not Implemented\n"
	}
	return "?"
}

// refusal: a plain answer that doesn't close, with fields.
func refusal(status int, fields ...api.Field) api.Response {
	return api.Response{Status: status, Fields: fields, Body: words(status)}
}

// same: are two answers alike? An empty list of fields may be nil or not.
func same(a, b api.Response) bool {
	return a.Status == b.Status && a.Body == b.Body && a.Close == b.Close && slices.Equal(a.Fields, b.Fields)
}

func answers(t *testing.T, h Handle, c Call, want api.Response) {
	t.Helper()
	if got := h(c); !same(got, want) {
		t.Errorf("%+v is answered %+v, want %+v", c, got, want)
	}
}

// request: a call of a method, a target and a body that is found.
func request(method, target, body string) Call {
	return Call{Request: api.Request{Method: method, Target: target, Body: body}, Found: true}
}

// full: a call in which nothing is zero.
func full() Call {
	return Call{
		Request: api.Request{Method: "PUT", Target: "/admin/x?y", Fields: tokens("t"), Body: "body", Close: true},
		Conn:    3, Seq: 14, Version: 15,
		Match: api.Match{Handler: "put", Params: []api.Param{{Name: "x", Value: "y"}}, Allow: []string{"GET", "PUT"}},
		Found: true, Token: "t",
	}
}

// tokens: fields token of these values, and others between.
func tokens(values ...string) []api.Field {
	l := []api.Field{{Name: "host", Value: "a"}}
	for _, v := range values {
		l = append(l, api.Field{Name: "token", Value: v}, api.Field{Name: "tokens", Value: "x"})
	}
	return l
}

// named: a link that tells its name around next's body.
func named(name string) Link {
	return func(next Handle) Handle {
		return func(c Call) api.Response {
			r := next(c)
			r.Body = name + "(" + r.Body + ")"
			return r
		}
	}
}

// each: the six links, with their names.
func each() map[string]Link {
	return map[string]Link{"Mark": Mark, "Safe": Safe, "Known": Known, "Small": Small, "Guard": Guard, "Routed": Routed}
}

// gives: what a call panics with; nil: it doesn't.
func gives(h Handle, c Call) (v any) {
	defer func() { v = recover() }()
	h(c)
	return nil
}

func TestAllWithoutLinks(t *testing.T) {
	for _, l := range [][]Link{nil, {}} {
		answers(t, All(fineHandle, l...), Call{}, fine())
		answers(t, All(fineHandle, l...), full(), fine())
	}
	answers(t, All(fineHandle), Call{}, fine())
}

func TestAllFirstOutermost(t *testing.T) {
	for _, c := range []struct{ names, want string }{
		{"a", "a(fine)"}, {"ab", "a(b(fine))"}, {"ba", "b(a(fine))"}, {"abc", "a(b(c(fine)))"}, {"aab", "a(a(b(fine)))"}, {"abcdefgh", "a(b(c(d(e(f(g(h(fine))))))))"},
	} {
		var l []Link
		for _, name := range strings.Split(c.names, "") {
			l = append(l, named(name))
		}
		want := fine()
		want.Body = c.want
		answers(t, All(fineHandle, l...), full(), want)
	}
}

// Each link is asked for a handle once, when the chain is made, and the chain may be called often.
func TestAllMakesOnce(t *testing.T) {
	made, called := 0, 0
	link := func(next Handle) Handle {
		made++
		return func(c Call) api.Response {
			called++
			return next(c)
		}
	}
	h := All(fineHandle, link, link)
	for range 3 {
		answers(t, h, Call{}, fine())
	}
	if made != 2 || called != 6 {
		t.Errorf("links made %d handles that were called %d times, want 2, 6", made, called)
	}
}

// What is done to the list of links behind All changes the chain no more.
func TestAllKeepsNoLinks(t *testing.T) {
	l := []Link{named("a"), named("b")}
	h := All(fineHandle, l...)
	l[0], l[1] = named("x"), nil
	want := fine()
	want.Body = "a(b(fine))"
	answers(t, h, Call{}, want)
}

func TestAllHandsOnTheCall(t *testing.T) {
	for _, links := range [][]Link{nil, {named("a"), named("b")}, Standard()} {
		var got Call
		All(func(c Call) api.Response {
			got = c
			return api.Response{}
		}, links...)(full())
		if !reflect.DeepEqual(got, full()) {
			t.Errorf("behind %d links the call is %+v, want %+v", len(links), got, full())
		}
	}
}

func TestAllWithoutHandles(t *testing.T) {
	none := func(Handle) Handle { return nil }
	failing := func(Handle) Handle { panic("no handle") }
	for i, h := range []Handle{All(nil), All(nil, Safe), All(nil, nil), All(fineHandle, none), All(fineHandle, failing), All(fineHandle, Safe, none), All(fineHandle, Guard, failing, Known)} {
		if got := h(request("GET", "/", "")); !same(got, refusal(500)) {
			t.Errorf("chain %d without a handle answers %+v, want %+v", i, got, refusal(500))
		}
	}
	answers(t, All(fineHandle, nil), Call{}, fine())
	want := fine()
	want.Body = "a(b(fine))"
	answers(t, All(fineHandle, nil, named("a"), nil, nil, named("b"), nil), Call{}, want)
}

func TestStandardEach(t *testing.T) {
	if n := len(Standard()); n != 6 {
		t.Fatalf("Standard has %d links, want 6", n)
	}
	marked := fine()
	marked.Fields = append([]api.Field{{Name: "x-id", Value: "0-0"}, {Name: "x-version", Value: "0"}}, marked.Fields...)
	guarded := request("PUT", "/admin/", "")
	guarded.Token = "t"
	unfound := request("PUT", "/", "")
	unfound.Found = false
	l := Standard()
	answers(t, l[0](fineHandle), request("PUT", "/", ""), marked)
	answers(t, l[1](func(Call) api.Response { panic("gone") }), request("PUT", "/", ""), refusal(500))
	answers(t, l[2](fineHandle), request("HEAD", "/", ""), refusal(501))
	answers(t, l[3](fineHandle), request("GET", "/", "b"), refusal(400))
	answers(t, l[4](fineHandle), guarded, refusal(401))
	answers(t, l[5](fineHandle), unfound, refusal(404))
	for i, link := range l[1:] {
		answers(t, link(fineHandle), request("PUT", "/", ""), fine())
		for j, c := range []Call{request("HEAD", "/", ""), request("GET", "/", "b"), guarded, unfound} {
			if i != j+1 {
				answers(t, link(fineHandle), c, fine())
			}
		}
	}
}

func TestStandardIsNew(t *testing.T) {
	l := Standard()
	for i := range l {
		l[i] = nil
	}
	for i, link := range Standard() {
		if link == nil {
			t.Errorf("Standard()[%d] is what was done to another list", i)
		}
	}
}

// Of several faults that which the outer link tells is answered.
func TestStandardOrder(t *testing.T) {
	ask := All(fineHandle, Standard()...)
	for _, c := range []struct {
		method, target, body string
		found                bool
		want                 int
	}{
		{"HEAD", "/admin/", "b", false, 501}, {"HEAD", "/", "", true, 501}, {"GET", "/admin/", "b", false, 400}, {"DELETE", "/admin/", "b", true, 400},
		{"GET", "/admin/", "", false, 401}, {"POST", "/admin/", "b", false, 401}, {"POST", "/admin/", "b", true, 401}, {"POST", "/admin", "b", false, 404}, {"GET", "/", "", true, 207},
	} {
		call := request(c.method, c.target, c.body)
		call.Found, call.Token, call.Conn, call.Seq, call.Version = c.found, "t", 1, 2, 3
		want := refusal(c.want)
		if c.want == 207 {
			want = fine()
		}
		want.Fields = append([]api.Field{{Name: "x-id", Value: "1-2"}, {Name: "x-version", Value: "3"}}, want.Fields...)
		answers(t, ask, call, want)
	}
}

func TestMark(t *testing.T) {
	for _, c := range []struct {
		conn, seq, version int
		id, by             string
	}{
		{0, 0, 0, "0-0", "0"}, {1, 2, 3, "1-2", "3"}, {8, 100, 12, "8-100", "12"}, {-1, -2, -3, "-1--2", "-3"},
		{math.MaxInt, math.MinInt, math.MaxInt, "9223372036854775807--9223372036854775808", "9223372036854775807"},
	} {
		call := request("GET", "/", "")
		call.Conn, call.Seq, call.Version = c.conn, c.seq, c.version
		marks := []api.Field{{Name: "x-id", Value: c.id}, {Name: "x-version", Value: c.by}}
		want := fine()
		want.Fields = append(slices.Clone(marks), want.Fields...)
		answers(t, Mark(fineHandle), call, want)
		answers(t, Mark(func(Call) api.Response { return api.Response{Status: 204} }), call, api.Response{Status: 204, Fields: marks})
	}
}

// Marks stand ahead of an answer's fields of those names, too.
func TestMarkTwice(t *testing.T) {
	c := request("GET", "/", "")
	c.Conn, c.Seq, c.Version = 4, 5, 6
	marks := []api.Field{{Name: "x-id", Value: "4-5"}, {Name: "x-version", Value: "6"}}
	want := fine()
	want.Fields = slices.Concat(marks, marks, want.Fields)
	answers(t, All(fineHandle, Mark, Mark), c, want)
}

func TestMarkCloses(t *testing.T) {
	for _, c := range []struct{ request, answer, want bool }{{false, false, false}, {false, true, true}, {true, false, true}, {true, true, true}} {
		call := request("GET", "/", "")
		call.Close = c.request
		got := Mark(func(Call) api.Response { return api.Response{Close: c.answer} })(call)
		if got.Close != c.want {
			t.Errorf("request that closes: %v, answer that does: %v: %v, want %v", c.request, c.answer, got.Close, c.want)
		}
	}
}

// Only Mark lets an answer close as the request does.
func TestOthersKeepClose(t *testing.T) {
	for name, link := range each() {
		if name == "Mark" {
			continue
		}
		for _, closes := range []bool{false, true} {
			for _, call := range []Call{request("GET", "/", ""), full()} {
				want := fine()
				want.Close = closes
				if got := link(func(Call) api.Response { return want })(call); !same(got, want) {
					t.Errorf("%s: %+v, want %+v", name, got, want)
				}
			}
		}
	}
}

// broken: handles that give up, each in a way of its own.
func broken() map[string]Handle {
	var m map[int]int
	var p *api.Response
	var list []int
	var some any = "text"
	return map[string]Handle{
		"a text":        func(Call) api.Response { panic("gone") },
		"an error":      func(Call) api.Response { panic(errors.New("gone")) },
		"an errno":      func(Call) api.Response { panic(api.OK) },
		"a number":      func(Call) api.Response { panic(0) },
		"false":         func(Call) api.Response { panic(false) },
		"nil":           func(Call) api.Response { panic(nil) },
		"an answer":     func(Call) api.Response { panic(fine()) },
		"an index":      func(c Call) api.Response { return api.Response{Status: list[len(c.Body)]} },
		"a part":        func(c Call) api.Response { return api.Response{Body: c.Body[len(c.Body)+1:]} },
		"a nil map":     func(c Call) api.Response { m[1] = 1; return fine() },
		"a nil pointer": func(c Call) api.Response { return *p },
		"a division":    func(c Call) api.Response { return api.Response{Status: 1 / (c.Conn - c.Conn)} },
		"an assertion":  func(c Call) api.Response { return api.Response{Status: some.(int)} },
		"a deferred one": func(c Call) (r api.Response) {
			defer func() { panic("gone") }()
			return fine()
		},
		"two": func(c Call) api.Response {
			defer func() { panic("more") }()
			panic("gone")
		},
		"a result that was set": func(c Call) (r api.Response) {
			r = fine()
			panic("gone")
		},
	}
}

func TestSafe(t *testing.T) {
	answers(t, Safe(fineHandle), Call{}, fine())
	answers(t, Safe(fineHandle), full(), fine())
	for name, h := range broken() {
		for _, c := range []Call{{}, request("GET", "/", ""), full()} {
			if got := Safe(h)(c); !same(got, refusal(500)) {
				t.Errorf("panic with %s is answered %+v, want %+v", name, got, refusal(500))
			}
		}
	}
}

// Who recovers by itself doesn't give up.
func TestSafeOfRecovered(t *testing.T) {
	h := func(Call) (r api.Response) {
		defer func() {
			recover()
			r = fine()
		}()
		panic("gone")
	}
	answers(t, Safe(h), Call{}, fine())
}

// One call that gave up leaves nothing for the next one.
func TestSafeAgain(t *testing.T) {
	h := Safe(func(c Call) api.Response {
		if c.Seq%2 == 1 {
			panic(c.Seq)
		}
		return fine()
	})
	for seq := range 6 {
		want := fine()
		if seq%2 == 1 {
			want = refusal(500)
		}
		answers(t, h, Call{Seq: seq}, want)
	}
}

// The other links leave it to Safe.
func TestOthersLetGo(t *testing.T) {
	h := func(Call) api.Response { panic("gone") }
	for name, link := range each() {
		if name == "Safe" {
			continue
		}
		if v := gives(link(h), full()); v != "gone" {
			t.Errorf("%s: the panic behind it is %v, want gone", name, v)
		}
		answers(t, All(h, Safe, link), full(), refusal(500))
	}
	answers(t, All(h, Known), request("HEAD", "/", ""), refusal(501))
	if v := gives(All(h), full()); v != "gone" {
		t.Errorf("All: the panic behind it is %v, want gone", v)
	}
}

func TestKnown(t *testing.T) {
	for _, body := range []string{"", "b"} {
		for _, method := range []string{"GET", "PUT", "POST", "DELETE"} {
			answers(t, Known(fineHandle), request(method, "/", body), fine())
		}
		for _, method := range []string{"HEAD", "OPTIONS", "PATCH", "TRACE", "CONNECT", "", "get", "Get", "put", "post", "delete", "GET ", " GET", "GETS", "GE", "PUTPOST", "GET,PUT", "\x00"} {
			answers(t, Known(fineHandle), request(method, "/", body), refusal(501))
		}
	}
	c := full()
	c.Method = "HEAD"
	answers(t, Known(fineHandle), c, refusal(501))
}

func TestSmall(t *testing.T) {
	bodies := []string{"b", " ", "\x00", "\n", strings.Repeat("b", 600)}
	for _, method := range []string{"GET", "DELETE"} {
		answers(t, Small(fineHandle), request(method, "/", ""), fine())
		for _, body := range bodies {
			answers(t, Small(fineHandle), request(method, "/", body), refusal(400))
		}
	}
	for _, method := range []string{"PUT", "POST", "HEAD", "get", "delete", "", "GETS"} {
		for _, body := range append(bodies, "") {
			answers(t, Small(fineHandle), request(method, "/", body), fine())
		}
	}
	c := full()
	c.Method = "GET"
	answers(t, Small(fineHandle), c, refusal(400))
}

// guards: how is a call of a token, a target and fields answered?
func guards(t *testing.T, token, target string, fields []api.Field, want api.Response) {
	t.Helper()
	for _, method := range []string{"GET", "POST", "HEAD"} {
		c := request(method, target, "")
		c.Token, c.Fields = token, fields
		answers(t, Guard(fineHandle), c, want)
	}
}

func TestGuardFields(t *testing.T) {
	for _, l := range [][]api.Field{
		nil, tokens(), tokens("x"), tokens(""), tokens("T"), tokens("t "), tokens(" t"), tokens("tt"), tokens("t", "t"), tokens("t", "x"), tokens("x", "t"), tokens("t", ""), tokens("t", "t", "t"),
		{{Name: "Token", Value: "t"}}, {{Name: "TOKEN", Value: "t"}}, {{Name: "tokens", Value: "t"}}, {{Name: "", Value: "t"}}, {{Name: "t", Value: "token"}}, {{Name: "token ", Value: "t"}},
	} {
		guards(t, "t", "/admin/reload", l, refusal(401))
		guards(t, "t", "/", l, fine())
		guards(t, "", "/admin/reload", l, fine())
	}
	for _, l := range [][]api.Field{tokens("t"), {{Name: "token", Value: "t"}}, {{Name: "Token", Value: "x"}, {Name: "token", Value: "t"}}, {{Name: "token", Value: "t"}, {Name: "t", Value: "token"}}} {
		guards(t, "t", "/admin/reload", l, fine())
		guards(t, "t", "/", l, fine())
		guards(t, "other", "/admin/reload", l, refusal(401))
	}
	guards(t, "a b", "/admin/", tokens("a b"), fine())
	guards(t, " ", "/admin/", tokens(""), refusal(401))
}

func TestGuardTargets(t *testing.T) {
	for _, target := range []string{"/admin/", "/admin//", "/admin/reload", "/admin/shutdown?x", "/admin/?", "/admin/a/b/c", "/admin/%", "/admin/\x00"} {
		guards(t, "t", target, nil, refusal(401))
		guards(t, "t", target, tokens("t"), fine())
		guards(t, "", target, nil, fine())
	}
	for _, target := range []string{"", "/", "/admin", "/admin?", "/admin?/admin/", "/admins/", "/Admin/", "/ADMIN/x", "admin/", "//admin/", "/x/admin/", " /admin/", "/admi/n/", "/kv/admin/", "/%61dmin/"} {
		guards(t, "t", target, nil, fine())
		guards(t, "t", target, tokens("x"), fine())
	}
}

func TestRouted(t *testing.T) {
	for _, c := range []struct {
		allow []string
		want  api.Response
	}{
		{nil, refusal(404)},
		{[]string{}, refusal(404)},
		{[]string{"GET"}, refusal(405, api.Field{Name: "allow", Value: "GET"})},
		{[]string{"GET", "PUT"}, refusal(405, api.Field{Name: "allow", Value: "GET, PUT"})},
		{[]string{"DELETE", "GET", "PUT"}, refusal(405, api.Field{Name: "allow", Value: "DELETE, GET, PUT"})},
		{[]string{"PUT", "GET", "GET"}, refusal(405, api.Field{Name: "allow", Value: "PUT, GET, GET"})},
		{[]string{""}, refusal(405, api.Field{Name: "allow", Value: ""})},
	} {
		for _, call := range []Call{{}, request("GET", "/", ""), full()} {
			call.Match.Allow = c.allow
			call.Found = false
			answers(t, Routed(fineHandle), call, c.want)
			call.Found = true
			answers(t, Routed(fineHandle), call, fine())
		}
	}
	handled := Call{Match: api.Match{Handler: "get", Params: []api.Param{{Name: "a", Value: "b"}}}}
	answers(t, Routed(fineHandle), handled, refusal(404))
}

// Who is refused isn't handled.
func TestRefusedAreNotHandled(t *testing.T) {
	called := 0
	h := func(Call) api.Response {
		called++
		return fine()
	}
	guarded := request("GET", "/admin/", "")
	guarded.Token = "t"
	Known(h)(request("HEAD", "/", ""))
	Small(h)(request("GET", "/", "b"))
	Guard(h)(guarded)
	Routed(h)(Call{})
	Routed(h)(Call{Match: api.Match{Allow: []string{"GET"}}})
	if called != 0 {
		t.Errorf("calls that are refused were handled %d times", called)
	}
	for _, link := range each() {
		called = 0
		link(h)(full())
		if called != 1 {
			t.Errorf("a call that isn't refused was handled %d times", called)
		}
	}
}

// spare: a list with room behind it, in which a sign stands.
func spare(l []api.Field) []api.Field {
	l = append(slices.Clone(l), api.Field{Name: "room", Value: "room"}, api.Field{Name: "room", Value: "room"}, api.Field{Name: "room", Value: "room"})
	return l[:len(l)-3]
}

// whole: a list with the room behind it.
func whole(l []api.Field) []api.Field { return slices.Clone(l[:len(l)+3]) }

// What is handed in stays as it is: the call, its lists, and what next answers, and keeps.
func TestNothingIsChanged(t *testing.T) {
	kept := api.Response{Status: 200, Fields: spare(fine().Fields)}
	h := func(Call) api.Response { return kept }
	links := each()
	links["all"] = func(next Handle) Handle { return All(next, Standard()...) }
	for name, link := range links {
		for _, method := range []string{"PUT", "GET", "HEAD"} {
			for _, found := range []bool{true, false} {
				for _, token := range []string{"t", "x", ""} {
					c, was := full(), full()
					c.Fields = spare(c.Fields)
					c.Method, c.Found, c.Token = method, found, token
					was.Method, was.Found, was.Token = method, found, token
					room, keptRoom := whole(c.Fields), whole(kept.Fields)
					r := link(h)(c)
					for i := range r.Fields {
						r.Fields[i] = api.Field{Name: "changed", Value: "changed"}
					}
					_ = append(r.Fields, api.Field{Name: "more", Value: "more"})
					if !reflect.DeepEqual(c, was) || !slices.Equal(whole(c.Fields), room) {
						t.Errorf("%s: the call is %+v, was %+v", name, c, was)
					}
					if !slices.Equal(whole(kept.Fields), keptRoom) {
						t.Errorf("%s: next's answer has %v, had %v", name, whole(kept.Fields), keptRoom)
					}
				}
			}
		}
	}
}

// An answer shares no list with the call, though next answers the call's own.
func TestAnswersAreNew(t *testing.T) {
	links := each()
	links["all"] = func(next Handle) Handle { return All(next, Standard()...) }
	links["none"] = func(next Handle) Handle { return All(next) }
	for name, link := range links {
		c := full()
		h := link(func(c Call) api.Response { return api.Response{Fields: c.Fields} })
		r := h(c)
		for i := range r.Fields {
			r.Fields[i] = api.Field{}
		}
		if !reflect.DeepEqual(c, full()) {
			t.Errorf("%s: the call is %+v behind a change of the answer", name, c)
		}
		if again := h(c); len(again.Fields) != len(r.Fields) || again.Fields[len(again.Fields)-1] != full().Fields[len(c.Fields)-1] {
			t.Errorf("%s: the next answer has %v", name, again.Fields)
		}
	}
}

// No call panics for want of a next one.
func TestNilHandles(t *testing.T) {
	for name, link := range each() {
		h := link(nil)
		want := refusal(500)
		if name == "Mark" {
			want.Fields = []api.Field{{Name: "x-id", Value: "3-14"}, {Name: "x-version", Value: "15"}}
			want.Close = true
		}
		answers(t, h, full(), want)
		h(Call{})
	}
	want := refusal(500, api.Field{Name: "x-id", Value: "3-14"}, api.Field{Name: "x-version", Value: "15"})
	want.Close = true
	answers(t, All(nil, Standard()...), full(), want)
}

// reckoned: Standard's answer by another way: the status of the first fault, and the marks ahead.
func reckoned(c Call, next func(Call) api.Response) api.Response {
	r := refusal(reckonedStatus(c))
	switch {
	case r.Status == 405:
		allow := strings.ReplaceAll(strings.Trim(fmt.Sprint(c.Match.Allow), "[]"), " ", ", ")
		r.Fields = []api.Field{{Name: "allow", Value: allow}}
	case r.Status == 0 && strings.Contains(c.Body, "gone"):
		r = refusal(500)
	case r.Status == 0:
		r = next(c)
	}
	r.Fields = append([]api.Field{{Name: "x-id", Value: fmt.Sprintf("%d-%d", c.Conn, c.Seq)}, {Name: "x-version", Value: fmt.Sprint(c.Version)}}, r.Fields...)
	if c.Close {
		r.Close = true
	}
	return r
}

// reckonedStatus: the first fault of a call, 0: none.
func reckonedStatus(c Call) int {
	count := map[string]int{}
	for _, f := range c.Fields {
		if f.Name == "token" {
			count[f.Value]++
			count["token of any value"]++
		}
	}
	switch {
	case !slices.Contains([]string{"DELETE", "GET", "POST", "PUT"}, c.Method):
		return 501
	case len(c.Body) > 0 && c.Method != "PUT" && c.Method != "POST":
		return 400
	case len(c.Target) > 6 && c.Target[:7] == "/admin/" && len(c.Token) > 0 && (count["token of any value"] != 1 || count[c.Token] != 1):
		return 401
	case !c.Found && len(c.Match.Allow) == 0:
		return 404
	case !c.Found:
		return 405
	}
	return 0
}

// every calls f with calls of all kinds.
func every(f func(c Call)) {
	lists := [][]api.Field{nil, tokens("t"), tokens("x"), tokens("t", "t"), tokens("x", "t")}
	for _, method := range []string{"GET", "PUT", "POST", "DELETE", "HEAD", ""} {
		for _, target := range []string{"/", "/admin", "/admin/", "/admin/reload"} {
			for _, body := range []string{"", "b", "gone"} {
				for _, fields := range lists {
					for _, token := range []string{"", "t", "x"} {
						for _, allow := range [][]string{nil, {"GET"}, {"DELETE", "GET", "PUT"}} {
							for i := range 4 {
								c := request(method, target, body)
								c.Fields, c.Token, c.Match.Allow = fields, token, allow
								c.Found, c.Close = i%2 == 0, i/2 == 0
								c.Conn, c.Seq, c.Version = i, len(method)+10*i, i-2
								f(c)
							}
						}
					}
				}
			}
		}
	}
}

// The whole chain, held against another way of reckoning, at calls of all kinds, behind answers that close and others.
func TestStandardReckoned(t *testing.T) {
	for _, closes := range []bool{false, true} {
		next := func(c Call) api.Response {
			r := fine()
			r.Close, r.Body = closes, c.Method+c.Target
			return r
		}
		h := All(func(c Call) api.Response {
			if c.Body == "gone" {
				panic(c.Body)
			}
			return next(c)
		}, Standard()...)
		every(func(c Call) { answers(t, h, c, reckoned(c, next)) })
	}
}
