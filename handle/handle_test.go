package handle

import (
	"fmt"
	"hash/fnv"
	"math"
	"reflect"
	"slices"
	"strings"
	"testing"

	"crossroad/api"
	"crossroad/chain"
	"crossroad/store"
	"crossroad/table"
)

// The number of the connection, of the request on it, and of the owner in most of these tests.
const (
	conn  = 3
	seq   = 14
	owner = 7
)

// field: a field.
func field(name, value string) api.Field { return api.Field{Name: name, Value: value} }

// request: a request of these; its fields have others, too.
func request(method, target, body string, fields ...api.Field) api.Request {
	all := append([]api.Field{field("host", "a")}, fields...)
	return api.Request{Method: method, Target: target, Body: body, Fields: append(all, field("x", "y"))}
}

// route: a route.
func route(method, pattern, handler string) api.Route {
	return api.Route{Method: method, Pattern: pattern, Handler: handler}
}

// do: a call's answer, what it needs being locked meanwhile.
func do(t *testing.T, w *World, c chain.Call) api.Response {
	t.Helper()
	needs := Needs(c)
	for _, i := range needs {
		if !w.Store.Lock(owner, i) {
			t.Fatalf("shard %d is not free", i)
		}
	}
	defer w.Store.Unlock(owner)
	r := w.Do(c, owner)
	if got := w.Store.Held(owner); got != len(needs) {
		t.Errorf("behind %+v the owner has %d shards, locked %d", c, got, len(needs))
	}
	return r
}

// ask: a request's answer.
func ask(t *testing.T, w *World, r api.Request) api.Response {
	t.Helper()
	return do(t, w, w.Route(r, conn, seq))
}

// marked: the answer that a handler's is by the chain, of a request that doesn't close.
func marked(version, status int, body string, fields ...api.Field) api.Response {
	marks := []api.Field{field("x-id", "3-14"), field("x-version", fmt.Sprint(version))}
	return api.Response{Status: status, Body: body, Fields: append(marks, fields...)}
}

// words: what a plain answer's body has.
func words(status int) string {
	return map[int]string{400: "Bad Request\n", 401: "Unauthorized\n", 404: "Not Found\n", 405: "Method Not Allowed\n", 409: "Conflict\n", 412: "Precondition Failed\n", 500: "Internal Server Error\n", 501: "Not Implemented\n", 507: "Insufficient Storage\n"}[status]
}

// refused: a plain answer by the chain.
func refused(version, status int, fields ...api.Field) api.Response {
	return marked(version, status, words(status), fields...)
}

// same: are two answers alike?
func same(a, b api.Response) bool {
	return a.Status == b.Status && a.Body == b.Body && a.Close == b.Close && slices.Equal(a.Fields, b.Fields)
}

// answers holds the answer of a request against the one that is due.
func answers(t *testing.T, w *World, r api.Request, want api.Response) {
	t.Helper()
	if got := ask(t, w, r); !same(got, want) {
		t.Errorf("%+v is answered %+v, want %+v", r, got, want)
	}
}

// etag: a value's tag as a field of an answer, reckoned by the library.
func etag(value string) api.Field { return field("etag", tagOf(value)) }

// tagOf: a value's tag.
func tagOf(value string) string {
	h := fnv.New32a()
	h.Write([]byte(value))
	return fmt.Sprintf("%x-%d", h.Sum32(), len(value))
}

// ifMatch: a field that tells a tag.
func ifMatch(tag string) api.Field { return field("if-match", tag) }

// firstWorld: a world as a server has it at first, without a token.
func firstWorld() *World { return New("", table.First()...) }

// shard: that of a key, reckoned by another way than the store's.
func shard(key string) int {
	sum, times := 0, 1
	for i := len(key) - 1; i >= 0; i-- {
		sum, times = (sum+int(key[i])*times)%997, times*31%997
	}
	return sum % 4
}

// keysOf: so many keys of a shard, rising, that differ.
func keysOf(i, n int) []string {
	var l []string
	for k := 100; len(l) < n; k++ {
		if key := fmt.Sprint("k", k); shard(key) == i {
			l = append(l, key)
		}
	}
	return l
}

func TestNew(t *testing.T) {
	w := New("secret", table.First()...)
	if w.Token != "secret" || w.Stop {
		t.Errorf("New has the token %q, and Stop %v", w.Token, w.Stop)
	}
	if s := w.Table.Load(); s.Version != 1 || !slices.Equal(s.Routes, table.First()) {
		t.Errorf("New has version %d of the routes %v", s.Version, s.Routes)
	}
	for i := range api.Shards {
		if !w.Store.Lock(owner, i) {
			t.Errorf("New has shard %d locked", i)
		}
	}
	if keys, e := w.Store.List(owner, ""); len(keys) != 0 || e != api.OK {
		t.Errorf("New has the keys %q, error %d", keys, e)
	}
}

func TestNewNoRoutes(t *testing.T) {
	many := make([]api.Route, api.MaxRoutes+1)
	for i := range many {
		many[i] = route("GET", fmt.Sprint("/a", i), "health")
	}
	for name, l := range map[string][]api.Route{
		"none":            nil,
		"a wrong method":  {route("GET", "/health", "health"), route("G T", "/x", "health")},
		"a wrong pattern": {route("GET", "/health", "health"), route("GET", "x", "health")},
		"a wrong handler": {route("GET", "/health", "health"), route("GET", "/x", "fine")},
		"too many":        many,
		"two of a shape":  {route("GET", "/health", "health"), route("GET", "/:a", "get"), route("GET", "/:b", "get")},
	} {
		w := New("", l...)
		for _, target := range []string{"/health", "/a1", "/x", "/"} {
			c := w.Route(request("GET", target, ""), conn, seq)
			if c.Found || c.Version != 1 || len(c.Match.Allow) != 0 {
				t.Errorf("%s: %s is %+v", name, target, c)
			}
			answers(t, w, request("GET", target, ""), refused(1, 404))
		}
	}
	// As many as may be are taken.
	answers(t, New("", many[1:]...), request("GET", "/a24", ""), marked(1, 200, "fine"))
}

func TestNewKeepsNoList(t *testing.T) {
	l := []api.Route{route("GET", "/a", "health"), route("PUT", "/b/:k", "put")}
	was := slices.Clone(l)
	w := New("", l...)
	if !slices.Equal(l, was) {
		t.Errorf("New made %v of the routes", l)
	}
	l[0] = route("GET", "/a", "shutdown")
	answers(t, w, request("GET", "/a", ""), marked(1, 200, "fine"))
	if w.Stop {
		t.Error("a route that was changed behind New counts")
	}
}

func TestNewWorldsApart(t *testing.T) {
	a, b := firstWorld(), firstWorld()
	answers(t, a, request("PUT", "/kv/k", "v"), marked(1, 201, ""))
	answers(t, a, request("POST", "/admin/stop", ""), marked(1, 200, "stopping"))
	answers(t, a, request("POST", "/admin/routes", ""), marked(1, 200, "2"))
	answers(t, b, request("GET", "/kv/k", ""), refused(1, 404))
	if b.Stop || b.Table.Load().Version != 1 {
		t.Error("what is done in one world is seen in another")
	}
}

// params: of names and values in turn.
func params(l ...string) []api.Param {
	var out []api.Param
	for i := 0; i < len(l); i += 2 {
		out = append(out, api.Param{Name: l[i], Value: l[i+1]})
	}
	return out
}

// sameMatch: are two matches alike? Empty lists may be nil or not.
func sameMatch(a, b api.Match) bool {
	return a.Handler == b.Handler && slices.Equal(a.Params, b.Params) && slices.Equal(a.Allow, b.Allow)
}

func TestRoute(t *testing.T) {
	w := New("secret", append(table.First(), route("GET", "/a/:x/b/:y/*z", "list"), route("GET", "/a/:x", "get"), route("GET", "/a/c", "health"))...)
	allow := func(l ...string) api.Match { return api.Match{Allow: l} }
	for _, c := range []struct {
		method, target string
		found          bool
		match          api.Match
	}{
		{"GET", "/health", true, api.Match{Handler: "health"}},
		{"GET", "/health?a=b", true, api.Match{Handler: "health"}},
		{"GET", "/%68ealth", true, api.Match{Handler: "health"}},
		{"GET", "/kv/k", true, api.Match{Handler: "get", Params: params("key", "k")}},
		{"PUT", "/kv/k", true, api.Match{Handler: "put", Params: params("key", "k")}},
		{"DELETE", "/kv/a%2Fb%20?/c", true, api.Match{Handler: "delete", Params: params("key", "a/b ")}},
		{"POST", "/kv/k", false, allow("DELETE", "GET", "PUT")},
		{"HEAD", "/kv/k", false, allow("DELETE", "GET", "PUT")},
		{"get", "/kv/k", false, allow("DELETE", "GET", "PUT")},
		{"", "/health", false, allow("GET")},
		{"GET", "/kv/", false, api.Match{}},
		{"GET", "/kv", false, api.Match{}},
		{"GET", "/kv/k/", false, api.Match{}},
		{"GET", "/", false, api.Match{}},
		{"GET", "/list/", true, api.Match{Handler: "list", Params: params("prefix", "")}},
		{"GET", "/list/a/b", true, api.Match{Handler: "list", Params: params("prefix", "a/b")}},
		{"GET", "/a/1/b/2/3/4", true, api.Match{Handler: "list", Params: params("x", "1", "y", "2", "z", "3/4")}},
		{"GET", "/a/c", true, api.Match{Handler: "health"}},
		{"GET", "/a/d", true, api.Match{Handler: "get", Params: params("x", "d")}},
		{"POST", "/admin/stop", true, api.Match{Handler: "shutdown"}},
		{"GET", "/list/1/2/3/4/5/6/7", true, api.Match{Handler: "list", Params: params("prefix", "1/2/3/4/5/6/7")}},
		// Targets that Split refuses.
		{"GET", "/list/1/2/3/4/5/6/7/8", false, api.Match{}},
		{"GET", "", false, api.Match{}},
		{"GET", "health", false, api.Match{}},
		{"GET", "?/health", false, api.Match{}},
		{"GET", "*", false, api.Match{}},
		{"GET", "/kv/%", false, api.Match{}},
		{"GET", "/kv/%4", false, api.Match{}},
		{"GET", "/kv/%4g", false, api.Match{}},
		{"POST", "/kv/%4g", false, api.Match{}},
	} {
		got := w.Route(request(c.method, c.target, ""), conn, seq)
		if got.Found != c.found || !sameMatch(got.Match, c.match) {
			t.Errorf("%s %s: %v %+v, want %v %+v", c.method, c.target, got.Found, got.Match, c.found, c.match)
		}
		if got.Conn != conn || got.Seq != seq || got.Version != 1 || got.Token != "secret" {
			t.Errorf("%s %s: %+v", c.method, c.target, got)
		}
	}
}

// A target that Split refuses is not that of no segments.
func TestRouteOfRefusedTargets(t *testing.T) {
	w := New("", route("GET", "/", "health"), route("GET", "/*l", "list"))
	for _, target := range []string{"/", "/?x", "/?%"} {
		if c := w.Route(request("GET", target, ""), conn, seq); !c.Found || c.Match.Handler != "health" {
			t.Errorf("%q is %+v", target, c)
		}
	}
	for _, target := range []string{"", "x", "*", "?", "?/", "/%", "/%0", "/a/%g0", "/1/2/3/4/5/6/7/8/9", "//////////"} {
		for _, method := range []string{"GET", "PUT"} {
			c := w.Route(request(method, target, ""), conn, seq)
			if c.Found || !sameMatch(c.Match, api.Match{}) || c.Version != 1 {
				t.Errorf("%s %q is %+v", method, target, c)
			}
			answers(t, w, request(method, target, ""), refused(1, 404))
		}
	}
}

func TestRouteTellsTheCall(t *testing.T) {
	w := firstWorld()
	r := request("PUT", "/kv/k?q", "body", field("if-match", "x"), field("token", "t"))
	r.Close = true
	for _, n := range [][2]int{{0, 0}, {1, 2}, {2, 1}, {-5, 1 << 40}, {math.MaxInt, math.MinInt}} {
		c := w.Route(r, n[0], n[1])
		if c.Conn != n[0] || c.Seq != n[1] || !reflect.DeepEqual(c.Request, r) || c.Token != "" {
			t.Errorf("the call of %+v, %v is %+v", r, n, c)
		}
	}
	// What is wrong with a target keeps none of it from the call.
	r.Target = "k"
	if c := w.Route(r, 1, 2); !reflect.DeepEqual(c.Request, r) || c.Conn != 1 || c.Seq != 2 || c.Version != 1 {
		t.Errorf("the call of %+v is %+v", r, c)
	}
}

func TestRouteByTheTableThatCounts(t *testing.T) {
	w := firstWorld()
	elder := w.Route(request("GET", "/kv/k", ""), conn, seq)
	for version := 2; version < 5; version++ {
		text := fmt.Sprintf("GET /v%d/:x walk", version)
		if n, e := w.Table.Swap(text); n != version || e != api.OK {
			t.Fatal(n, e)
		}
		c := w.Route(request("GET", fmt.Sprintf("/v%d/F", version), ""), conn, seq)
		if !c.Found || c.Version != version || !sameMatch(c.Match, api.Match{Handler: "walk", Params: params("x", "F")}) {
			t.Errorf("version %d: %+v", version, c)
		}
		if c := w.Route(request("GET", "/kv/k", ""), conn, seq); c.Found || c.Version != version {
			t.Errorf("version %d has an elder one's route: %+v", version, c)
		}
	}
	if !elder.Found || elder.Version != 1 || !sameMatch(elder.Match, api.Match{Handler: "get", Params: params("key", "k")}) {
		t.Errorf("an elder call is now %+v", elder)
	}
	if _, e := w.Table.Swap("GET /x"); e == api.OK {
		t.Fatal(e)
	}
	if c := w.Route(request("GET", "/v4/F", ""), conn, seq); !c.Found || c.Version != 4 {
		t.Errorf("behind a wrong table: %+v", c)
	}
}

func TestRouteSharesNothing(t *testing.T) {
	w := firstWorld()
	r := request("GET", "/kv/k", "", field("a", "1"))
	was := slices.Clone(r.Fields)
	c, d := w.Route(r, conn, seq), w.Route(r, conn, seq)
	clear(c.Fields)
	c.Match.Params[0].Value = "other"
	if !slices.Equal(r.Fields, was) || !slices.Equal(d.Fields, was) || d.Match.Params[0].Value != "k" {
		t.Error("a call shares what it has")
	}
	clear(r.Fields)
	if !slices.Equal(d.Fields, was) {
		t.Error("a call shares the request's fields")
	}
	e, f := w.Route(request("POST", "/kv/k", ""), conn, seq), w.Route(request("POST", "/kv/k", ""), conn, seq)
	clear(e.Match.Allow)
	if !slices.Equal(f.Match.Allow, []string{"DELETE", "GET", "PUT"}) {
		t.Error("two calls share what is allowed")
	}
}

func TestRouteChangesNothing(t *testing.T) {
	w := New("secret", table.First()...)
	for _, target := range []string{"/admin/stop", "/admin/routes", "/kv/k", "*"} {
		for _, method := range []string{"GET", "PUT", "POST", "DELETE"} {
			w.Route(request(method, target, "GET /x get"), conn, seq)
		}
	}
	untouched(t, w)
}

// untouched: is a world of First's routes as it was made?
func untouched(t *testing.T, w *World) {
	t.Helper()
	if w.Stop || w.Table.Load().Version != 1 || !slices.Equal(w.Table.Load().Routes, table.First()) {
		t.Error("a world was changed")
	}
	if got := held(w.Store); got != "" {
		t.Errorf("a world has the keys %q", got)
	}
}

// held: a store's keys with their values; it must be nobody's.
func held(s *store.Store) string {
	const looker = 99
	for i := range api.Shards {
		if !s.Lock(looker, i) {
			return "locked"
		}
	}
	defer s.Unlock(looker)
	keys, _ := s.List(looker, "")
	var b strings.Builder
	for _, key := range keys {
		value, _ := s.Get(looker, key)
		fmt.Fprintf(&b, "%q=%q ", key, value)
	}
	return b.String()
}

// called: a call that is found, of a handler and params' values.
func called(handler string, values ...string) chain.Call {
	c := chain.Call{Request: api.Request{Method: "GET", Target: "/"}, Conn: conn, Seq: seq, Version: 5, Found: true}
	c.Match.Handler = handler
	for i, v := range values {
		c.Match.Params = append(c.Match.Params, api.Param{Name: fmt.Sprint("p", i), Value: v})
	}
	return c
}

func TestNeeds(t *testing.T) {
	keys := []string{"", "a", "b", "c", "d", "key", "a/b ", "\xff\x00", strings.Repeat("z", 40), strings.Repeat("z", 41), strings.Repeat("k", 200)}
	seen := map[int]bool{}
	for _, key := range keys {
		for _, handler := range []string{"get", "put", "delete"} {
			want := []int{shard(key)}
			seen[shard(key)] = true
			for _, c := range []chain.Call{called(handler, key), called(handler, key, "other", "a")} {
				if got := Needs(c); !slices.Equal(got, want) {
					t.Errorf("%s of %q needs %v, want %v", handler, key, got, want)
				}
			}
		}
		for _, c := range []chain.Call{called("list", key), called("list", key, "other"), called("list")} {
			if got := Needs(c); !slices.Equal(got, []int{0, 1, 2, 3}) {
				t.Errorf("list of %q needs %v", key, got)
			}
		}
		for _, handler := range []string{"walk", "health", "reload", "shutdown", "none", ""} {
			if got := Needs(called(handler, key)); len(got) != 0 {
				t.Errorf("%s of %q needs %v", handler, key, got)
			}
		}
	}
	if len(seen) != api.Shards {
		t.Errorf("these keys have the shards %v alone", seen)
	}
	for _, handler := range []string{"get", "put", "delete"} {
		if got := Needs(called(handler)); !slices.Equal(got, []int{0}) {
			t.Errorf("%s without a param needs %v", handler, got)
		}
	}
}

func TestNeedsOfWhatIsNotFound(t *testing.T) {
	for _, handler := range table.Handlers {
		c := called(handler, "a")
		c.Found = false
		c.Match.Allow = []string{"GET"}
		if got := Needs(c); len(got) != 0 {
			t.Errorf("%s that isn't found needs %v", handler, got)
		}
	}
	if got := Needs(chain.Call{}); len(got) != 0 {
		t.Errorf("no call needs %v", got)
	}
	w := firstWorld()
	for _, target := range []string{"/none", "/kv/", "/kv/%zz", "/health/x"} {
		if got := Needs(w.Route(request("GET", target, ""), conn, seq)); len(got) != 0 {
			t.Errorf("%s needs %v", target, got)
		}
	}
	if got := Needs(w.Route(request("POST", "/kv/a", ""), conn, seq)); len(got) != 0 {
		t.Errorf("what is not allowed needs %v", got)
	}
}

func TestNeedsSharesNothing(t *testing.T) {
	for _, handler := range []string{"list", "get"} {
		c := called(handler, "b")
		l := Needs(c)
		want := slices.Clone(l)
		l[0] = 9
		if got := Needs(c); !slices.Equal(got, want) {
			t.Errorf("%s: another's list is seen: %v", handler, got)
		}
		if !reflect.DeepEqual(c, called(handler, "b")) {
			t.Errorf("%s: the call was changed: %+v", handler, c)
		}
	}
}

func TestPutGetDelete(t *testing.T) {
	w := firstWorld()
	answers(t, w, request("GET", "/kv/a", ""), refused(1, 404))
	answers(t, w, request("DELETE", "/kv/a", ""), refused(1, 404))
	answers(t, w, request("PUT", "/kv/a", "one"), marked(1, 201, ""))
	answers(t, w, request("GET", "/kv/a", ""), marked(1, 200, "one", etag("one")))
	answers(t, w, request("PUT", "/kv/a", "two\r\n\x00"), marked(1, 200, ""))
	answers(t, w, request("GET", "/kv/a", ""), marked(1, 200, "two\r\n\x00", etag("two\r\n\x00")))
	answers(t, w, request("PUT", "/kv/a", "two\r\n\x00"), marked(1, 200, ""))
	answers(t, w, request("PUT", "/kv/a", ""), marked(1, 200, ""))
	answers(t, w, request("GET", "/kv/a", ""), marked(1, 200, "", field("etag", "811c9dc5-0")))
	answers(t, w, request("GET", "/kv/A", ""), refused(1, 404))
	answers(t, w, request("DELETE", "/kv/a", ""), marked(1, 200, ""))
	answers(t, w, request("DELETE", "/kv/a", ""), refused(1, 404))
	answers(t, w, request("GET", "/kv/a", ""), refused(1, 404))
	// Behind a delete the key has no value, so it is made anew.
	answers(t, w, request("PUT", "/kv/a", "three"), marked(1, 201, ""))
	if got := held(w.Store); got != `"a"="three" ` {
		t.Errorf("held: %s", got)
	}
}

func TestKeysAreTurnedSegments(t *testing.T) {
	w := firstWorld()
	answers(t, w, request("PUT", "/kv/a%2fb%00?c", "x"), marked(1, 201, ""))
	answers(t, w, request("PUT", "/kv/%61%2Fb%00", "y"), marked(1, 200, ""))
	answers(t, w, request("PUT", "/kv/%3a", "z"), marked(1, 201, ""))
	if got := held(w.Store); got != `":"="z" "a/b\x00"="y" ` {
		t.Errorf("held: %s", got)
	}
}

func TestKeysThatMayNotBe(t *testing.T) {
	w := New("", append(table.First(), route("GET", "/g/*k", "get"), route("PUT", "/g/*k", "put"), route("DELETE", "/g/*k", "delete"))...)
	long := strings.Repeat("k", 40)
	answers(t, w, request("GET", "/kv/"+long, ""), refused(1, 404))
	answers(t, w, request("PUT", "/kv/"+long, "v"), marked(1, 201, ""))
	answers(t, w, request("GET", "/kv/"+long, ""), marked(1, 200, "v", etag("v")))
	answers(t, w, request("DELETE", "/kv/"+long, ""), marked(1, 200, ""))
	for _, key := range []string{"", long + "k", strings.Repeat("/", 6) + long} {
		for _, tag := range [][]api.Field{nil, {ifMatch("x")}} {
			answers(t, w, request("GET", "/g/"+key, "", tag...), refused(1, 400))
			answers(t, w, request("PUT", "/g/"+key, "v", tag...), refused(1, 400))
			answers(t, w, request("DELETE", "/g/"+key, "", tag...), refused(1, 400))
		}
	}
	// Bytes are counted as they are behind the turning.
	answers(t, w, request("PUT", "/kv/"+strings.Repeat("%6b", 40), "w"), marked(1, 201, ""))
	answers(t, w, request("PUT", "/kv/"+strings.Repeat("%6b", 41), "w"), refused(1, 400))
	if got := held(w.Store); got != fmt.Sprintf("%q=\"w\" ", long) {
		t.Errorf("held: %s", got)
	}
}

func TestIfMatch(t *testing.T) {
	right, wrong := ifMatch(tagOf("v")), ifMatch(tagOf("w"))
	for name, c := range map[string]struct {
		fields []api.Field
		taken  bool
	}{
		"none":                  {nil, true},
		"right":                 {[]api.Field{right}, true},
		"wrong":                 {[]api.Field{wrong}, false},
		"right ahead of wrong":  {[]api.Field{right, wrong}, true},
		"wrong ahead of right":  {[]api.Field{wrong, right}, false},
		"empty":                 {[]api.Field{ifMatch("")}, true},
		"empty ahead of wrong":  {[]api.Field{ifMatch(""), wrong}, true},
		"wrong ahead of empty":  {[]api.Field{wrong, ifMatch("")}, false},
		"of no bytes":           {[]api.Field{ifMatch("811c9dc5-0")}, false},
		"a star":                {[]api.Field{ifMatch("*")}, false},
		"between quotes":        {[]api.Field{ifMatch(`"` + right.Value + `"`)}, false},
		"right, and more":       {[]api.Field{ifMatch(right.Value + ", x")}, false},
		"right behind others":   {[]api.Field{field("a", wrong.Value), field("etag", wrong.Value), right}, true},
		"fields named likewise": {[]api.Field{field("if-match-x", wrong.Value), field("if-none-match", wrong.Value), field("if", "x")}, true},
	} {
		w := firstWorld()
		answers(t, w, request("PUT", "/kv/k", "v"), marked(1, 201, ""))
		put, gone, behind := marked(1, 200, ""), marked(1, 200, ""), ""
		if !c.taken {
			put, gone, behind = refused(1, 412), refused(1, 412), `"k"="v" `
		}
		answers(t, w, request("PUT", "/kv/k", "v", c.fields...), put)
		if got := held(w.Store); got != `"k"="v" ` {
			t.Errorf("%s: behind put %s", name, got)
		}
		answers(t, w, request("DELETE", "/kv/k", "", c.fields...), gone)
		if got := held(w.Store); got != behind {
			t.Errorf("%s: behind delete %s", name, got)
		}
		// A get doesn't heed it.
		answers(t, w, request("PUT", "/kv/k", "v"), marked(1, map[bool]int{true: 201, false: 200}[c.taken], ""))
		answers(t, w, request("GET", "/kv/k", "", c.fields...), marked(1, 200, "v", etag("v")))
	}
}

func TestIfMatchOfAKeyWithoutAValue(t *testing.T) {
	w := firstWorld()
	for _, value := range []string{"811c9dc5-0", "x", "*", tagOf("v")} {
		answers(t, w, request("PUT", "/kv/k", "v", ifMatch(value)), refused(1, 412))
		answers(t, w, request("DELETE", "/kv/k", "", ifMatch(value)), refused(1, 404))
	}
	if got := held(w.Store); got != "" {
		t.Errorf("held: %s", got)
	}
	answers(t, w, request("PUT", "/kv/k", "v", ifMatch("")), marked(1, 201, ""))
	// By the tag of what stands there one value after another is put.
	for i := range 5 {
		was, next := strings.Repeat("v", i+1), strings.Repeat("v", i+2)
		answers(t, w, request("PUT", "/kv/k", next, ifMatch(tagOf(next))), refused(1, 412))
		answers(t, w, request("PUT", "/kv/k", next, ifMatch(tagOf(was))), marked(1, 200, ""))
		answers(t, w, request("GET", "/kv/k", ""), marked(1, 200, next, etag(next)))
	}
}

func TestShardIsFull(t *testing.T) {
	for i := range api.Shards {
		w := firstWorld()
		keys := keysOf(i, 9)
		for _, key := range keys[:8] {
			answers(t, w, request("PUT", "/kv/"+key, "v"), marked(1, 201, ""))
		}
		ninth := keys[8]
		answers(t, w, request("PUT", "/kv/"+ninth, "v"), refused(1, 507))
		// A tag that can't be right goes ahead of room.
		answers(t, w, request("PUT", "/kv/"+ninth, "v", ifMatch("x")), refused(1, 412))
		answers(t, w, request("GET", "/kv/"+ninth, ""), refused(1, 404))
		answers(t, w, request("PUT", "/kv/"+keys[7], "w"), marked(1, 200, ""))
		answers(t, w, request("PUT", "/kv/"+keysOf((i+1)%4, 1)[0], "v"), marked(1, 201, ""))
		answers(t, w, request("DELETE", "/kv/"+keys[0], ""), marked(1, 200, ""))
		answers(t, w, request("PUT", "/kv/"+ninth, "v"), marked(1, 201, ""))
		answers(t, w, request("PUT", "/kv/"+keys[0], "v"), refused(1, 507))
	}
}

func TestList(t *testing.T) {
	w := New("", append(table.First(), route("GET", "/all", "list"), route("GET", "/two/:a/:b", "list"))...)
	answers(t, w, request("GET", "/list/", ""), marked(1, 200, ""))
	answers(t, w, request("GET", "/all", ""), marked(1, 200, ""))
	for _, key := range []string{"b", "ab", "a", "a%2Fb", "abc", "B", "%ff", "a%20"} {
		answers(t, w, request("PUT", "/kv/"+key, "v"), marked(1, 201, ""))
	}
	all := "B\na\na \na/b\nab\nabc\nb\n\xff"
	for target, want := range map[string]string{
		"/list/":                           all,
		"/all":                             all,
		"/list/a":                          "a\na \na/b\nab\nabc",
		"/list/ab":                         "ab\nabc",
		"/list/a/b":                        "a/b",
		"/list/a%2fb":                      "a/b",
		"/list/a/":                         "a/b",
		"/list/a%20":                       "a ",
		"/list/abcd":                       "",
		"/list/x":                          "",
		"/list/%fF":                        "\xff",
		"/list//":                          "",
		"/list/b?a":                        "b",
		"/two/ab/b":                        "ab\nabc",
		"/list/" + strings.Repeat("a", 41): "",
	} {
		answers(t, w, request("GET", target, ""), marked(1, 200, want))
	}
	answers(t, w, request("DELETE", "/kv/ab", ""), marked(1, 200, ""))
	answers(t, w, request("GET", "/list/ab", ""), marked(1, 200, "abc"))
}

func TestListOfAFullStore(t *testing.T) {
	w := firstWorld()
	var all []string
	for i := range api.Shards {
		for _, key := range keysOf(i, 8) {
			all = append(all, key)
			answers(t, w, request("PUT", "/kv/"+key, "v"), marked(1, 201, ""))
		}
	}
	slices.Sort(all)
	answers(t, w, request("GET", "/list/", ""), marked(1, 200, strings.Join(all, "\n")))
	answers(t, w, request("GET", "/list/k", ""), marked(1, 200, strings.Join(all, "\n")))
	answers(t, w, request("GET", "/list/"+all[31], ""), marked(1, 200, all[31]))
}

func TestWalk(t *testing.T) {
	w := New("", append(table.First(), route("GET", "/still", "walk"), route("GET", "/way/*l", "walk"), route("GET", "/two/:a/:b", "walk"))...)
	for target, want := range map[string]string{
		"/walk/FF":                         "2 0 1 0",
		"/walk/FLF":                        "1 1 0 1",
		"/walk/B":                          "-1 0 1 0",
		"/walk/R":                          "0 0 0 -1",
		"/walk/LLF":                        "-1 0 -1 0",
		"/walk/%46?x":                      "1 0 1 0",
		"/walk/" + strings.Repeat("F", 40): "40 0 1 0",
		"/still":                           "0 0 1 0",
		"/way/":                            "0 0 1 0",
		"/way/F":                           "1 0 1 0",
		"/two/F/x":                         "1 0 1 0",
	} {
		answers(t, w, request("GET", target, ""), marked(1, 200, want))
	}
	for _, target := range []string{"/walk/x", "/walk/f", "/walk/FFx", "/walk/F%20", "/walk/%00", "/way/F/F", "/two/x/F", "/walk/" + strings.Repeat("F", 41)} {
		answers(t, w, request("GET", target, ""), refused(1, 400))
	}
	answers(t, w, request("GET", "/walk/", ""), refused(1, 404))
}

func TestReload(t *testing.T) {
	w := firstWorld()
	answers(t, w, request("PUT", "/kv/k", "v"), marked(1, 201, ""))
	again := "POST /r reload\nGET /x/:m walk\nGET /k/:k get"
	answers(t, w, request("POST", "/admin/routes", again), marked(1, 200, "2"))
	answers(t, w, request("GET", "/x/F", ""), marked(2, 200, "1 0 1 0"))
	answers(t, w, request("POST", "/x/F", ""), refused(2, 405, field("allow", "GET")))
	answers(t, w, request("GET", "/health", ""), refused(2, 404))
	// Values outlast a table.
	answers(t, w, request("GET", "/k/k", ""), marked(2, 200, "v", etag("v")))
	answers(t, w, request("POST", "/r", again), marked(2, 200, "3"))
	answers(t, w, request("POST", "/r", ""), marked(3, 200, "4"))
	answers(t, w, request("POST", "/r", again), refused(4, 404))
	if s := w.Table.Load(); s.Version != 4 || len(s.Routes) != 0 {
		t.Errorf("the table that counts: version %d, %v", s.Version, s.Routes)
	}
}

func TestReloadOfAWrongTable(t *testing.T) {
	many := strings.Builder{}
	for i := range api.MaxRoutes {
		fmt.Fprintf(&many, "GET /a%d get\n", i)
	}
	for text, status := range map[string]int{
		"GET /:a get\nGET /:b get":              409,
		"GET /a get\nPUT /x put\n\nGET /a list": 409,
		"GET /a/:x/*y get\nGET /a/:z/*w get":    409,
		"GET /a":                                400,
		"x":                                     400,
		"GET /a get get":                        400,
		"GET a get":                             400,
		"GET /a got":                            400,
		"G@T /a get":                            400,
		"GET /*a/b get":                         400,
		"GET /:a get\nGET /:b get\nGET /c":      400,
		"GET /:a get\nGET /:b get\nGET /c gets": 400,
		many.String() + "GET /b get":            400,
		many.String() + "GET /a1 get":           400,
		"GET\t/a\tget":                          400,
		"GET /1/2/3/4/5/6/7/8/9 get":            400,
		strings.Repeat("GET /a get\n", 24):      409,
		strings.Repeat("GET /a get\n", 25):      400,
		"GET /:a/:a get":                        400,
		"GET /a get\nGET /a get\n" + strings.Repeat("\n", 9): 409,
	} {
		w := firstWorld()
		answers(t, w, request("POST", "/admin/routes", text), refused(1, status))
		untouched(t, w)
		answers(t, w, request("GET", "/health", ""), marked(1, 200, "fine"))
	}
	w := firstWorld()
	answers(t, w, request("POST", "/admin/routes", many.String()), marked(1, 200, "2"))
}

func TestReloadTellsTheTablesVersion(t *testing.T) {
	w := firstWorld()
	c := w.Route(request("POST", "/admin/routes", "GET /x health"), conn, seq)
	w.Table.Swap("GET /y health")
	w.Table.Swap("GET /z health")
	// Its mark tells the version by which it was routed, its body the one that it made.
	if got := do(t, w, c); !same(got, marked(1, 200, "4")) {
		t.Errorf("a reload behind others is answered %+v", got)
	}
	answers(t, w, request("GET", "/x", ""), marked(4, 200, "fine"))
}

func TestShutdownAndHealth(t *testing.T) {
	w := New("", append(table.First(), route("GET", "/s/:x", "shutdown"), route("PUT", "/h/*x", "health"))...)
	answers(t, w, request("GET", "/health", ""), marked(1, 200, "fine"))
	answers(t, w, request("PUT", "/h/a/b", "body"), marked(1, 200, "fine"))
	if w.Stop {
		t.Error("Stop behind health")
	}
	for range 2 {
		answers(t, w, request("POST", "/admin/stop", "body"), marked(1, 200, "stopping"))
		if !w.Stop {
			t.Error("no Stop behind shutdown")
		}
	}
	answers(t, w, request("GET", "/health", ""), marked(1, 200, "fine"))
	answers(t, w, request("PUT", "/kv/k", "v"), marked(1, 201, ""))
	if !w.Stop {
		t.Error("Stop is over")
	}
	other := New("", route("GET", "/s/:x", "shutdown"))
	answers(t, other, request("GET", "/s/x", ""), marked(1, 200, "stopping"))
	if !other.Stop {
		t.Error("no Stop behind another route's shutdown")
	}
}

func TestRoutesWithoutParams(t *testing.T) {
	w := New("", route("GET", "/g", "get"), route("PUT", "/p", "put"), route("DELETE", "/d", "delete"), route("GET", "/", "list"), route("GET", "/w", "walk"), route("PUT", "/k/:k", "put"))
	answers(t, w, request("GET", "/g", ""), refused(1, 400))
	answers(t, w, request("PUT", "/p", "v"), refused(1, 400))
	answers(t, w, request("PUT", "/p", "v", ifMatch("x")), refused(1, 400))
	answers(t, w, request("DELETE", "/d", ""), refused(1, 400))
	answers(t, w, request("GET", "/w", ""), marked(1, 200, "0 0 1 0"))
	answers(t, w, request("PUT", "/k/k", "v"), marked(1, 201, ""))
	answers(t, w, request("GET", "/", ""), marked(1, 200, "k"))
}

// Handlers and methods are a route's choice.
func TestHandlersByOtherMethods(t *testing.T) {
	w := New("", route("POST", "/p/:k/:x", "put"), route("GET", "/p/:k", "put"), route("DELETE", "/g/:k", "get"), route("PUT", "/g/:k", "get"), route("POST", "/d/:k", "delete"), route("PUT", "/r", "reload"))
	answers(t, w, request("POST", "/p/k/l", "v"), marked(1, 201, ""))
	answers(t, w, request("DELETE", "/g/k", ""), marked(1, 200, "v", etag("v")))
	answers(t, w, request("PUT", "/g/k", "body"), marked(1, 200, "v", etag("v")))
	answers(t, w, request("GET", "/p/k", ""), marked(1, 200, ""))
	answers(t, w, request("PUT", "/g/k", "body"), marked(1, 200, "", etag("")))
	answers(t, w, request("POST", "/d/k", "body", ifMatch(tagOf(""))), marked(1, 200, ""))
	answers(t, w, request("POST", "/d/l", ""), refused(1, 404))
	answers(t, w, request("PUT", "/r", "GET /x get"), marked(1, 200, "2"))
}

func TestChainStandsAhead(t *testing.T) {
	token := field("token", "secret")
	for name, c := range map[string]struct {
		r    api.Request
		want api.Response
	}{
		"another method":            {request("HEAD", "/health", ""), refused(1, 501)},
		"a method written small":    {request("get", "/health", ""), refused(1, 501)},
		"another, and not found":    {request("PATCH", "/none", "x"), refused(1, 501)},
		"GET with a body":           {request("GET", "/kv/k", "x"), refused(1, 400)},
		"DELETE with a body":        {request("DELETE", "/kv/k", "x"), refused(1, 400)},
		"a body, and not found":     {request("GET", "/none", "x"), refused(1, 400)},
		"a body ahead of the token": {request("GET", "/admin/routes", "x"), refused(1, 400)},
		"no token":                  {request("POST", "/admin/stop", ""), refused(1, 401)},
		"a wrong token":             {request("POST", "/admin/routes", "", field("token", "Secret")), refused(1, 401)},
		"two tokens":                {request("POST", "/admin/stop", "", token, token), refused(1, 401)},
		"a token ahead of 404":      {request("GET", "/admin/x", ""), refused(1, 401)},
		"a token ahead of 405":      {request("GET", "/admin/stop", ""), refused(1, 401)},
		"405 of the admin's":        {request("GET", "/admin/stop", "", token), refused(1, 405, field("allow", "POST"))},
		"404 of the admin's":        {request("GET", "/admin/x", "", token), refused(1, 404)},
		"not allowed":               {request("POST", "/kv/k", "x"), refused(1, 405, field("allow", "DELETE, GET, PUT"))},
		"not found":                 {request("PUT", "/none/k", "x"), refused(1, 404)},
		"a wrong target":            {request("PUT", "/kv/%zz", "x"), refused(1, 404)},
	} {
		w := New("secret", table.First()...)
		for _, closes := range []bool{false, true} {
			c.r.Close, c.want.Close = closes, closes
			if got := ask(t, w, c.r); !same(got, c.want) {
				t.Errorf("%s: %+v, want %+v", name, got, c.want)
			}
		}
		untouched(t, w)
	}
}

func TestAnswersThatClose(t *testing.T) {
	w := New("secret", table.First()...)
	token := field("token", "secret")
	for _, c := range []struct {
		r    api.Request
		want api.Response
	}{
		{request("PUT", "/kv/k", "v"), marked(1, 201, "")},
		{request("GET", "/kv/k", ""), marked(1, 200, "v", etag("v"))},
		{request("GET", "/list/", ""), marked(1, 200, "k")},
		{request("DELETE", "/kv/k", ""), marked(1, 200, "")},
		{request("GET", "/kv/k", ""), refused(1, 404)},
		{request("GET", "/health", ""), marked(1, 200, "fine")},
		{request("GET", "/walk/F", ""), marked(1, 200, "1 0 1 0")},
		{request("POST", "/admin/stop", "", token), marked(1, 200, "stopping")},
		{request("POST", "/admin/routes", "", token), marked(1, 200, "2")},
	} {
		c.r.Close, c.want.Close = true, true
		answers(t, w, c.r, c.want)
	}
}

func TestMarksOfTheCall(t *testing.T) {
	w := firstWorld()
	w.Table.Swap("GET /health health")
	for _, n := range [][2]int{{0, 0}, {8, 1}, {-1, 1 << 40}} {
		got := do(t, w, w.Route(request("GET", "/health", ""), n[0], n[1]))
		want := []api.Field{field("x-id", fmt.Sprintf("%d-%d", n[0], n[1])), field("x-version", "2")}
		if got.Status != 200 || !slices.Equal(got.Fields, want) {
			t.Errorf("%v is answered %+v", n, got)
		}
	}
}

func TestHandedInStaysAsItIs(t *testing.T) {
	w := New("secret", table.First()...)
	token := field("token", "secret")
	for _, r := range []api.Request{
		request("PUT", "/kv/k", "v", ifMatch("")), request("PUT", "/kv/k", "w", ifMatch(tagOf("v"))), request("GET", "/kv/k", ""),
		request("GET", "/list/", ""), request("DELETE", "/kv/k", "", ifMatch("x")), request("DELETE", "/kv/k", ""), request("GET", "/walk/F", ""),
		request("GET", "/health", ""), request("POST", "/health", ""), request("GET", "/none", ""), request("GET", "*", ""),
		request("POST", "/admin/stop", "", token), request("POST", "/admin/stop", ""), request("POST", "/admin/routes", "", token),
	} {
		was := copied(chain.Call{Request: r}).Request
		c := w.Route(r, conn, seq)
		if !reflect.DeepEqual(r, was) {
			t.Errorf("Route made %+v of %+v", r, was)
		}
		call := copied(c)
		answer := do(t, w, c)
		if !reflect.DeepEqual(c, call) || !reflect.DeepEqual(r, was) {
			t.Errorf("Do made %+v of %+v", c, call)
		}
		clear(answer.Fields)
		if !reflect.DeepEqual(c, call) {
			t.Errorf("the answer of %+v shares its fields", call)
		}
	}
}

// copied: a call that shares nothing with this one.
func copied(c chain.Call) chain.Call {
	c.Fields = slices.Clone(c.Fields)
	c.Match.Params = slices.Clone(c.Match.Params)
	c.Match.Allow = slices.Clone(c.Match.Allow)
	return c
}

func TestAnswersShareNothing(t *testing.T) {
	w := firstWorld()
	answers(t, w, request("PUT", "/kv/k", "v"), marked(1, 201, ""))
	for _, r := range []api.Request{request("GET", "/kv/k", ""), request("GET", "/health", ""), request("POST", "/kv/k", "")} {
		a, b := ask(t, w, r), ask(t, w, r)
		want := slices.Clone(b.Fields)
		clear(a.Fields)
		if !slices.Equal(b.Fields, want) || !slices.Equal(ask(t, w, r).Fields, want) {
			t.Errorf("answers of %+v share their fields", r)
		}
	}
}

// What isn't locked is neither told nor changed, and nobody panics.
func TestWithoutLocks(t *testing.T) {
	w := firstWorld()
	answers(t, w, request("PUT", "/kv/k", "v"), marked(1, 201, ""))
	for _, owner := range []int{-1, 0, 1, owner, math.MinInt, math.MaxInt} {
		for _, r := range []api.Request{request("PUT", "/kv/k", "w"), request("GET", "/kv/k", ""), request("DELETE", "/kv/k", ""), request("GET", "/list/", "")} {
			got := w.Do(w.Route(r, conn, seq), owner)
			if got.Status < 400 || got.Body != words(got.Status) {
				t.Errorf("%d without locks: %+v is answered %+v", owner, r, got)
			}
		}
	}
	if got := held(w.Store); got != `"k"="v" ` {
		t.Errorf("held: %s", got)
	}
	// Of what needs nothing any owner is answered.
	for _, owner := range []int{-1, 0, math.MinInt} {
		if got := w.Do(w.Route(request("GET", "/walk/F", ""), conn, seq), owner); !same(got, marked(1, 200, "1 0 1 0")) {
			t.Errorf("owner %d is answered %+v", owner, got)
		}
	}
}

// Who gives up within a handler is taken back by the chain.
func TestHandlersThatGiveUp(t *testing.T) {
	w := firstWorld()
	w.Store, w.Table = nil, nil
	for _, handler := range []string{"get", "put", "delete", "list", "reload"} {
		if got := w.Do(called(handler, "k"), owner); !same(got, refused(5, 500)) {
			t.Errorf("%s without a store and a table is answered %+v", handler, got)
		}
	}
}

// Calls that Route would not make.
func TestOtherCalls(t *testing.T) {
	w := firstWorld()
	for _, handler := range append([]string{"", "none", "GET", "Get"}, table.Handlers[:]...) {
		for _, values := range [][]string{nil, {""}, {"k"}, {"k", "l"}, {strings.Repeat("F", 41)}} {
			c := called(handler, values...)
			was := copied(c)
			do(t, w, c)
			if !reflect.DeepEqual(c, was) {
				t.Errorf("%+v became %+v", was, c)
			}
			c.Found = false
			if got := do(t, w, c); !same(got, refused(5, 404)) {
				t.Errorf("%+v is answered %+v", c, got)
			}
		}
	}
	if got := w.Do(chain.Call{}, 0); got.Status != 501 {
		t.Errorf("no call is answered %+v", got)
	}
}

// A model is a world by another way of reckoning: values, a version, and which of two tables counts.
type model struct {
	values  map[string]string
	version int
	other   bool
	stop    bool
}

// The tables of the model: First's, and another one.
const otherTable = "POST /admin/routes reload\nPUT /kv/:key put\nDELETE /kv/:key/:more delete\nGET /kv/*rest list"

// handler: of a method and the words of a target: the handler and the first param, or the methods that are allowed.
func (m *model) handler(method string, words []string) (string, string, []string) {
	type way struct {
		method, head, handler string
		least, most           int
	}
	ways := []way{{"GET", "health", "health", 0, 0}, {"GET", "kv", "get", 1, 1}, {"PUT", "kv", "put", 1, 1}, {"DELETE", "kv", "delete", 1, 1}, {"GET", "list", "list", 1, 7}, {"GET", "walk", "walk", 1, 1}}
	if m.other {
		ways = []way{{"PUT", "kv", "put", 1, 1}, {"DELETE", "kv", "delete", 2, 2}, {"GET", "kv", "list", 1, 7}}
	} else if len(words) == 2 && words[0] == "admin" && words[1] == "stop" {
		ways = []way{{"POST", "admin", "shutdown", 1, 1}}
	}
	if len(words) == 2 && words[0] == "admin" && words[1] == "routes" {
		ways = []way{{"POST", "admin", "reload", 1, 1}}
	}
	var allow []string
	for _, y := range ways {
		if behind := len(words) - 1; y.head != words[0] || behind < y.least || behind > y.most {
			continue
		}
		if y.handler != "list" && slices.Contains(words, "") {
			continue
		}
		if y.method == method {
			param := strings.Join(words[1:min(len(words), 2)], "")
			if y.handler == "list" {
				param = strings.Join(words[1:], "/")
			}
			return y.handler, param, nil
		}
		allow = append(allow, y.method)
	}
	slices.Sort(allow)
	return "", "", allow
}

// answer: of a request whose target has no % and no ?, and begins with a /.
func (m *model) answer(r api.Request) api.Response {
	status, body, fields := m.reckon(r)
	if status >= 400 {
		body = words(status)
	}
	return marked(m.version, status, body, fields...)
}

func (m *model) reckon(r api.Request) (int, string, []api.Field) {
	if !slices.Contains([]string{"GET", "PUT", "POST", "DELETE"}, r.Method) {
		return 501, "", nil
	}
	if (r.Method == "GET" || r.Method == "DELETE") && len(r.Body) > 0 {
		return 400, "", nil
	}
	handler, param, allow := m.handler(r.Method, strings.Split(r.Target[1:], "/"))
	if handler == "" && allow == nil {
		return 404, "", nil
	}
	if handler == "" {
		return 405, "", []api.Field{field("allow", strings.Join(allow, ", "))}
	}
	return m.act(handler, param, r)
}

func (m *model) act(handler, param string, r api.Request) (int, string, []api.Field) {
	value, there := m.values[param]
	tag := ""
	if i := slices.IndexFunc(r.Fields, func(f api.Field) bool { return f.Name == "if-match" }); i >= 0 {
		tag = r.Fields[i].Value
	}
	wrongTag := tag != "" && (!there || tag != tagOf(value))
	ofKey := handler == "get" || handler == "put" || handler == "delete"
	switch {
	case ofKey && (param == "" || len(param) > 40):
		return 400, "", nil
	case (handler == "get" || handler == "delete") && !there:
		return 404, "", nil
	case handler == "get":
		return 200, value, []api.Field{etag(value)}
	case ofKey && wrongTag:
		return 412, "", nil
	case handler == "put" && there:
		m.values[param] = r.Body
		return 200, "", nil
	case handler == "put":
		m.values[param] = r.Body
		return 201, "", nil
	case handler == "delete":
		delete(m.values, param)
		return 200, "", nil
	case handler == "shutdown":
		m.stop = true
		return 200, "stopping", nil
	case handler == "reload":
		return m.reload(r.Body)
	case handler == "list":
		return 200, m.list(param), nil
	case handler == "walk":
		// The model's walks go straight on.
		return 200, fmt.Sprint(len(param), " 0 1 0"), nil
	}
	return 200, "fine", nil
}

func (m *model) list(prefix string) string {
	var l []string
	for key := range m.values {
		if strings.HasPrefix(key, prefix) {
			l = append(l, key)
		}
	}
	slices.Sort(l)
	return strings.Join(l, "\n")
}

func (m *model) reload(text string) (int, string, []api.Field) {
	switch text {
	case otherTable:
		m.other = true
	case table.Print(table.First()...):
		m.other = false
	case "GET /a get\nGET /a put":
		return 409, "", nil
	default:
		return 400, "", nil
	}
	m.version++
	return 200, fmt.Sprint(m.version), nil
}

// modelRequests: requests that the model can answer.
func modelRequests() []api.Request {
	return []api.Request{
		request("PUT", "/kv/a", "v"), request("PUT", "/kv/a", "w", ifMatch(tagOf("v"))), request("PUT", "/kv/ab", "", ifMatch("")),
		request("GET", "/kv/a", ""), request("GET", "/kv/ab", ""), request("DELETE", "/kv/a", ""), request("DELETE", "/kv/a/x", "", ifMatch(tagOf("w")), ifMatch("")),
		request("GET", "/list/a", ""), request("GET", "/list/", ""), request("GET", "/walk/FF", ""), request("POST", "/kv/a", "v"),
		request("POST", "/admin/routes", otherTable), request("POST", "/admin/routes", table.Print(table.First()...)), request("POST", "/admin/routes", "GET /a get\nGET /a put"),
		request("POST", "/admin/routes", "x"), request("POST", "/admin/stop", ""), request("HEAD", "/kv/a", ""), request("GET", "/kv/a", "v"), request("GET", "/health", ""),
	}
}

// against holds a world against the model, request by request.
func against(t *testing.T, l []api.Request) {
	t.Helper()
	w, m := firstWorld(), &model{values: map[string]string{}, version: 1}
	for i, r := range l {
		got := ask(t, w, r)
		// The marks tell the version by which it was routed.
		if want := m.before(r); !same(got, want) {
			t.Fatalf("behind %+v: %+v is answered %+v, want %+v", l[:i], r, got, want)
		}
		if w.Stop != m.stop || w.Table.Load().Version != m.version {
			t.Fatalf("behind %+v: Stop %v, version %d", l[:i+1], w.Stop, w.Table.Load().Version)
		}
	}
}

// before: an answer with the marks of the version by which the request was routed.
func (m *model) before(r api.Request) api.Response {
	version := m.version
	a := m.answer(r)
	a.Fields[1].Value = fmt.Sprint(version)
	return a
}

func TestAgainstAModel(t *testing.T) {
	l := modelRequests()
	for _, a := range l {
		for _, b := range l {
			for _, c := range l {
				against(t, []api.Request{a, b, c})
			}
		}
	}
	// Long lists, by numbers that seem to have no order.
	n := 1
	for range 60 {
		var long []api.Request
		for range 80 {
			n = n * 48271 % 2147483647
			long = append(long, l[n%len(l)])
		}
		against(t, long)
	}
}
