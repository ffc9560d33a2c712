package holder

import (
	"fmt"
	"slices"
	"strings"
	"testing"

	"crossroad/api"
	"crossroad/table"
	"crossroad/trie"
)

func route(method, pattern, handler string) api.Route {
	return api.Route{Method: method, Pattern: pattern, Handler: handler}
}

// routes: one of each three words.
func routes(words ...string) []api.Route {
	var l []api.Route
	for w := range slices.Chunk(words, 3) {
		l = append(l, route(w[0], w[1], w[2]))
	}
	return l
}

// many: that many routes, of shapes of their own.
func many(n int) []api.Route {
	var l []api.Route
	for i := range n {
		l = append(l, route("GET", fmt.Sprint("/a", i), "get"))
	}
	return l
}

// with: a new list of one behind another.
func with(l []api.Route, more ...api.Route) []api.Route { return slices.Concat(l, more) }

// A refused is a list of routes, and the error that it has.
type refused struct {
	routes []api.Route
	want   api.Errno
}

// refusedLists: routes that may not stand in one table.
func refusedLists() []refused {
	two := routes("GET", "/:a", "get", "GET", "/:b", "put")
	return []refused{
		{routes("", "", ""), api.ErrForm},
		{routes("G T", "/a", "get"), api.ErrForm},
		{routes("GET", "a", "get"), api.ErrForm},
		{routes("GET", "/a//b", "get"), api.ErrForm},
		{routes("GET", "/*a/b", "get"), api.ErrForm},
		{routes("GET", "/1/2/3/4/5/6/7/8/9", "get"), api.ErrForm},
		{routes("GET", "/a", "Get"), api.ErrForm},
		{routes("GET", "/a", "get", "GET", "/b", "nobody"), api.ErrForm},
		{routes("GET", "/a", "nobody", "GET", "/b", "get"), api.ErrForm},
		{with(many(24), route("GET", "/b", "nobody")), api.ErrForm},
		{with(two, route("GET", "/b", "nobody")), api.ErrForm},
		{many(25), api.ErrLong},
		{with(many(24), route("GET", "/a0", "put")), api.ErrLong},
		{many(100), api.ErrLong},
		{two, api.ErrClash},
		{routes("GET", "/a", "get", "GET", "/a", "get"), api.ErrClash},
		{routes("GET", "/", "get", "PUT", "/", "put", "GET", "/", "walk"), api.ErrClash},
		{routes("GET", "/a/*b", "get", "GET", "/a/*c", "get"), api.ErrClash},
		{with(many(23), route("GET", "/a22", "put")), api.ErrClash},
	}
}

// rightLists: routes that may stand in one table.
func rightLists() [][]api.Route {
	return [][]api.Route{
		nil,
		{},
		routes("GET", "/", "get"),
		routes("GET", "/x", "get"),
		routes("PUT", "/a/:b/*c", "put"),
		routes("GET", "/:a", "get", "PUT", "/:a", "put", "get", "/:b", "list"),
		routes("GET", "/b", "get", "GET", "/a", "put", "GET", "/:c", "walk", "GET", "/*c", "list"),
		table.First(),
		many(23),
		many(24),
	}
}

// refusedTexts: texts that are no table, and their errors.
func refusedTexts() map[string]api.Errno {
	l := map[string]api.Errno{
		"GET":                                    api.ErrForm,
		"GET /x":                                 api.ErrForm,
		"GET /x get get":                         api.ErrForm,
		"GET /x get\nGET /y":                     api.ErrForm,
		"GET /x\n/y get":                         api.ErrForm,
		"GET\t/x\tget":                           api.ErrForm,
		"GET /x get\r\n":                         api.ErrForm,
		"/x GET get":                             api.ErrForm,
		"GET x get":                              api.ErrForm,
		"GET /x GET":                             api.ErrForm,
		"\x00":                                   api.ErrForm,
		"\xff\xfe":                               api.ErrForm,
		"GET /:x get\nGET /:y get\n":             api.ErrClash,
		"GET /:x get\n\nGET /:x get":             api.ErrClash,
		"GET /:x get\nGET /:y get\nGET /:z no":   api.ErrForm,
		table.Print(many(25)...):                 api.ErrLong,
		table.Print(many(24)...) + "GET /b":      api.ErrForm,
		table.Print(many(24)...) + "GET /a0 get": api.ErrLong,
		table.Print(many(23)...) + "GET /a0 get": api.ErrClash,
	}
	for _, r := range refusedLists()[1:] { // the first one's text is blanks alone: a table
		l[table.Print(r.routes...)] = r.want
	}
	return l
}

// somePaths: what is asked of each table.
var somePaths = [][]string{
	nil, {""}, {"x"}, {"a"}, {"b"}, {"health"}, {"a0"}, {"a23"}, {"a24"},
	{"admin", "routes"}, {"admin", "stop"}, {"kv", "a"}, {"kv", ""}, {"walk", "FF"},
	{"list", "a"}, {"list", "a", "b"}, {"list", ""}, {"a", "b", "c"}, {"a", "", "c", "d"},
}

// someMethods: each of them asks each of the paths.
var someMethods = []string{"GET", "PUT", "POST", "DELETE", "get", ""}

// same: do two tries answer alike?
func same(x, y *trie.Trie) bool {
	for _, p := range somePaths {
		for _, m := range someMethods {
			a, aOk := x.Match(m, p)
			b, bOk := y.Match(m, p)
			if aOk != bOk || a.Handler != b.Handler || !slices.Equal(a.Params, b.Params) || !slices.Equal(a.Allow, b.Allow) {
				return false
			}
		}
	}
	return true
}

// is: is it that version, of these routes, and does it answer by them?
func is(t *testing.T, s Snap, version int, l ...api.Route) {
	t.Helper()
	if s.Version != version {
		t.Errorf("Version = %d, want %d", s.Version, version)
	}
	if !slices.Equal(s.Routes, l) {
		t.Errorf("Routes = %q, want %q", s.Routes, l)
	}
	if s.Len() != len(l) {
		t.Errorf("Len() = %d, want %d", s.Len(), len(l))
	}
	var none *trie.Trie
	if !same(s.Trie, none.With(l...)) {
		t.Errorf("it does not answer by %q", l)
	}
}

// swaps: does that text become the table, as that version, of these routes?
func swaps(t *testing.T, h *Holder, text string, version int, l ...api.Route) {
	t.Helper()
	if n, e := h.Swap(text); n != version || e != api.OK {
		t.Errorf("Swap(%q) = %d, %d, want %d", text, n, e, version)
	}
	is(t, h.Load(), version, l...)
}

// refuses: does it tell that error of a text, and stay as it is?
func refuses(t *testing.T, h *Holder, text string, want api.Errno) {
	t.Helper()
	was := h.Load()
	if n, e := h.Swap(text); n != 0 || e != want {
		t.Errorf("Swap(%q) = %d, %d, want 0, %d", text, n, e, want)
	}
	is(t, h.Load(), was.Version, was.Routes...)
}

// finds: does a route of that handler have a path, with these names and what they stand for?
func finds(t *testing.T, s Snap, method string, l []string, handler string, params ...api.Param) {
	t.Helper()
	if m, ok := s.Match(method, l); !ok || m.Handler != handler || !slices.Equal(m.Params, params) || len(m.Allow) > 0 {
		t.Errorf("Match(%q, %q) = %q, %v, want %q, %q", method, l, m, ok, handler, params)
	}
}

// misses: has no route of that method a path, but those of these methods?
func misses(t *testing.T, s Snap, method string, l []string, allow ...string) {
	t.Helper()
	if m, ok := s.Match(method, l); ok || m.Handler != "" || len(m.Params) > 0 || !slices.Equal(m.Allow, allow) {
		t.Errorf("Match(%q, %q) = %q, %v, want %q", method, l, m, ok, allow)
	}
}

func TestNew(t *testing.T) {
	for _, l := range rightLists() {
		is(t, New(l...).Load(), 1, l...)
	}
	is(t, New().Load(), 1)
}

func TestNewFirst(t *testing.T) {
	s := New(table.First()...).Load()
	finds(t, s, "GET", []string{"health"}, "health")
	finds(t, s, "PUT", []string{"kv", "a"}, "put", api.Param{Name: "key", Value: "a"})
	finds(t, s, "GET", []string{"list", "a", "b"}, "list", api.Param{Name: "prefix", Value: "a/b"})
	misses(t, s, "POST", []string{"kv", "a"}, "DELETE", "GET", "PUT")
	misses(t, s, "GET", []string{"kv"})
}

func TestNewOfWrongRoutes(t *testing.T) {
	for _, r := range refusedLists() {
		if e := table.Check(r.routes...); e != r.want {
			t.Errorf("Check(%q) = %d, want %d", r.routes, e, r.want)
		}
		h := New(r.routes...)
		is(t, h.Load(), 1)
		misses(t, h.Load(), "GET", []string{"a0"})
		swaps(t, h, "GET /x get", 2, route("GET", "/x", "get"))
	}
}

func TestNewLeavesWhatIsHandedIn(t *testing.T) {
	lists := rightLists()
	for _, r := range refusedLists() {
		lists = append(lists, r.routes)
	}
	for _, l := range lists {
		was := slices.Clone(l)
		h := New(l...)
		h.Load()
		h.Swap("GET /x get")
		if !slices.Equal(l, was) {
			t.Errorf("New(%q): now it is %q", was, l)
		}
	}
}

func TestNewKeepsNoList(t *testing.T) {
	for _, l := range rightLists() {
		was := slices.Clone(l)
		// Room behind the list, as a caller's may have it.
		l = append(make([]api.Route, 0, len(l)+4), l...)
		h := New(l...)
		for i := range l {
			l[i] = route("PUT", "/x", "put")
		}
		_ = append(l, route("PUT", "/y", "put"))
		is(t, h.Load(), 1, was...)
	}
}

func TestLoad(t *testing.T) {
	h := New(routes("GET", "/x", "get")...)
	for range 3 {
		is(t, h.Load(), 1, route("GET", "/x", "get"))
	}
	h.Swap("PUT /x put")
	h.Swap("PUT /a/:b walk\nGET /a/*b list")
	for range 3 {
		s := h.Load()
		is(t, s, 3, routes("PUT", "/a/:b", "walk", "GET", "/a/*b", "list")...)
		finds(t, s, "PUT", []string{"a", "1"}, "walk", api.Param{Name: "b", Value: "1"})
		finds(t, s, "GET", []string{"a", "1", "2"}, "list", api.Param{Name: "b", Value: "1/2"})
		misses(t, s, "POST", []string{"a", "1"}, "GET", "PUT")
		misses(t, s, "GET", []string{"x"})
	}
}

func TestSwap(t *testing.T) {
	h := New(table.First()...)
	swaps(t, h, "GET /x get\n", 2, route("GET", "/x", "get"))
	swaps(t, h, "  PUT   /x  put  ", 3, route("PUT", "/x", "put"))
	swaps(t, h, "\nGET /b get\n \nGET /a put", 4, routes("GET", "/b", "get", "GET", "/a", "put")...)
	swaps(t, h, "GET /b get\nGET /a put", 5, routes("GET", "/b", "get", "GET", "/a", "put")...)
	swaps(t, h, table.Print(many(24)...), 6, many(24)...)
	swaps(t, h, table.Print(table.First()...), 7, table.First()...)
}

func TestSwapOfEachTable(t *testing.T) {
	h := New()
	for i, l := range rightLists() {
		swaps(t, h, table.Print(l...), i+2, l...)
	}
}

func TestSwapOfNoRoutes(t *testing.T) {
	for _, text := range []string{"", " ", "\n", "   \n\n  \n", strings.Repeat(" \n", 1000)} {
		h := New(table.First()...)
		swaps(t, h, text, 2)
		misses(t, h.Load(), "GET", []string{"health"})
		swaps(t, h, text, 3)
		swaps(t, h, "GET /x get", 4, route("GET", "/x", "get"))
	}
}

func TestSwapOfNoTable(t *testing.T) {
	for text, want := range refusedTexts() {
		if _, e := table.Parse(text); e != want {
			t.Errorf("Parse(%q): %d, want %d", text, e, want)
		}
		for _, l := range rightLists() {
			h := New(l...)
			refuses(t, h, text, want)
			is(t, h.Load(), 1, l...)
			swaps(t, h, "GET /x get", 2, route("GET", "/x", "get"))
			refuses(t, h, text, want)
			refuses(t, h, text, want)
			is(t, h.Load(), 2, route("GET", "/x", "get"))
			swaps(t, h, "", 3)
		}
	}
}

func TestSwapOfEachByte(t *testing.T) {
	for i := range 256 {
		for _, text := range []string{string([]byte{byte(i)}), "GET /x get" + string([]byte{byte(i)}), string([]byte{byte(i)}) + "GET /x get"} {
			h := New(many(3)...)
			if l, e := table.Parse(text); e == api.OK {
				swaps(t, h, text, 2, l...)
			} else {
				refuses(t, h, text, e)
			}
		}
	}
}

// eachList: calls f with all lists of these, up to that length.
func eachList[T any](of []T, length int, f func([]T)) {
	var from func(l []T)
	from = func(l []T) {
		f(l)
		if len(l) < length {
			for _, x := range of {
				from(append(slices.Clone(l), x))
			}
		}
	}
	from(nil)
}

// someTexts: tables, and such as are none.
var someTexts = []string{
	"", "GET /x get", "PUT /x put\nGET /:a list", "GET /health health",
	"GET", "GET /:x get\nGET /:y get", "GET /x nobody",
}

// A past is what was handed out, and what it has to stay.
type past struct {
	snap    Snap
	version int
	routes  []api.Route
}

// All lists of some texts: versions rise by the tables alone, and whatever was handed out stays as it was.
func TestSwapsOneBehindTheOther(t *testing.T) {
	eachList(someTexts, 4, func(texts []string) {
		h := New(table.First()...)
		all := []past{{h.Load(), 1, table.First()}}
		for _, text := range texts {
			last := all[len(all)-1]
			l, e := table.Parse(text)
			if e == api.OK {
				last = past{version: last.version + 1, routes: l}
			}
			n, got := h.Swap(text)
			if got != e || e == api.OK && n != last.version || e != api.OK && n != 0 {
				t.Fatalf("%q: Swap(%q) = %d, %d", texts, text, n, got)
			}
			last.snap = h.Load()
			all = append(all, last)
		}
		for _, p := range all {
			is(t, p.snap, p.version, p.routes...)
		}
	})
}

func TestVersionsRiseOneByOne(t *testing.T) {
	h := New()
	for i := range 1000 {
		if n, e := h.Swap("GET /x get"); n != i+2 || e != api.OK {
			t.Fatalf("Swap = %d, %d, want %d", n, e, i+2)
		}
		if n, e := h.Swap("GET /x"); n != 0 || e != api.ErrForm {
			t.Fatalf("Swap = %d, %d, want 0, 1", n, e)
		}
	}
	is(t, h.Load(), 1001, route("GET", "/x", "get"))
}

func TestSnapStaysAsItIs(t *testing.T) {
	h := New(table.First()...)
	first := h.Load()
	h.Swap("GET /x get")
	second := h.Load()
	h.Swap("GET /x")
	h.Swap("")
	is(t, first, 1, table.First()...)
	finds(t, first, "GET", []string{"health"}, "health")
	misses(t, first, "GET", []string{"x"})
	is(t, second, 2, route("GET", "/x", "get"))
	finds(t, second, "GET", []string{"x"}, "get")
	misses(t, second, "GET", []string{"health"})
	is(t, h.Load(), 3)
}

// spoil: what a caller may do to a Snap of its own.
func spoil(s *Snap) {
	for i := range s.Routes {
		s.Routes[i] = route("PUT", "/spoilt", "put")
	}
	s.Routes = append(s.Routes, route("PUT", "/more", "put"))
	if s.Trie != nil {
		*s.Trie = *s.With(route("POST", "/*more", "put"))
	}
	s.Trie = nil
	s.Version = -1
}

func TestSnapsDoNotTouch(t *testing.T) {
	for _, l := range rightLists() {
		h := New(l...)
		one, two, elder := h.Load(), h.Load(), h.Load()
		spoil(&one)
		is(t, two, 1, l...)
		is(t, h.Load(), 1, l...)
		swaps(t, h, "GET /x get", 2, route("GET", "/x", "get"))
		one = h.Load()
		spoil(&elder)
		spoil(&one)
		is(t, two, 1, l...)
		is(t, h.Load(), 2, route("GET", "/x", "get"))
		swaps(t, h, "", 3)
	}
}

func TestSnapsHaveNoRoomTogether(t *testing.T) {
	for _, l := range rightLists() {
		h := New(l...)
		one, two := h.Load(), h.Load()
		a := append(one.Routes, route("PUT", "/one", "put"))
		b := append(two.Routes, route("PUT", "/two", "put"))
		if a[len(l)].Pattern != "/one" || b[len(l)].Pattern != "/two" {
			t.Errorf("%q, %q", a, b)
		}
		is(t, h.Load(), 1, l...)
	}
}

func TestSpoiltSnapDoesNotSwap(t *testing.T) {
	h := New(table.First()...)
	s := h.Load()
	spoil(&s)
	refuses(t, h, "GET /x", api.ErrForm)
	is(t, h.Load(), 1, table.First()...)
	swaps(t, h, "GET /x get", 2, route("GET", "/x", "get"))
}

func TestSnapWithMore(t *testing.T) {
	h := New(routes("GET", "/x", "get")...)
	s := h.Load()
	one := s.With(route("GET", "/y", "put"))
	two := s.With(route("GET", "/z", "walk"))
	if one.Len() != 2 || two.Len() != 2 {
		t.Errorf("Len() = %d, %d", one.Len(), two.Len())
	}
	is(t, s, 1, route("GET", "/x", "get"))
	is(t, h.Load(), 1, route("GET", "/x", "get"))
}

func TestMatchOfSnapIsNewMemory(t *testing.T) {
	h := New(table.First()...)
	s := h.Load()
	m, _ := s.Match("GET", []string{"kv", "a"})
	m.Params[0] = api.Param{Name: "x", Value: "y"}
	n, _ := s.Match("POST", []string{"kv", "a"})
	n.Allow[0] = "x"
	is(t, s, 1, table.First()...)
	is(t, h.Load(), 1, table.First()...)
}

func TestHoldersDoNotTouch(t *testing.T) {
	l := table.First()
	one, two := New(l...), New(l...)
	swaps(t, one, "GET /x get", 2, route("GET", "/x", "get"))
	is(t, two.Load(), 1, l...)
	s := one.Load()
	spoil(&s)
	swaps(t, two, "GET /y put", 2, route("GET", "/y", "put"))
	refuses(t, two, "GET /y", api.ErrForm)
	is(t, one.Load(), 2, route("GET", "/x", "get"))
	three := New(two.Load().Routes...)
	is(t, three.Load(), 1, route("GET", "/y", "put"))
}

func TestNewOfRoutesOfASnap(t *testing.T) {
	h := New(table.First()...)
	s := h.Load()
	k := New(s.Routes...)
	spoil(&s)
	is(t, k.Load(), 1, table.First()...)
}

func TestSwapOfOwnTable(t *testing.T) {
	h := New(table.First()...)
	for i := range 3 {
		swaps(t, h, table.Print(h.Load().Routes...), i+2, table.First()...)
	}
}
