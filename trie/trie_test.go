package trie

import (
	"fmt"
	"slices"
	"strings"
	"testing"

	"crossroad/api"
	"crossroad/path"
	"crossroad/table"
)

func list(l ...string) []string { return l }

func route(method, pattern, handler string) api.Route {
	return api.Route{Method: method, Pattern: pattern, Handler: handler}
}

// routes: one of each three words.
func routes(words ...string) []api.Route {
	var l []api.Route
	for w := range slices.Chunk(words, 3) {
		l = append(l, route(w[0], w[1], w[2]))
	}
	return l
}

// named: one param of each two words.
func named(words ...string) []api.Param {
	var l []api.Param
	for w := range slices.Chunk(words, 2) {
		l = append(l, api.Param{Name: w[0], Value: w[1]})
	}
	return l
}

// none is a trie without routes.
var none *Trie

// of: a trie of routes that may stand beside one another.
func of(t *testing.T, l ...api.Route) *Trie {
	t.Helper()
	if e := table.Check(l...); e != api.OK {
		t.Fatalf("Check(%q) = %d", l, e)
	}
	x := none.With(l...)
	if x.Len() != len(l) {
		t.Errorf("of %q: Len() = %d", l, x.Len())
	}
	return x
}

func same(a, b api.Match) bool {
	return a.Handler == b.Handler && slices.Equal(a.Params, b.Params) && slices.Equal(a.Allow, b.Allow)
}

// holds: does it answer that?
func holds(t *testing.T, x *Trie, method string, l []string, want api.Match, wantOk bool) {
	t.Helper()
	if got, ok := x.Match(method, l); ok != wantOk || !same(got, want) {
		t.Errorf("Match(%q, %q) = %q, %v, want %q, %v", method, l, got, ok, want, wantOk)
	}
}

// finds: does it find that handler, with these names and what they stand for?
func finds(t *testing.T, x *Trie, method string, l []string, handler string, words ...string) {
	t.Helper()
	holds(t, x, method, l, api.Match{Handler: handler, Params: named(words...)}, true)
}

// misses: does it find none, and tell these methods?
func misses(t *testing.T, x *Trie, method string, l []string, allow ...string) {
	t.Helper()
	holds(t, x, method, l, api.Match{Allow: allow}, false)
}

// eachList: calls f with all lists of these, up to that length.
func eachList[T any](of []T, length int, f func([]T)) {
	var from func(l []T)
	from = func(l []T) {
		f(l)
		if len(l) < length {
			for _, x := range of {
				from(append(slices.Clone(l), x))
			}
		}
	}
	from(nil)
}

// eachOrder: calls f with these in each order.
func eachOrder[T any](l []T, f func([]T)) {
	var from func(done, left []T)
	from = func(done, left []T) {
		if len(left) == 0 {
			f(done)
		}
		for i, x := range left {
			from(append(slices.Clone(done), x), slices.Delete(slices.Clone(left), i, i+1))
		}
	}
	from(nil, l)
}

// has: does a pattern have a path? By the words of the chapter, segment by segment.
func has(pattern string, l []string) bool {
	p, _ := path.Pattern(pattern)
	for i, s := range p {
		if i == len(l) {
			return false
		}
		switch s[0] {
		case '*':
			return true
		case ':':
			if l[i] == "" {
				return false
			}
		default:
			if s != l[i] {
				return false
			}
		}
	}
	return len(p) == len(l)
}

// stronger: is the first one of two that have a path the stronger one?
func stronger(one, two string) bool {
	a, _ := path.Pattern(one)
	b, _ := path.Pattern(two)
	for i := range min(len(a), len(b)) {
		if x, y := path.Kind(a[i]), path.Kind(b[i]); x != y {
			return x < y
		}
	}
	return false
}

// matchAsWell: what Match has to answer, by a list that is gone through.
func matchAsWell(routes []api.Route, method string, l []string) (api.Match, bool) {
	best := -1
	methods := map[string]int{}
	for i, r := range routes {
		if !has(r.Pattern, l) {
			continue
		}
		methods[r.Method]++
		if r.Method == method && (best < 0 || stronger(r.Pattern, routes[best].Pattern)) {
			best = i
		}
	}
	var m api.Match
	if best < 0 {
		for k := range methods {
			m.Allow = append(m.Allow, k)
		}
		slices.Sort(m.Allow)
		return m, false
	}
	m.Handler = routes[best].Handler
	p, _ := path.Pattern(routes[best].Pattern)
	for i, s := range p {
		if name, ok := strings.CutPrefix(s, ":"); ok {
			m.Params = append(m.Params, api.Param{Name: name, Value: l[i]})
		}
		if name, ok := strings.CutPrefix(s, "*"); ok {
			m.Params = append(m.Params, api.Param{Name: name, Value: strings.Join(l[i:], "/")})
		}
	}
	return m, true
}

// asList: does it answer as a list of these routes, at these paths, each by each method?
func asList(t *testing.T, x *Trie, l []api.Route, methods []string, paths [][]string) {
	t.Helper()
	if x.Len() != len(l) {
		t.Errorf("of %q: Len() = %d", l, x.Len())
	}
	for _, p := range paths {
		for _, m := range methods {
			want, wantOk := matchAsWell(l, m, p)
			if got, ok := x.Match(m, p); ok != wantOk || !same(got, want) {
				t.Fatalf("of %q: Match(%q, %q) = %q, %v, want %q, %v", l, m, p, got, ok, want, wantOk)
			}
		}
	}
}

// somePaths: all of these segments, up to that length.
func somePaths(length int, segments ...string) [][]string {
	var l [][]string
	eachList(segments, length, func(p []string) { l = append(l, p) })
	return l
}

func TestNoRoutes(t *testing.T) {
	empty := none.With()
	for _, x := range []*Trie{none, empty, empty.With(), none.With([]api.Route{}...)} {
		if x.Len() != 0 {
			t.Errorf("Len() = %d", x.Len())
		}
		for _, m := range list("GET", "", "*", "\xff") {
			for _, p := range somePaths(3, "a", "", "*", ":") {
				misses(t, x, m, p)
			}
		}
	}
	if empty == nil || empty.With() == nil {
		t.Error("With() = nil")
	}
	// It takes routes like any other.
	for _, x := range []*Trie{none, empty} {
		y := x.With(route("GET", "/a", "get"))
		finds(t, y, "GET", list("a"), "get")
		misses(t, x, "GET", list("a"))
		if x.Len() != 0 || y.Len() != 1 {
			t.Errorf("Len() = %d, %d", x.Len(), y.Len())
		}
	}
}

func TestSlashAlone(t *testing.T) {
	x := of(t, route("GET", "/", "get"))
	finds(t, x, "GET", nil, "get")
	finds(t, x, "GET", list(), "get")
	misses(t, x, "PUT", nil, "GET")
	for _, l := range [][]string{list(""), list("/"), list("a"), list("", ""), list("a", "b")} {
		misses(t, x, "GET", l)
	}
	// Others have no path without a segment.
	y := of(t, routes("GET", "/a", "get", "GET", "/:a", "put", "GET", "/*a", "list", "GET", "/:a/*b", "walk")...)
	misses(t, y, "GET", nil)
	misses(t, y, "PUT", nil)
	z := y.With(route("GET", "/", "health"))
	finds(t, z, "GET", nil, "health")
	finds(t, z, "GET", list(""), "list", "a", "")
	finds(t, z, "GET", list("a"), "get")
}

func TestWords(t *testing.T) {
	x := of(t, route("GET", "/a/bc/d", "get"))
	finds(t, x, "GET", list("a", "bc", "d"), "get")
	for _, l := range [][]string{
		nil, list("a"), list("a", "bc"), list("a", "bc", "d", "e"), list("a", "bc", "d", ""), list("", "a", "bc", "d"),
		list("A", "bc", "d"), list("a", "bC", "d"), list("a", "b", "d"), list("a", "bcd", "d"), list("a", "bc", ""), list("a", "", "d"),
		list("a", "bc", "d "), list("b", "bc", "d"), list("a", "bc", "x"), list("bc", "a", "d"), list("a/bc/d"), list("a", "bc/d"), list("a/bc", "d"),
		list("/a/bc/d"), list("/a", "bc", "d"), list("*", "bc", "d"), list(":", ":", ":"), list("a", "*a"), list("a\x00", "bc", "d"),
	} {
		misses(t, x, "GET", l)
	}
	for _, s := range list("a", "A", "0", "a*", "a*b", "!", ".", "..", "-", "~", "'", "a.b", strings.Repeat("a", 5000)) {
		x := of(t, route("GET", "/"+s, "get"))
		finds(t, x, "GET", list(s), "get")
		misses(t, x, "GET", list(s+"a"))
		misses(t, x, "GET", list(s[1:]))
	}
}

func TestParam(t *testing.T) {
	x := of(t, route("GET", "/:key", "get"))
	for _, s := range list("a", "abc", " ", "/", "a/b", "//", "%", "%41", "?", ":", ":key", ":a", "*", "*a", "key", "\x00", "\xff", "\u00e4", ".", strings.Repeat("a", 5000)) {
		finds(t, x, "GET", list(s), "get", "key", s)
		misses(t, x, "PUT", list(s), "GET")
	}
	for _, l := range [][]string{nil, list(""), list("", ""), list("a", ""), list("", "a"), list("a", "b")} {
		misses(t, x, "GET", l)
		misses(t, x, "PUT", l)
	}
	y := of(t, route("GET", "/a/:b/c/:d", "get"))
	finds(t, y, "GET", list("a", "1", "c", "2"), "get", "b", "1", "d", "2")
	finds(t, y, "GET", list("a", "c", "c", "a"), "get", "b", "c", "d", "a")
	for _, l := range [][]string{list("a", "", "c", "2"), list("a", "1", "c", ""), list("a", "1", "c"), list("a", "1", "c", "2", "3"), list("a", "1", "2", "3"), list("1", "a", "2", "c")} {
		misses(t, y, "GET", l)
	}
}

func TestRest(t *testing.T) {
	x := of(t, route("GET", "/*all", "list"))
	for _, l := range [][]string{
		list("a"), list("a", "b"), list("a", "b", "c"), list(""), list("", ""), list("", "a"), list("a", ""), list("a", "", "b"), list("", "", ""),
		list(":"), list("*"), list("*all"), list("a/b", "c"), list("/"), list("/", "/"), list("all"),
		list("1", "2", "3", "4", "5", "6", "7", "8"), list("1", "2", "3", "4", "5", "6", "7", "8", "9"), slices.Repeat(list("a"), 5000),
	} {
		finds(t, x, "GET", l, "list", "all", strings.Join(l, "/"))
		misses(t, x, "PUT", l, "GET")
	}
	misses(t, x, "GET", nil)
	misses(t, x, "PUT", nil)

	y := of(t, route("GET", "/a/*b", "list"))
	finds(t, y, "GET", list("a", "x"), "list", "b", "x")
	finds(t, y, "GET", list("a", "a", "a"), "list", "b", "a/a")
	finds(t, y, "GET", list("a", ""), "list", "b", "")
	finds(t, y, "GET", list("a", "", "x"), "list", "b", "/x")
	finds(t, y, "GET", list("a", "x", ""), "list", "b", "x/")
	finds(t, y, "GET", list("a", "", ""), "list", "b", "/")
	finds(t, y, "GET", list("a", "x", "", "y"), "list", "b", "x//y")
	finds(t, y, "GET", list("a", "x/y", "z"), "list", "b", "x/y/z")
	for _, l := range [][]string{nil, list("a"), list("b", "a"), list("", "a"), list("b", "x"), list("a/x")} {
		misses(t, y, "GET", l)
	}
	z := of(t, route("GET", "/1/2/3/4/5/6/7/*8", "list"))
	finds(t, z, "GET", list("1", "2", "3", "4", "5", "6", "7", "8", "9", "10"), "list", "8", "8/9/10")
	misses(t, z, "GET", list("1", "2", "3", "4", "5", "6", "7"))
}

// TestParams: names in their order, which is neither that of their signs nor that of their values.
func TestParams(t *testing.T) {
	x := of(t, routes("GET", "/:z/:y/:x", "get", "GET", "/k/:b/l/:a/*c", "list", "GET", "/:q/m/*p", "walk", "PUT", "/:*/**a", "put")...)
	finds(t, x, "GET", list("1", "2", "3"), "get", "z", "1", "y", "2", "x", "3")
	finds(t, x, "GET", list("3", "2", "1"), "get", "z", "3", "y", "2", "x", "1")
	finds(t, x, "GET", list("a", "a", "a"), "get", "z", "a", "y", "a", "x", "a")
	finds(t, x, "GET", list("k", "9", "l", "8", "7", "6"), "list", "b", "9", "a", "8", "c", "7/6")
	finds(t, x, "GET", list("1", "m", "", "2", ""), "walk", "q", "1", "p", "/2/")
	finds(t, x, "PUT", list("1", "2", "3"), "put", "*", "1", "*a", "2/3")
	eight := of(t, routes("GET", "/:8/:7/:6/:5/:4/:3/:2/:1", "get", "PUT", "/:8/:7/:6/:5/:4/:3/:2/*1", "put")...)
	l := list("a", "b", "c", "d", "e", "f", "g", "h")
	words := list("8", "a", "7", "b", "6", "c", "5", "d", "4", "e", "3", "f", "2", "g", "1", "h")
	finds(t, eight, "GET", l, "get", words...)
	finds(t, eight, "PUT", l, "put", words...)
	words[15] = "h/i"
	finds(t, eight, "PUT", append(l, "i"), "put", words...)
	misses(t, eight, "GET", append(l, "i"), "PUT")
}

// TestNamesOfOnePlace: each route has its own ones, where others have other ones.
func TestNamesOfOnePlace(t *testing.T) {
	x := of(t, routes(
		"GET", "/:a", "get", "PUT", "/:b", "put", "GET", "/:c/x", "walk", "GET", "/:d/y", "list", "PUT", "/:e/x", "reload",
		"GET", "/:f/*g", "health", "PUT", "/:g/*f", "shutdown", "POST", "/*a", "delete", "DELETE", "/*b", "get",
	)...)
	finds(t, x, "GET", list("1"), "get", "a", "1")
	finds(t, x, "PUT", list("1"), "put", "b", "1")
	finds(t, x, "GET", list("1", "x"), "walk", "c", "1")
	finds(t, x, "GET", list("1", "y"), "list", "d", "1")
	finds(t, x, "PUT", list("1", "x"), "reload", "e", "1")
	finds(t, x, "GET", list("1", "z"), "health", "f", "1", "g", "z")
	finds(t, x, "PUT", list("1", "y"), "shutdown", "g", "1", "f", "y")
	finds(t, x, "POST", list("1", "x"), "delete", "a", "1/x")
	finds(t, x, "DELETE", list("1", "x"), "get", "b", "1/x")
}

// TestStronger: of two that have the path, in either order, the first one is found.
func TestStronger(t *testing.T) {
	for _, c := range []struct {
		one, two string
		l        []string
		words    []string
	}{
		// Parted at their first segment.
		{"/a", "/:x", list("a"), nil},
		{"/a", "/*x", list("a"), nil},
		{"/:x", "/*y", list("a"), list("x", "a")},
		{"/a/:x", "/:y/b", list("a", "b"), list("x", "b")},
		{"/a/*x", "/:y/b", list("a", "b"), list("x", "b")},
		{"/a/*x", "/:y/:z", list("a", "b"), list("x", "b")},
		{"/a/:x/:y/:z", "/:x/b/c/d", list("a", "b", "c", "d"), list("x", "b", "y", "c", "z", "d")},
		{"/a/*x", "/:x/b/c/d", list("a", "b", "c", "d"), list("x", "b/c/d")},
		{"/:x/*y", "/*z", list("a", "b"), list("x", "a", "y", "b")},
		{"/a/*x", "/*y", list("a", "b", "c"), list("x", "b/c")},
		{"/:x/:y/:z", "/*y", list("a", "b", "c"), list("x", "a", "y", "b", "z", "c")},
		// At a middle one.
		{"/a/b/:x", "/a/:y/c", list("a", "b", "c"), list("x", "c")},
		{"/a/b/*x", "/a/:y/c", list("a", "b", "c"), list("x", "c")},
		{"/a/b/c/d", "/a/:x/c/d", list("a", "b", "c", "d"), nil},
		{"/:x/b/:y", "/:x/:y/c", list("a", "b", "c"), list("x", "a", "y", "c")},
		{"/:x/b/:y", "/:x/*y", list("a", "b", "c"), list("x", "a", "y", "c")},
		{"/a/:x/:y", "/a/*x", list("a", "b", "c"), list("x", "b", "y", "c")},
		{"/a/:x/*y", "/a/*x", list("a", "b", "c", "d"), list("x", "b", "y", "c/d")},
		{"/a/b/:x/:y/e", "/a/b/:x/*y", list("a", "b", "c", "d", "e"), list("x", "c", "y", "d")},
		// At their last one.
		{"/a/b", "/a/:x", list("a", "b"), nil},
		{"/a/b", "/a/*x", list("a", "b"), nil},
		{"/a/:x", "/a/*y", list("a", "b"), list("x", "b")},
		{"/:x/b", "/:y/:x", list("a", "b"), list("x", "a")},
		{"/:x/:y", "/:y/*x", list("a", "b"), list("x", "a", "y", "b")},
		{"/a/:x/c", "/a/:y/:x", list("a", "b", "c"), list("x", "b")},
		{"/a/:x/:y", "/a/:y/*x", list("a", "b", "c"), list("x", "b", "y", "c")},
		{"/1/2/3/4/5/6/7/8", "/1/2/3/4/5/6/7/:x", list("1", "2", "3", "4", "5", "6", "7", "8"), nil},
		{"/1/2/3/4/5/6/7/:x", "/1/2/3/4/5/6/7/*y", list("1", "2", "3", "4", "5", "6", "7", "8"), list("x", "8")},
		{"/:1/:2/:3/:4/:5/:6/:7/8", "/:1/:2/:3/:4/:5/:6/:7/:8", list("a", "a", "a", "a", "a", "a", "a", "8"), list("1", "a", "2", "a", "3", "a", "4", "a", "5", "a", "6", "a", "7", "a")},
		// Only the first place counts.
		{"/a/:x/:y", "/:x/b/c", list("a", "b", "c"), list("x", "b", "y", "c")},
		{"/:x/b/:y/:z", "/:x/:y/c/d", list("a", "b", "c", "d"), list("x", "a", "y", "c", "z", "d")},
	} {
		one, two := route("GET", c.one, "get"), route("GET", c.two, "put")
		if !has(c.one, c.l) || !has(c.two, c.l) {
			t.Fatalf("%q, %q: not both have %q", c.one, c.two, c.l)
		}
		for _, x := range []*Trie{of(t, one, two), of(t, two, one), of(t, one).With(two), of(t, two).With(one)} {
			finds(t, x, "GET", c.l, "get", c.words...)
			// The methods are told each once.
			misses(t, x, "PUT", c.l, "GET")
			misses(t, x, "", c.l, "GET")
		}
		// A stronger one of another method takes nothing from it.
		x := of(t, route("PUT", c.one, "put"), route("GET", c.two, "list"))
		want, _ := matchAsWell([]api.Route{route("GET", c.two, "list")}, "GET", c.l)
		holds(t, x, "GET", c.l, want, true)
		finds(t, x, "PUT", c.l, "put", c.words...)
		misses(t, x, "DELETE", c.l, "GET", "PUT")
	}
}

// TestWayBack: a stronger beginning that has no end leads back to the weaker one.
func TestWayBack(t *testing.T) {
	x := of(t, routes(
		"GET", "/a/b/c/d", "get", "GET", "/a/b/:x/e", "put", "GET", "/a/:x/c/f", "delete", "GET", "/:x/b/c/g", "walk", "GET", "/:x/:y/*z", "list", "GET", "/*all", "health",
	)...)
	finds(t, x, "GET", list("a", "b", "c", "d"), "get")
	finds(t, x, "GET", list("a", "b", "c", "e"), "put", "x", "c")
	finds(t, x, "GET", list("a", "b", "c", "f"), "delete", "x", "b")
	finds(t, x, "GET", list("a", "b", "c", "g"), "walk", "x", "a")
	finds(t, x, "GET", list("a", "b", "c", "h"), "list", "x", "a", "y", "b", "z", "c/h")
	finds(t, x, "GET", list("a", "b", "c"), "list", "x", "a", "y", "b", "z", "c")
	finds(t, x, "GET", list("a", "b"), "health", "all", "a/b")
	finds(t, x, "GET", list("a"), "health", "all", "a")
	finds(t, x, "GET", list("", "b", "c", "g"), "health", "all", "/b/c/g")
	finds(t, x, "GET", list("a", "", "c", "f"), "health", "all", "a//c/f")
	finds(t, x, "GET", list("a", "b", "", "e"), "list", "x", "a", "y", "b", "z", "/e")
	finds(t, x, "GET", list("a", "b", "c", "d", "e"), "list", "x", "a", "y", "b", "z", "c/d/e")
	misses(t, x, "GET", nil)
}

func TestMethods(t *testing.T) {
	x := of(t, routes(
		"PUT", "/a", "put", "GET", "/a", "get", "DELETE", "/a", "delete", "get", "/a", "list", "GETS", "/a", "walk", "G", "/a", "health",
		"POST", "/:x", "reload", "GET", "/:x", "shutdown", "PUT", "/*y", "list", "M-1", "/b", "get", "GET", "/b", "put",
	)...)
	finds(t, x, "PUT", list("a"), "put")
	finds(t, x, "GET", list("a"), "get")
	finds(t, x, "DELETE", list("a"), "delete")
	finds(t, x, "get", list("a"), "list")
	finds(t, x, "GETS", list("a"), "walk")
	finds(t, x, "G", list("a"), "health")
	finds(t, x, "POST", list("a"), "reload", "x", "a")
	misses(t, x, "M-1", list("a"), "DELETE", "G", "GET", "GETS", "POST", "PUT", "get")
	for _, m := range list("", "Get", "GE", " GET", "GET ", "GET, PUT", "*", "HEAD", "\xff") {
		misses(t, x, m, list("a"), "DELETE", "G", "GET", "GETS", "POST", "PUT", "get")
		misses(t, x, m, list("b"), "GET", "M-1", "POST", "PUT")
		misses(t, x, m, list("c"), "GET", "POST", "PUT")
		misses(t, x, m, list(""), "PUT")
		misses(t, x, m, list("a", "b"), "PUT")
		misses(t, x, m, nil)
	}
	misses(t, x, "GET", list("a", "b"), "PUT")
	misses(t, x, "GET", nil)
}

// TestMethodsRise: byte by byte, whatever the order in which they came and the routes that have them.
func TestMethodsRise(t *testing.T) {
	rising := list("!", "A", "AA", "B", "a", "~")
	eachOrder(rising, func(l []string) {
		x, y := none, none
		for i, m := range l {
			x = x.With(route(m, "/a/b", "get"))
			y = y.With(route(m, list("/a/b", "/a/:x", "/:x/b", "/:x/:y", "/a/*x", "/*x")[i], "get"))
		}
		misses(t, x, "GET", list("a", "b"), rising...)
		misses(t, y, "GET", list("a", "b"), rising...)
	})
	// Each once, in how many places it may be.
	var all []api.Route
	for _, p := range list("/a/b", "/a/:x", "/:x/b", "/:x/:y", "/a/*x", "/*x", "/:x/*y", "/c/d") {
		all = append(all, route("PUT", p, "put"), route("GET", p, "get"), route("DELETE", p, "delete"))
	}
	x := of(t, all...)
	misses(t, x, "POST", list("a", "b"), "DELETE", "GET", "PUT")
	misses(t, x, "POST", list("", ""), "DELETE", "GET", "PUT")
	misses(t, x, "POST", nil)
}

func TestAllow(t *testing.T) {
	for want, l := range map[string][]string{
		"":                 nil,
		"GET":              list("GET"),
		"GET, PUT":         list("GET", "PUT"),
		"PUT, GET":         list("PUT", "GET"),
		"DELETE, GET, PUT": list("DELETE", "GET", "PUT"),
		"GET, GET":         list("GET", "GET"),
		", ":               list("", ""),
		", a, ":            list("", "a", ""),
		"a,b, c d":         list("a,b", "c d"),
		"\xff, %s":         list("\xff", "%s"),
	} {
		if got := Allow(l); got != want {
			t.Errorf("Allow(%q) = %q, want %q", l, got, want)
		}
	}
	if got := Allow(list()); got != "" {
		t.Errorf("Allow of none = %q", got)
	}
	if got := Allow(list("")); got != "" {
		t.Errorf("Allow of an empty one = %q", got)
	}
	x := of(t, table.First()...)
	m, _ := x.Match("POST", list("kv", "a"))
	if got := Allow(m.Allow); got != "DELETE, GET, PUT" {
		t.Errorf("Allow(%q) = %q", m.Allow, got)
	}
}

// TestWordsThatBeginOneAnother: in each order, at once and one by one.
func TestWordsThatBeginOneAnother(t *testing.T) {
	words := list("a", "ab", "abc", "abd", "b", "bab")
	paths := somePaths(1, append(words, "", "ac", "abcd", "ba", "abcabd", "c")...)
	for _, p := range somePaths(2, "a", "ab", "abc") {
		if len(p) == 2 {
			paths = append(paths, p)
		}
	}
	eachOrder(words, func(l []string) {
		var all []api.Route
		x := none
		for _, s := range l {
			r := route("GET", "/"+s, table.Handlers[slices.Index(words, s)])
			x = x.With(r)
			all = append(all, r)
		}
		asList(t, x, all, list("GET", "PUT"), paths)
		asList(t, of(t, all...), all, list("GET"), paths)
	})
	x := of(t, routes("GET", "/a/b", "get", "GET", "/a", "put", "GET", "/ab", "list", "GET", "/a/bc", "walk", "GET", "/ab/c", "health", "GET", "/a/b/c", "reload")...)
	finds(t, x, "GET", list("a"), "put")
	finds(t, x, "GET", list("a", "b"), "get")
	finds(t, x, "GET", list("ab"), "list")
	finds(t, x, "GET", list("a", "bc"), "walk")
	finds(t, x, "GET", list("ab", "c"), "health")
	finds(t, x, "GET", list("a", "b", "c"), "reload")
	misses(t, x, "GET", list("abc"))
	misses(t, x, "GET", list("a", "b", "c", ""))
}

// many: that many routes, alike in nothing, in their methods alone, or in all but their last segment.
func many(n int) [][]api.Route {
	var words, methods, deep []api.Route
	for i := range n {
		h := table.Handlers[i%8]
		words = append(words, route("GET", fmt.Sprint("/a", i), h))
		methods = append(methods, route(fmt.Sprint("M", i), "/a/:b/*c", h))
		deep = append(deep, route("GET", fmt.Sprint("/1/:2/3/:4/5/:6/7/a", i), h))
	}
	return [][]api.Route{words, methods, deep}
}

// own: a path that stands for a pattern: its own segments.
func own(r api.Route) []string {
	l, _ := path.Pattern(r.Pattern)
	return l
}

// TestAsManyAsMayBe: each route is found by its own pattern's segments, with its own names.
func TestAsManyAsMayBe(t *testing.T) {
	tables := append(many(api.MaxRoutes), table.First())
	for n := range 6 {
		tables = append(tables, many(n)...)
	}
	for _, l := range tables {
		x := of(t, l...)
		for _, r := range l {
			var words []string
			for _, s := range own(r) {
				if path.Kind(s) != path.Word {
					words = append(words, s[1:], s)
				}
			}
			finds(t, x, r.Method, own(r), r.Handler, words...)
		}
	}
	l := many(api.MaxRoutes)[1]
	misses(t, of(t, l...), "M24", list("a", "b", "c"),
		"M0", "M1", "M10", "M11", "M12", "M13", "M14", "M15", "M16", "M17", "M18", "M19", "M2", "M20", "M21", "M22", "M23", "M3", "M4", "M5", "M6", "M7", "M8", "M9")
}

func TestLen(t *testing.T) {
	x := none
	for i, r := range many(api.MaxRoutes)[0] {
		if x.Len() != i {
			t.Errorf("Len() = %d, want %d", x.Len(), i)
		}
		x = x.With().With(r).With()
	}
	if x.Len() != 24 {
		t.Errorf("Len() = %d", x.Len())
	}
	if got := of(t, table.First()...).With(routes("GET", "/", "get", "PUT", "/", "put", "GET", "/*a", "list")...).Len(); got != 11 {
		t.Errorf("Len() = %d", got)
	}
}

func TestWithNone(t *testing.T) {
	l := table.First()
	x := of(t, l...)
	y := x.With()
	if x == y {
		t.Error("With() is not another one")
	}
	paths := somePaths(2, "", "kv", "health", "list", "a")
	for _, z := range []*Trie{x, y, y.With([]api.Route{}...)} {
		asList(t, z, l, list("GET", "PUT", "POST", "HEAD"), paths)
	}
}

// TestOrders: one by one, at once, in two parts, and in each order, the answers are the same.
func TestOrders(t *testing.T) {
	paths := somePaths(3, "a", "b", "")
	all := routes("GET", "/a", "get", "GET", "/:x", "put", "PUT", "/a", "delete", "GET", "/a/*y", "list", "GET", "/:z/b", "walk", "GET", "/", "health")
	eachOrder(all, func(l []api.Route) {
		one := none
		for _, r := range l {
			one = one.With(r)
		}
		for _, x := range []*Trie{one, of(t, l...), none.With(l[:3]...).With(l[3:]...)} {
			asList(t, x, all, list("GET", "PUT", "POST"), paths)
		}
	})
}

// TestElderStay: behind each With, those that were ahead of it answer as they did.
func TestElderStay(t *testing.T) {
	paths := append(somePaths(2, "", "a0", "a1", "a22", "a23", "b"), list("a", "b", "c"), list("a", "b"), list("1", "2", "3", "4", "5", "6", "7", "a0"), list("1", "2", "3", "4", "5", "6", "7", "a23"))
	methods := list("GET", "M0", "M7", "M23", "POST")
	for _, l := range append(many(api.MaxRoutes), mixed()) {
		elder := []*Trie{none}
		for _, r := range l {
			elder = append(elder, elder[len(elder)-1].With(r))
		}
		for n, x := range elder {
			asList(t, x, l[:n], methods, paths)
		}
	}
}

// mixed: routes that share beginnings, of each kind.
func mixed() []api.Route {
	return routes(
		"GET", "/b", "get", "PUT", "/b", "put", "GET", "/b/:x", "delete", "GET", "/b/*y", "list", "GET", "/:z", "walk", "PUT", "/:z", "health",
		"GET", "/:w/b", "reload", "GET", "/*v", "shutdown", "PUT", "/*v", "get", "GET", "/", "put", "DELETE", "/b/:x", "delete", "GET", "/a0", "list",
		"GET", "/a1", "walk", "GET", "/b/a0", "health", "GET", "/b/a1", "reload", "GET", "/a0/b", "shutdown", "PUT", "/a0/b", "get", "GET", "/:u/:t", "put",
	)
}

// TestTwoOfOne: two that came of one do not touch one another, nor that, at each number of routes that it may have.
func TestTwoOfOne(t *testing.T) {
	paths := append(somePaths(2, "a0", "a5", "p", "q", "b"), list("a", "b", "c"), list("a", "b"), list("1", "2", "3", "4", "5", "6", "7", "a0"), list("1", "2", "3", "4", "5", "6", "7", "p"), list("1", "2", "3", "4", "5", "6", "7", "q"))
	methods := list("GET", "M0", "M5", "P", "Q")
	pairs := [][]api.Route{
		routes("GET", "/p", "walk", "GET", "/q", "health"),
		routes("P", "/a/:x/*y", "walk", "Q", "/a/:z/*w", "health"),
		routes("GET", "/1/:2/3/:4/5/:6/7/p", "walk", "GET", "/1/:2/3/:4/5/:6/7/q", "health"),
		routes("P", "/a0", "walk", "Q", "/a0", "health"),
		routes("P", "/a0/p", "walk", "P", "/a0/q", "health"),
		routes("P", "/:x", "walk", "P", "/*x", "health"),
		routes("P", "/:x/b", "walk", "Q", "/:x/b", "health"),
		routes("P", "/", "walk", "P", "/a/:x/*y", "health"),
	}
	tables := [][]api.Route{mixed()}
	for n := range api.MaxRoutes - 1 {
		tables = append(tables, many(n)...)
	}
	for _, l := range tables {
		x := none
		for _, r := range l {
			x = x.With(r)
		}
		for _, p := range pairs {
			one, two := x.With(p[0]), x.With(p[1])
			both, back := one.With(p[1]), two.With(p[0])
			asList(t, x, l, methods, paths)
			asList(t, one, slices.Concat(l, p[:1]), methods, paths)
			asList(t, two, slices.Concat(l, p[1:]), methods, paths)
			asList(t, both, slices.Concat(l, p), methods, paths)
			asList(t, back, slices.Concat(l, p), methods, paths)
		}
	}
}

// TestArgumentsStay: what was handed in is not changed, not even behind its end, and not kept.
func TestArgumentsStay(t *testing.T) {
	given := append(mixed(), routes("GET", "/x", "get", "GET", "/y", "put")...)
	before := slices.Clone(given)
	n := len(given) - 2
	x := none.With(given[:n]...)
	x.With(given[n])
	if !slices.Equal(given, before) {
		t.Errorf("With changed %q", given)
	}
	for i := range given {
		given[i] = route("PUT", "/x", "shutdown")
	}
	asList(t, x, before[:n], list("GET", "PUT", "DELETE"), somePaths(3, "b", "a0", "x", ""))

	l := list("b", "c", "d", "e")
	got, _ := x.Match("GET", l[:3])
	misses(t, x, "POST", l[:3], "GET", "PUT")
	if !slices.Equal(l, list("b", "c", "d", "e")) {
		t.Errorf("Match changed %q", l)
	}
	clear(l)
	if want := (api.Match{Handler: "list", Params: named("y", "c/d")}); !same(got, want) {
		t.Errorf("Match(GET, b c d) = %q", got)
	}
	methods := list("PUT", "GET", "GET", "DELETE")
	Allow(methods[:3])
	if !slices.Equal(methods, list("PUT", "GET", "GET", "DELETE")) {
		t.Errorf("Allow changed %q", methods)
	}
}

// TestAnswersAreNew: who changes what Match answered changes no other answer, neither an elder one nor a later one.
func TestAnswersAreNew(t *testing.T) {
	x := of(t, routes("GET", "/:a/:b/*c", "get", "PUT", "/:a/:b/*c", "put", "DELETE", "/:a/:b/*c", "delete")...)
	l := list("1", "2", "3", "4")
	found := api.Match{Handler: "get", Params: named("a", "1", "b", "2", "c", "3/4")}
	missed := api.Match{Allow: list("DELETE", "GET", "PUT")}
	elderFound, _ := x.Match("GET", l)
	elderMissed, _ := x.Match("POST", l)
	for range 3 {
		m, _ := x.Match("GET", l)
		clear(m.Params)
		_ = append(m.Params[:1], named("x", "y", "z", "w", "v", "u")...)
		_ = append(m.Params, named("x", "y")...)
		m, _ = x.Match("POST", l)
		slices.Reverse(m.Allow)
		_ = append(m.Allow[:1], "x", "y", "z")
		clear(m.Allow)
		holds(t, x, "GET", l, found, true)
		holds(t, x, "POST", l, missed, false)
		finds(t, x, "PUT", l, "put", "a", "1", "b", "2", "c", "3/4")
		y := x.With(route("POST", "/:a/:b/*c", "list"))
		holds(t, y, "GET", l, found, true)
		misses(t, y, "HEAD", l, "DELETE", "GET", "POST", "PUT")
	}
	if !same(elderFound, found) || !same(elderMissed, missed) {
		t.Errorf("%q, %q", elderFound, elderMissed)
	}
}

// somePatterns: all of a few segments, up to that length; the names are told by their places, and by a sign ahead.
func somePatterns(length int, sign string) []string {
	var l []string
	eachList(list("a", "b", ":", "*"), length, func(kinds []string) {
		s := ""
		for i, k := range kinds {
			s += "/" + k
			if k == ":" || k == "*" {
				s += sign + fmt.Sprint(i)
			}
		}
		if s == "" {
			s = "/"
		}
		if _, ok := path.Pattern(s); ok {
			l = append(l, s)
		}
	})
	return l
}

// TestOfAllShortPairs: each two short patterns, of one method and of two.
func TestOfAllShortPairs(t *testing.T) {
	paths := somePaths(4, "a", "b", "")
	paths = append(paths, somePaths(3, "c", ":", "*")...)
	for _, p := range somePatterns(3, "x") {
		for _, q := range somePatterns(3, "y") {
			for _, m := range list("GET", "PUT") {
				l := []api.Route{route("GET", p, "get"), route(m, q, "put")}
				if table.Check(l...) == api.OK {
					asList(t, none.With(l...), l, list("GET", "PUT"), paths)
				}
			}
		}
	}
}

// dice: a row of numbers that is always the same one.
type dice uint32

func (d *dice) below(n int) int {
	*d = *d*1664525 + 1013904223
	return int(*d>>8) % n
}

// thrown: that many routes at most, which may stand beside one another.
func thrown(d *dice, n int) []api.Route {
	var l []api.Route
	for i := range n {
		s := ""
		depth := d.below(5)
		for j := range depth {
			w := list("a", "b", "ab", "a", "b", ":", ":", "*")[d.below(8)]
			if w == "*" && j < depth-1 {
				w = ":"
			}
			if w == ":" || w == "*" {
				w += fmt.Sprint("n", i, ".", (j*3)%4)
			}
			s += "/" + w
		}
		if s == "" {
			s = "/"
		}
		r := route(list("GET", "PUT", "POST", "get")[d.below(4)], s, table.Handlers[d.below(8)])
		if more := append(l, r); table.Check(more...) == api.OK {
			l = more
		}
	}
	return l
}

// TestAgainstList: at many tables of all sizes, and all short paths, it answers as a list that is gone through.
func TestAgainstList(t *testing.T) {
	d := dice(8)
	paths := append(somePaths(3, "a", "b", "ab", ""), somePaths(5, "a", "b")...)
	paths = append(paths, somePaths(2, ":", "*", ":n0.0", "a/b", "c")...)
	methods := list("GET", "PUT", "POST", "get", "HEAD")
	for i := range 300 {
		l := thrown(&d, 1+i%api.MaxRoutes)
		x := none
		if i%2 == 0 {
			x = of(t, l...)
		} else {
			for left := l; len(left) > 0; {
				n := min(len(left), 1+d.below(4))
				x = x.With(left[:n]...)
				left = left[n:]
			}
		}
		asList(t, x, l, methods, paths)
	}
}

// TestOfTargets: as a request comes: by the segments of its target.
func TestOfTargets(t *testing.T) {
	x := of(t, table.First()...)
	for _, c := range []struct {
		method, target, handler string
		words                   []string
	}{
		{"GET", "/health", "health", nil},
		{"GET", "/health?a=b", "health", nil},
		{"POST", "/admin/routes", "reload", nil},
		{"POST", "/admin/stop", "shutdown", nil},
		{"GET", "/kv/a%2fb", "get", list("key", "a/b")},
		{"PUT", "/kv/%3akey", "put", list("key", ":key")},
		{"DELETE", "/kv/*", "delete", list("key", "*")},
		{"GET", "/list/", "list", list("prefix", "")},
		{"GET", "/list/a", "list", list("prefix", "a")},
		{"GET", "/list/a/b//", "list", list("prefix", "a/b//")},
		{"GET", "/walk/FF", "walk", list("moves", "FF")},
		{"GET", "/wal%6b/FF", "walk", list("moves", "FF")},
	} {
		l, ok := path.Split(c.target)
		if !ok {
			t.Fatal(c.target)
		}
		finds(t, x, c.method, l, c.handler, c.words...)
	}
	for target, allow := range map[string][]string{
		"/": nil, "//": nil, "/health/": nil, "/kv": nil, "/kv/": nil, "/kv/a/b": nil, "/list": nil, "/admin": nil, "/admin/": nil, "/Health": nil,
		"/health": list("GET"), "/kv/a": list("DELETE", "GET", "PUT"), "/admin/stop": list("POST"), "/list/": list("GET"),
	} {
		l, ok := path.Split(target)
		if !ok {
			t.Fatal(target)
		}
		misses(t, x, "HEAD", l, allow...)
	}
}

// TestNoneGivesUp: routes that may not stand beside one another, and of which the chapter says nothing, are taken, too; those that may answer as they would alone.
func TestNoneGivesUp(t *testing.T) {
	odd := routes(
		"GET", "", "get", "GET", "a", "get", "GET", "//", "get", "GET", "/:", "get", "GET", "/*", "get", "GET", "/*a/b", "get", "GET", "/:a/:a", "get",
		"GET", "/%", "get", "GET", "/1/2/3/4/5/6/7/8/9", "get", "GET", "/"+strings.Repeat("a/", 5000), "get", "GET", "/\xff", "get", "GET", ":a", "get",
		"", "", "",
	)
	paths := append(somePaths(2, "", "a", ":", "*", "%", "\xff"), list("1", "2", "3", "4", "5", "6", "7", "8", "9"), slices.Repeat(list("a"), 5000))
	x := none.With(odd...)
	for _, p := range paths {
		misses(t, x, "GET", p)
		misses(t, x, "", p)
	}
	l := table.First()
	for _, y := range []*Trie{x.With(l...), none.With(l...).With(odd...), none.With(slices.Concat(odd, l, odd)...)} {
		for _, r := range l {
			want, _ := matchAsWell(l, r.Method, own(r))
			holds(t, y, r.Method, own(r), want, true)
		}
	}
	// Two of one shape, and more than may be.
	y := none.With(routes("GET", "/:a", "get", "GET", "/:b", "put", "GET", "/:a", "get")...)
	if m, ok := y.Match("GET", list("x")); !ok || len(m.Params) != 1 || m.Params[0].Value != "x" || len(m.Allow) > 0 {
		t.Errorf("Match(GET, x) = %q, %v", m, ok)
	}
	misses(t, y, "PUT", list("x"), "GET")
	z := none.With(many(1000)[0]...)
	finds(t, z, "GET", list("a999"), "shutdown")
	z = none.With(route("", "/a", "nobody"), route("G@T", "/a", ""))
	for _, m := range list("", "G@T", "GET") {
		for _, p := range paths {
			z.Match(m, p)
		}
	}
}
