package table

import (
	"fmt"
	"regexp"
	"slices"
	"strings"
	"testing"

	"crossroad/api"
)

// tokens: each sign that a token may have.
const tokens = "ABCDEFGHIJKLMNOPQRSTUVWXYZabcdefghijklmnopqrstuvwxyz0123456789!#$%&'*+-.^_|~\x60"

// handlers: the names that the chapter tells, in its order.
var handlers = []string{"get", "put", "delete", "list", "walk", "health", "reload", "shutdown"}

func route(method, pattern, handler string) api.Route {
	return api.Route{Method: method, Pattern: pattern, Handler: handler}
}

// routes: one of each three words.
func routes(words ...string) []api.Route {
	var l []api.Route
	for w := range slices.Chunk(words, 3) {
		l = append(l, route(w[0], w[1], w[2]))
	}
	return l
}

// many: that many routes, of shapes of their own.
func many(n int) []api.Route {
	var l []api.Route
	for i := range n {
		l = append(l, route("GET", fmt.Sprint("/a", i), "get"))
	}
	return l
}

// with: a new list of one behind another.
func with(l []api.Route, more ...api.Route) []api.Route { return slices.Concat(l, more) }

// checks: does Check answer that, whatever the order of the routes?
func checks(t *testing.T, want api.Errno, l ...api.Route) {
	t.Helper()
	back := slices.Clone(l)
	slices.Reverse(back)
	for _, m := range [][]api.Route{l, back} {
		if got := Check(m...); got != want {
			t.Errorf("Check(%q) = %d, want %d", m, got, want)
		}
	}
}

// reads: does Parse tell these routes?
func reads(t *testing.T, s string, want ...api.Route) {
	t.Helper()
	if got, e := Parse(s); e != api.OK || !slices.Equal(got, want) {
		t.Errorf("Parse(%q) = %q, %d, want %q", s, got, e, want)
	}
}

// refuses: does Parse tell that error, and nothing beside it?
func refuses(t *testing.T, want api.Errno, s string) {
	t.Helper()
	if got, e := Parse(s); e != want || len(got) > 0 {
		t.Errorf("Parse(%q) = %q, %d, want %d", s, got, e, want)
	}
}

// eachList: calls f with all lists of these, up to that length.
func eachList[T any](of []T, length int, f func([]T)) {
	var from func(l []T)
	from = func(l []T) {
		f(l)
		if len(l) < length {
			for _, x := range of {
				from(append(slices.Clone(l), x))
			}
		}
	}
	from(nil)
}

func TestHandlers(t *testing.T) {
	if !slices.Equal(Handlers[:], handlers) {
		t.Errorf("%q", Handlers)
	}
}

func TestHandler(t *testing.T) {
	for _, s := range handlers {
		if !Handler(s) {
			t.Errorf("Handler(%q) = false", s)
		}
		for _, wrong := range []string{
			strings.ToUpper(s), strings.ToUpper(s[:1]) + s[1:], " " + s, s + " ", s + "\n", s + "\r", s + "\t", s + "\x00", "\x00" + s,
			s[1:], s[:len(s)-1], s + s, s + "s", "/" + s,
		} {
			if Handler(wrong) {
				t.Errorf("Handler(%q) = true", wrong)
			}
		}
	}
	for _, s := range []string{"", " ", "nobody", "post", "stop", "kv", "getput", "get put", "get,put", strings.Join(handlers, " "), "0", "\xff"} {
		if Handler(s) {
			t.Errorf("Handler(%q) = true", s)
		}
	}
}

func TestRight(t *testing.T) {
	for _, h := range handlers {
		for _, m := range []string{"GET", "PUT", "POST", "DELETE", "get", "G", "7", "M-SEARCH", "*", "%", tokens} {
			for _, p := range []string{"/", "/a", "/a/b", "/:a", "/*a", "/a/:b/*c", "/:%", "/a*", "/1/2/3/4/5/6/7/8", "/:1/:2/:3/:4/:5/:6/:7/*8"} {
				if r := route(m, p, h); !Right(r) {
					t.Errorf("Right(%q) = false", r)
				}
			}
		}
	}
}

var (
	wrongMethods  = []string{"", " ", "G@T", "G T", " GET", "GET ", "GET\t", "GET\n", "GET:", "GET/", "/", ":", "(GET)", "G\x00", "G\xff", "\u00e4", "G\x7f"}
	wrongPatterns = []string{
		"", "a", ":a", "*a", " /", "/ ", "//", "/a/", "//a", "/a//b", "/a b", "/a\n", "/a?b", "/a%", "/%41", "/a:", "/\u00e4", "/\xff",
		"/:", "/*", "/::", "/:a:", "/*:", "/:a/:a", "/:a/*a", "/*a/b", "/*a/*b", "/1/2/3/4/5/6/7/8/9",
	}
	wrongHandlers = []string{"", " ", "nobody", "GET", "Get", "get ", " get", "get\n", "ge", "gett", "/get", "get\x00", "\xff"}
)

// wrong: routes that have one thing wrong, then some that have more.
func wrong() []api.Route {
	var l []api.Route
	for _, m := range wrongMethods {
		l = append(l, route(m, "/a", "get"))
	}
	for _, p := range wrongPatterns {
		l = append(l, route("GET", p, "get"))
	}
	for _, h := range wrongHandlers {
		l = append(l, route("GET", "/a", h))
	}
	return append(l, routes(
		"G@T", "a", "get",
		"G@T", "/a", "nobody",
		"GET", "a", "nobody",
		"G@T", "a", "nobody",
		"/a", "GET", "get",
		"get", "/a", "GET",
	)...)
}

func TestRightRefuses(t *testing.T) {
	for _, r := range append(wrong(), api.Route{}) {
		if Right(r) {
			t.Errorf("Right(%q) = true", r)
		}
	}
}

// TestRightOfEachByte: which may stand in a method, in a pattern, in a handler's name.
func TestRightOfEachByte(t *testing.T) {
	for n := range 256 {
		sign := string([]byte{byte(n)})
		token := strings.Contains(tokens, sign)
		for _, c := range []struct {
			r    api.Route
			want bool
		}{
			{route(sign, "/a", "get"), token},
			{route("G"+sign+"T", "/a", "get"), token},
			{route("GET", "/a"+sign+"b", "get"), token && sign != "%" || sign == "/"},
			{route("GET", "/:a"+sign, "get"), token},
			{route("GET", "/a", "ge"+sign), sign == "t"},
			{route("GET", "/a", "get"+sign), false},
		} {
			if got := Right(c.r); got != c.want {
				t.Errorf("Right(%q) = %v", c.r, got)
			}
		}
	}
}

func TestCheck(t *testing.T) {
	checks(t, api.OK)
	checks(t, api.OK, routes("GET", "/", "get")...)
	for _, h := range handlers {
		checks(t, api.OK, route("GET", "/a/:b/*c", h))
	}
	checks(t, api.OK, First()...)
	for _, l := range [][]api.Route{
		// One pattern, two methods.
		routes("GET", "/a", "get", "PUT", "/a", "put"),
		routes("GET", "/", "get", "PUT", "/", "get"),
		routes("GET", "/:a", "get", "PUT", "/:a", "put", "DELETE", "/:a", "delete"),
		routes("GET", "/a", "get", "get", "/a", "get", "Get", "/a", "get"),
		// Two patterns of one shape, two methods.
		routes("GET", "/:a", "get", "PUT", "/:b", "get"),
		routes("GET", "/*a", "get", "PUT", "/*b", "get"),
		routes("GET", "/a/:x", "get", "PUT", "/a/:y", "put"),
		// Shapes that differ, one method.
		routes("GET", "/", "get", "GET", "/:a", "get", "GET", "/*a", "get", "GET", "/a", "get", "GET", "/A", "get"),
		routes("GET", "/a/:b", "get", "GET", "/:a/b", "get", "GET", "/:a/:b", "get", "GET", "/a/b", "get", "GET", "/:a/*b", "get", "GET", "/a/*b", "get"),
		routes("GET", "/:a", "get", "GET", "/:a/:b", "get", "GET", "/:a/:b/:c", "get"),
		routes("GET", "/a", "get", "GET", "/a*", "get", "GET", "/aa", "get", "GET", "/a/a", "get"),
		// Methods that look like a piece of a pattern.
		routes("A", "/B", "get", "AB", "/", "get"),
		routes("*", "/a", "get", "GET", "/*a", "get"),
		// Many that have one handler.
		routes("GET", "/a", "walk", "GET", "/b", "walk", "PUT", "/a", "walk"),
	} {
		checks(t, api.OK, l...)
	}
}

func TestCheckOfOneWrong(t *testing.T) {
	for _, r := range wrong() {
		checks(t, api.ErrForm, r)
		checks(t, api.ErrForm, with(First(), r)...)
		checks(t, api.ErrForm, route("GET", "/b", "get"), r, route("GET", "/c", "get"))
	}
}

func TestCheckOfMany(t *testing.T) {
	if api.MaxRoutes != 24 {
		t.Fatal(api.MaxRoutes)
	}
	for n := range 60 {
		want := api.OK
		if n > 24 {
			want = api.ErrLong
		}
		checks(t, want, many(n)...)
	}
	checks(t, api.ErrLong, many(1000)...)
}

func TestCheckOfTwoThatClash(t *testing.T) {
	for _, p := range [][2]string{
		{"/", "/"}, {"/a", "/a"}, {"/a/b", "/a/b"}, {"/:a", "/:a"}, {"/*a", "/*a"},
		{"/:a", "/:b"}, {"/*a", "/*b"}, {"/a/:x", "/a/:y"}, {"/:a/b", "/:b/b"}, {"/:a/:b", "/:b/:a"}, {"/:a/*b", "/:b/*a"},
		{"/a/:b/*c", "/a/:longer/*c"}, {"/:*", "/:%"}, {"/**", "/*a"}, {"/:a", "/:A"},
		{"/1/2/3/4/5/6/7/:8", "/1/2/3/4/5/6/7/:9"}, {"/:1/:2/:3/:4/:5/:6/:7/*8", "/:8/:7/:6/:5/:4/:3/:2/*1"},
	} {
		one, two := route("GET", p[0], "get"), route("GET", p[1], "get")
		for _, h := range handlers {
			checks(t, api.ErrClash, one, route("GET", p[1], h))
		}
		checks(t, api.OK, one, route("PUT", p[1], "get"))
		// Next to one another, and apart.
		rest := many(22)
		checks(t, api.ErrClash, with(rest, one, two)...)
		checks(t, api.ErrClash, with([]api.Route{one}, with(rest, two)...)...)
		checks(t, api.ErrClash, with(rest[:11], with([]api.Route{one}, with(rest[11:], two)...)...)...)
		checks(t, api.ErrClash, one, route("PUT", p[1], "get"), two)
		checks(t, api.ErrClash, one, two, one)
	}
}

// TestCheckOfEachPlace: a clash is seen wherever the two stand among as many as may be.
func TestCheckOfEachPlace(t *testing.T) {
	for i := range 24 {
		for j := range i {
			l := many(24)
			l[i], l[j] = route("GET", "/b/:c", "get"), route("GET", "/b/:d", "put")
			checks(t, api.ErrClash, l...)
			l[j].Method = "PUT"
			checks(t, api.OK, l...)
		}
	}
}

// TestCheckOfTwoErrors: the answer is the one that the chapter names first.
func TestCheckOfTwoErrors(t *testing.T) {
	bad := route("G@T", "/a", "get")
	clashing := routes("GET", "/:a", "get", "GET", "/:b", "get")
	checks(t, api.ErrForm, with(many(24), bad)...)
	checks(t, api.ErrForm, with(many(12), with([]api.Route{bad}, many(24)[12:]...)...)...)
	checks(t, api.ErrForm, with(many(100), bad)...)
	checks(t, api.ErrForm, with(clashing, bad)...)
	checks(t, api.ErrForm, clashing[0], bad, clashing[1])
	checks(t, api.ErrForm, bad, bad)
	checks(t, api.ErrLong, with(many(23), clashing...)...)
	checks(t, api.ErrLong, with(many(24), many(24)...)...)
	checks(t, api.ErrLong, slices.Repeat(many(1), 25)...)
	checks(t, api.ErrClash, slices.Repeat(many(1), 24)...)
	checks(t, api.ErrForm, with(many(23), with(clashing, bad)...)...)
}

// checkAsWell: what Check has to tell of these, which are at most 24, in another way.
func checkAsWell(l []api.Route) api.Errno {
	if slices.ContainsFunc(l, func(r api.Route) bool { return !Right(r) }) {
		return api.ErrForm
	}
	name := regexp.MustCompile(`/([:*])[^/]*`)
	seen := map[string]int{}
	for _, r := range l {
		seen[r.Method+" "+name.ReplaceAllString(r.Pattern, "/$1")]++
	}
	if len(seen) < len(l) {
		return api.ErrClash
	}
	return api.OK
}

func TestCheckOfAllShortLists(t *testing.T) {
	var some []api.Route
	for _, p := range []string{"/", "/a", "/:a", "/:b", "/*a", "/*b", "/:a/b"} {
		some = append(some, route("GET", p, "get"), route("PUT", p, "put"))
	}
	some = append(some, route("GET", "/a", "nobody"))
	eachList(some, 4, func(l []api.Route) {
		if got, want := Check(l...), checkAsWell(l); got != want {
			t.Errorf("Check(%q) = %d, want %d", l, got, want)
		}
	})
}

func TestParse(t *testing.T) {
	a, b := route("GET", "/a/:x", "get"), route("PUT", "/a/:y", "put")
	for _, s := range []string{"", "\n", "\n\n\n", " ", "   ", " \n", "\n ", " \n  \n   \n", "\n\n  \n"} {
		reads(t, s)
	}
	for _, s := range []string{
		"GET /a/:x get", "GET /a/:x get\n", "\nGET /a/:x get", "\n\nGET /a/:x get\n\n", " \nGET /a/:x get\n ",
		" GET /a/:x get", "GET /a/:x get ", "   GET /a/:x get   ", "   GET /a/:x get   \n",
		"GET  /a/:x get", "GET /a/:x  get", "GET     /a/:x   get", "  GET   /a/:x  get    \n    ",
	} {
		reads(t, s, a)
	}
	for _, s := range []string{
		"GET /a/:x get\nPUT /a/:y put", "GET /a/:x get\nPUT /a/:y put\n", "\nGET  /a/:x get \n\nPUT /a/:y put",
		" GET /a/:x get \n PUT /a/:y put ", "GET /a/:x get\n\n\nPUT /a/:y put", "GET /a/:x get\n   \nPUT /a/:y put\n  ",
	} {
		reads(t, s, a, b)
	}
	reads(t, "PUT /a/:y put\nGET /a/:x get", b, a)
	reads(t, "GET / get", route("GET", "/", "get"))
	reads(t, "GET / get\nPUT / put", routes("GET", "/", "get", "PUT", "/", "put")...)
	reads(t, "get /get get", route("get", "/get", "get"))
	reads(t, tokens+" /:"+tokens+" walk", route(tokens, "/:"+tokens, "walk"))
	for _, h := range handlers {
		reads(t, "GET /a "+h, route("GET", "/a", h))
	}
	long := strings.Repeat(" ", 5000)
	reads(t, long+"GET"+long+"/a/:x"+long+"get"+long+strings.Repeat("\n", 5000)+long, a)
	reads(t, strings.Repeat("a", 5000)+" /"+strings.Repeat("b", 5000)+" get", route(strings.Repeat("a", 5000), "/"+strings.Repeat("b", 5000), "get"))
}

func TestParseRefusesLines(t *testing.T) {
	for _, line := range []string{
		// Of one, two, four and more words.
		"GET", "/a", "get", "x", "GET /a", "/a get", "GET get", "GET /a get get", "GET /a get x", "GET /a get /b put", "GET /a get PUT /b put",
		" GET", "GET ", " GET ", "GET  /a ", "  GET  /a  get  x  ", "GET /a get   x", "GET /a get .",
		// Of three of which one may not be.
		"G@T /a get", "GET a get", "GET /a/ get", "GET /a nobody", "GET /:a/:a get", "GET /a GET", "get GET /a", "/a GET get", "GET // get", "GET /a% get", "GET /*a/b get",
		// Others than blanks part nothing.
		"GET\t/a get", "GET /a\tget", "GET\t/a\tget", "\tGET /a get", "GET /a get\t", "\t", " \t ", "GET /a get \t", "GET /a get\r", "\r", " \r", "GET,/a,get",
		"GET /a\u00a0get", "GET /a get\u00a0", "GET\u2003/a get", "\u00a0", "\u0085", "\x00", "GET /a get\x00", "GET /a get\v", "\f", "\xff", "GET /a get # no",
		"GET/a get", "GET /aget", "GET /a get\rPUT /b put", "GET /a get\u2028PUT /b put",
	} {
		for _, s := range []string{line, line + "\n", "\n" + line, "GET /b get\n" + line, line + "\nGET /b get", "GET /b get\n" + line + "\nGET /c get\n"} {
			refuses(t, api.ErrForm, s)
		}
	}
	refuses(t, api.ErrForm, "GET\n/a\nget")
	refuses(t, api.ErrForm, "GET /a\nget")
	refuses(t, api.ErrForm, "GET\n/a get")
}

// TestParseOfEachByte: a blank and a line's end alone part anything.
func TestParseOfEachByte(t *testing.T) {
	for n := range 256 {
		sign := string([]byte{byte(n)})
		token := strings.Contains(tokens, sign)
		whole := sign == " " || sign == "\n"
		for _, s := range []string{sign + "GET /a get", "GET /a get" + sign, sign + " \nGET /a get", "GET /a get\n" + sign} {
			switch {
			case whole:
				reads(t, s, route("GET", "/a", "get"))
			case token && s == sign+"GET /a get":
				reads(t, s, route(sign+"GET", "/a", "get"))
			default:
				refuses(t, api.ErrForm, s)
			}
		}
		if s := "GET" + sign + "/a get"; sign == " " {
			reads(t, s, route("GET", "/a", "get"))
		} else {
			refuses(t, api.ErrForm, s)
		}
	}
}

// TestParseRefusesLists: the errors of Check, of which those of the form come first, wherever they stand.
func TestParseRefusesLists(t *testing.T) {
	for _, s := range []string{
		"GET /:a get\nGET /:b get", "GET /:a get\nGET /:b put", "GET /*a get\nGET /*b get\n", "GET / get\nGET / get", "GET /a get\n\n GET  /a  get",
		"GET /:a get\nPUT /:a put\nGET /b get\nGET /:c get",
	} {
		refuses(t, api.ErrClash, s)
		refuses(t, api.ErrForm, s+"\nx")
		refuses(t, api.ErrForm, "x\n"+s)
		refuses(t, api.ErrForm, s+"\nGET /d nobody")
		refuses(t, api.ErrLong, Print(many(23)...)+s)
	}
	refuses(t, api.ErrForm, "GET /*a get\nGET /*b put\nx")
	reads(t, Print(many(24)...), many(24)...)
	reads(t, strings.ReplaceAll(Print(many(24)...), "\n", "\n \n\n"), many(24)...)
	refuses(t, api.ErrLong, Print(many(25)...))
	refuses(t, api.ErrLong, Print(many(1000)...))
	refuses(t, api.ErrLong, strings.Repeat("GET /a get\n", 25))
	refuses(t, api.ErrClash, strings.Repeat("GET /a get\n", 24))
	refuses(t, api.ErrForm, Print(many(25)...)+"GET /b")
	refuses(t, api.ErrForm, Print(many(1000)...)+"GET /b nobody")
	refuses(t, api.ErrForm, "GET /b get x\n"+Print(many(1000)...))
}

// parseAsWell: what Parse has to tell, in another way.
func parseAsWell(s string) ([]api.Route, api.Errno) {
	blanks, three := regexp.MustCompile(`^ *$`), regexp.MustCompile(`^ *([^ ]+) +([^ ]+) +([^ ]+) *$`)
	var l []api.Route
	for line := range strings.SplitSeq(s, "\n") {
		if blanks.MatchString(line) {
			continue
		}
		m := three.FindStringSubmatch(line)
		if m == nil {
			return nil, api.ErrForm
		}
		l = append(l, route(m[1], m[2], m[3]))
	}
	if e := checkAsWell(l); e != api.OK {
		return nil, e
	}
	return l, api.OK
}

func TestParseOfAllShortTexts(t *testing.T) {
	holds := func(l []string) {
		s := strings.Join(l, "")
		want, e := parseAsWell(s)
		if e == api.OK {
			reads(t, s, want...)
		} else {
			refuses(t, e, s)
		}
	}
	eachList([]string{" ", "\n", "GET", "/a", "get", "\t"}, 6, holds)
	eachList([]string{" ", "\n", "GET /a get", "PUT /:a get", "PUT /:b put", "x"}, 5, holds)
}

func TestPrint(t *testing.T) {
	for _, c := range []struct {
		l    []api.Route
		want string
	}{
		{nil, ""},
		{routes("GET", "/", "get"), "GET / get\n"},
		{routes("GET", "/a/:x", "get", "PUT", "/a/:y", "put"), "GET /a/:x get\nPUT /a/:y put\n"},
		{routes("PUT", "/b", "put", "GET", "/a", "get", "PUT", "/b", "put"), "PUT /b put\nGET /a get\nPUT /b put\n"},
		// Those that may not be are told as they are.
		{routes("", "", ""), "  \n"},
		{routes("G@T", "a", "nobody", "", "/a", ""), "G@T a nobody\n /a \n"},
		{routes(" a ", "\n", "\xff%s"), " a  \n \xff%s\n"},
	} {
		if got := Print(c.l...); got != c.want {
			t.Errorf("Print(%q) = %q, want %q", c.l, got, c.want)
		}
	}
	if got := strings.Count(Print(many(1000)...), "\n"); got != 1000 {
		t.Errorf("Print of 1000: %d lines", got)
	}
}

// TestParseOfPrint: what was told is read again, and what was read is told by one blank and one line's end each.
func TestParseOfPrint(t *testing.T) {
	for n := range 25 {
		reads(t, Print(many(n)...), many(n)...)
	}
	reads(t, Print(First()...), First()...)
	for _, s := range []string{"", "  \n\n", " GET  /a   get ", "\n\nPUT /:a put\n \n  GET /:a  get\n", Print(First()...)} {
		l, e := Parse(s)
		want := ""
		for line := range strings.SplitSeq(s, "\n") {
			if words := strings.Fields(line); len(words) > 0 {
				want += strings.Join(words, " ") + "\n"
			}
		}
		if got := Print(l...); e != api.OK || got != want {
			t.Errorf("Print of Parse(%q) = %q, %d", s, got, e)
		}
	}
}

func TestFirst(t *testing.T) {
	want := routes(
		"GET", "/health", "health",
		"POST", "/admin/routes", "reload",
		"POST", "/admin/stop", "shutdown",
		"GET", "/kv/:key", "get",
		"PUT", "/kv/:key", "put",
		"DELETE", "/kv/:key", "delete",
		"GET", "/list/*prefix", "list",
		"GET", "/walk/:moves", "walk",
	)
	l := First()
	if !slices.Equal(l, want) {
		t.Fatalf("First() = %q", l)
	}
	// Whatever a caller does to it.
	other := First()
	clear(l)
	_ = append(l[:3], routes("a", "/b", "get", "c", "/d", "put")...)
	slices.Reverse(l)
	if got := First(); !slices.Equal(got, want) || !slices.Equal(other, want) {
		t.Errorf("First() = %q, and %q", got, other)
	}
}

func TestArgumentsStay(t *testing.T) {
	given := with(First(), routes("G@T", "a", "nobody", "GET", "/:a", "get", "GET", "/:b", "get")...)
	before := slices.Clone(given)
	for n := range len(given) + 1 {
		Check(given[:n]...)
		Print(given[:n]...)
		Check(given[n:]...)
	}
	if !slices.Equal(given, before) {
		t.Errorf("%q", given)
	}
}

// TestAnswersAreNew: who changes a list that was answered changes no other one.
func TestAnswersAreNew(t *testing.T) {
	s := Print(First()...)
	one, _ := Parse(s)
	two, _ := Parse(s)
	clear(one)
	_ = append(one[:1], route("a", "/b", "get"))
	reads(t, s, First()...)
	if !slices.Equal(two, First()) {
		t.Errorf("%q", two)
	}
}
