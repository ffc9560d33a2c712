package path

import (
	"fmt"
	"math"
	"net/url"
	"regexp"
	"slices"
	"strings"
	"testing"

	"crossroad/api"
)

// tokens: each sign that a token may have.
const tokens = "ABCDEFGHIJKLMNOPQRSTUVWXYZabcdefghijklmnopqrstuvwxyz0123456789!#$%&'*+-.^_|~\x60"

func list(l ...string) []string { return l }

// cut: Split or Pattern.
type cut func(string) ([]string, bool)

// tells: does it tell these segments, and true?
func tells(t *testing.T, name string, f cut, s string, want []string) {
	t.Helper()
	if got, ok := f(s); !ok || !slices.Equal(got, want) {
		t.Errorf("%s(%q) = %q, %v, want %q", name, s, got, ok, want)
	}
}

// refuses: does it tell false, and nothing beside it?
func refuses(t *testing.T, name string, f cut, s string) {
	t.Helper()
	if got, ok := f(s); ok || len(got) > 0 {
		t.Errorf("%s(%q) = %q, %v", name, s, got, ok)
	}
}

// eachText: calls f with all texts of these signs, up to that length.
func eachText(signs string, length int, f func(string)) {
	var from func(s string)
	from = func(s string) {
		f(s)
		if len(s) < length {
			for i := range len(signs) {
				from(s + signs[i:i+1])
			}
		}
	}
	from("")
}

func TestConstants(t *testing.T) {
	if Word != 0 || Param != 1 || Rest != 2 {
		t.Error(Word, Param, Rest)
	}
	if api.MaxDepth != 8 {
		t.Error(api.MaxDepth)
	}
}

func TestSplit(t *testing.T) {
	for _, c := range []struct {
		target string
		want   []string
	}{
		{"/a%2fb/c?d", list("a/b", "c")},
		{"/", nil},
		{"/?", nil},
		{"/?a", nil},
		{"/?/a/b", nil},
		{"/a", list("a")},
		{"/abc", list("abc")},
		{"/kv/key", list("kv", "key")},
		{"/a/b/c/d", list("a", "b", "c", "d")},
		{"//", list("", "")},
		{"///", list("", "", "")},
		{"/a/", list("a", "")},
		{"//a", list("", "a")},
		{"/a//b", list("a", "", "b")},
		{"//a///b//", list("", "a", "", "", "b", "", "")},
		{"/1/2/3/4/5/6/7/8", list("1", "2", "3", "4", "5", "6", "7", "8")},
		{"/1/2/3/4/5/6/7/", list("1", "2", "3", "4", "5", "6", "7", "")},
		{"////////", list("", "", "", "", "", "", "", "")},
		{"/1/2/3/4/5/6/7/8?/9/10", list("1", "2", "3", "4", "5", "6", "7", "8")},
		{"/1/2/3/4/5/6/7/8%2f9%2F10", list("1", "2", "3", "4", "5", "6", "7", "8/9/10")},
		{"/a?", list("a")},
		{"/a?b", list("a")},
		{"/a/?b", list("a", "")},
		{"/a?b?c/d", list("a")},
		{"/a?%", list("a")},
		{"/a?%zz", list("a")},
		{"/a%3fb?c", list("a?b")},
		{"/%3F?%3F", list("?")},
		{"/%2f", list("/")},
		{"/%2f/%2F", list("/", "/")},
		{"/%2f%2f", list("//")},
		{"/%25", list("%")},
		{"/%252f", list("%2f")},
		{"/%25%32%66", list("%2f")},
		{"/%2541/%41", list("%41", "A")},
		{"/%41%42%43", list("ABC")},
		{"/x%41y%42z", list("xAyBz")},
		{"/%412", list("A2")},
		{"/%4142", list("A42")},
		{"/%00", list("\x00")},
		{"/%fF%Ff", list("\xff\xff")},
		{"/%c3%a4", list("\u00e4")},
		{"/\u00e4/\xff\x00 \r\n", list("\u00e4", "\xff\x00 \r\n")},
		{"/:a/*b", list(":a", "*b")},
		{"/./../a", list(".", "..", "a")},
		{"/a+b/c#d", list("a+b", "c#d")},
		{"/\\a", list("\\a")},
	} {
		tells(t, "Split", Split, c.target, c.want)
	}
}

func TestSplitRefuses(t *testing.T) {
	for _, s := range []string{
		"", "a", "a/b", " /", "*", "\\", "http://a/b", "%2f", "%2Fa", "\x00/", "?", "?/", "??/a", "a?/b",
		"/1/2/3/4/5/6/7/8/9", "/1/2/3/4/5/6/7/8/", "/////////", "/1/2/3/4/5/6/7/8/?a", "/1/2/3/4/5/6/7/8/9/10",
		"/" + strings.Repeat("/", 1000),
		"/%", "/%2", "/%f", "/a%", "/a%2", "/%zz", "/%2g", "/%g2", "/%-1", "/%+1", "/% 1", "/%1 ", "/%0x", "/%_1",
		"/%%", "/%%41", "/%4%1", "/%41%", "/%41%4", "/%4/1", "/%/41", "/a%/b", "/a%4/b",
		"/%?41", "/%4?1", "/%?", "/%4?", "/a/b%?c", "/a/b%4?c",
		"/a/%zz/c", "/%zz/a", "/a/%zz", "/a//%", "/%4\xff", "/%\u00e4", "/%\uff11\uff11", "/%4\x00",
		"/%/1/2/3/4/5/6/7/8",
	} {
		refuses(t, "Split", Split, s)
	}
}

func TestSplitOfEachByte(t *testing.T) {
	for n := range 256 {
		want := string([]byte{byte(n)})
		for _, form := range []string{"%02x", "%02X"} {
			digits := fmt.Sprintf("%%"+form, n)
			tells(t, "Split", Split, "/"+digits, list(want))
			tells(t, "Split", Split, "/a"+digits+"b/"+digits+"?"+digits, list("a"+want+"b", want))
		}
		switch want {
		case "/", "?", "%":
		default:
			tells(t, "Split", Split, "/"+want, list(want))
			tells(t, "Split", Split, "/a"+want+"b/c", list("a"+want+"b", "c"))
		}
	}
}

// TestSplitOfEachPair: % and any two bytes: digits of base 16, or none.
func TestSplitOfEachPair(t *testing.T) {
	const digits = "0123456789abcdef"
	value := func(b byte) int { return strings.IndexByte(digits, strings.ToLower(string(rune(b)))[0]) }
	for i := range 256 {
		for j := range 256 {
			high, low := -1, -1
			if i < 128 && j < 128 {
				high, low = value(byte(i)), value(byte(j))
			}
			s := "/%" + string([]byte{byte(i), byte(j)})
			if high < 0 || low < 0 {
				refuses(t, "Split", Split, s)
				continue
			}
			tells(t, "Split", Split, s, list(string([]byte{byte(high*16 + low)})))
		}
	}
}

// splitAsWell: what Split has to tell, in another way.
func splitAsWell(target string) ([]string, bool) {
	path, _, _ := strings.Cut(target, "?")
	if path == "/" {
		return nil, true
	}
	words := strings.Split(path, "/")
	if path == "" || words[0] != "" || len(words) > 9 {
		return nil, false
	}
	var l []string
	for _, w := range words[1:] {
		s, err := url.PathUnescape(w)
		if err != nil {
			return nil, false
		}
		l = append(l, s)
	}
	return l, true
}

func TestSplitOfAllShortTexts(t *testing.T) {
	eachText("/?%2Fag", 6, func(s string) {
		// Once at a target's beginning, and once where few segments are left.
		for _, target := range []string{s, "/1/2/3/4/5/6" + s} {
			want, ok := splitAsWell(target)
			if ok {
				tells(t, "Split", Split, target, want)
			} else {
				refuses(t, "Split", Split, target)
			}
		}
	})
}

func TestKind(t *testing.T) {
	for s, want := range map[string]int{
		"": Word, "a": Word, "abc": Word, "a:": Word, "a*": Word, "a:b*c": Word, " :a": Word, "/:a": Word, "%": Word, "\xff": Word,
		":": Param, ":a": Param, "::": Param, ":*": Param, ":*a": Param, ": ": Param,
		"*": Rest, "*a": Rest, "**": Rest, "*:": Rest, "*:a": Rest,
	} {
		if got := Kind(s); got != want {
			t.Errorf("Kind(%q) = %d", s, got)
		}
	}
	for n := range 256 {
		want := Word
		switch n {
		case ':':
			want = Param
		case '*':
			want = Rest
		}
		for _, behind := range []string{"", "a", ":", "*"} {
			if s := string([]byte{byte(n)}) + behind; Kind(s) != want {
				t.Errorf("Kind(%q) = %d", s, Kind(s))
			}
		}
	}
}

func TestPattern(t *testing.T) {
	for _, s := range []string{
		"a", "abc", "health", "admin/routes", "a/b/c/d",
		":a", ":key", "kv/:key", ":a/:b", ":a/b/:c", "a/:a", ":a/a", ":a/:A", ":a/:b/:ab/:ba",
		"*a", "list/*prefix", ":a/*b", "a/:b/*c", "a/*a", ":A/*a",
		"1/2/3/4/5/6/7/8", ":1/:2/:3/:4/:5/:6/:7/:8", "1/2/3/4/5/6/7/*8", ":1/:2/:3/:4/:5/:6/:7/*8",
		"a/a/a/a", "a*", "a*b", "!*", "a*/b", ".", "..", "-",
		":a%", ":%", ":%41", "*%", "*%zz", ":*", ":*a", "**", "**a", "***", ":*/**b", ":*a/*a", ":a/**a",
		strings.ReplaceAll(tokens, "%", ""), ":" + tokens, "*" + tokens,
		strings.Repeat("a", 5000) + "/:" + strings.Repeat("b", 5000),
	} {
		tells(t, "Pattern", Pattern, "/"+s, strings.Split(s, "/"))
	}
	tells(t, "Pattern", Pattern, "/", nil)
}

func TestPatternRefuses(t *testing.T) {
	for _, s := range []string{
		"", "a", ":a", "*a", "a/b", " /", " /a", "%2f", "?", "\x00",
		"//", "///", "//a", "/a/", "/a//b", "/:a/", "/*a/", "/:a//b", "////////",
		"/1/2/3/4/5/6/7/8/9", "/1/2/3/4/5/6/7/8/", "/:1/:2/:3/:4/:5/:6/:7/:8/:9", "/1/2/3/4/5/6/7/8/*9",
		"/a%", "/%", "/%41", "/a%41b", "/a/%2f", "/%a/:b", "/a?", "/?", "/a?b", "/a b", "/a ", "/ ", "/\t", "/a\n", "/a\x00",
		"/a:", "/a:b", "/a/b:", "/\u00e4", "/\xff", "/a,b", "/(a)", "/{a}", "/a=b", "/a@b", "/a;b", "/\"a\"", "/\\",
		"/:", "/*", "/a/:", "/a/*", "/:/a", "/:a/*", "/:/:", "/:a/:",
		"/: ", "/:a ", "/: a", "/:a b", "/::", "/::a", "/:a:", "/:a:b", "/:a?", "/:\u00e4", "/:a\xff", "/:a\x00",
		"/*:", "/*:a", "/*a:", "/* ", "/*a b", "/*a?", "/*\u00e4", "/*\xff",
		"/:a/:a", "/:a/b/:a", "/:a/:b/:a", "/:b/:a/:a", "/:a/*a", "/:a/b/*a", "/:a/:b/*b", "/:%/:%", "/:*/**",
		"/:1/:2/:3/:4/:5/:6/:7/:1", "/:1/:2/:3/:4/:5/:6/:7/:7", "/:1/:2/:3/:4/:5/:6/:7/*1",
		"/*a/b", "/*a/:b", "/*a/*b", "/*a/*a", "/a/*b/c", "/:a/*b/:c", "/**/a", "/*a/b/*c",
	} {
		refuses(t, "Pattern", Pattern, s)
	}
}

// TestPatternOfEachByte: which may stand in a word, and which in a name.
func TestPatternOfEachByte(t *testing.T) {
	for n := range 256 {
		sign := string([]byte{byte(n)})
		token := n < 128 && strings.Contains(tokens, sign)
		for _, c := range []struct {
			pattern string
			right   bool
		}{
			{"/a" + sign, token && sign != "%"},
			{"/a" + sign + "b", token && sign != "%" || sign == "/"},
			{"/:" + sign, token},
			{"/:a" + sign + "b", token || sign == "/"},
			{"/*" + sign, token},
			{"/*a" + sign + "b", token},
			{sign + "a", sign == "/"},
		} {
			if _, ok := Pattern(c.pattern); ok != c.right {
				t.Errorf("Pattern(%q): %v", c.pattern, ok)
			}
		}
	}
}

// patternAsWell: what Pattern has to tell, in another way.
func patternAsWell(s string) ([]string, bool) {
	if s == "/" {
		return nil, true
	}
	if !rightPattern.MatchString(s) {
		return nil, false
	}
	names := map[string]int{}
	for _, m := range nameInPattern.FindAllStringSubmatch(s, -1) {
		names[m[1]]++
		if names[m[1]] > 1 {
			return nil, false
		}
	}
	return strings.Split(s[1:], "/"), true
}

const (
	anySign  = "[A-Za-z0-9!#$%&'*+.^_|~\x60-]"
	wordSign = "[A-Za-z0-9!#$&'*+.^_|~\x60-]"
	wordHead = "[A-Za-z0-9!#$&'+.^_|~\x60-]"
	wordText = wordHead + wordSign + "*"
	some     = "/(?:" + wordText + "|:" + anySign + "+)"
)

var (
	rightPattern  = regexp.MustCompile(`^(?:(?:` + some + `){1,8}|(?:` + some + `){0,7}/\*` + anySign + `+)$`)
	nameInPattern = regexp.MustCompile(`/[:*]([^/]*)`)
)

func TestPatternOfAllShortTexts(t *testing.T) {
	eachText("/:*%ab ", 6, func(s string) {
		for _, pattern := range []string{s, "/1/2/:a/4/5/6" + s} {
			want, ok := patternAsWell(pattern)
			if ok {
				tells(t, "Pattern", Pattern, pattern, want)
			} else {
				refuses(t, "Pattern", Pattern, pattern)
			}
		}
	})
}

func TestShape(t *testing.T) {
	for pattern, want := range map[string]string{
		"/":                        "",
		"/a":                       "/a",
		"/a/b":                     "/a/b",
		"/A/b/A":                   "/A/b/A",
		"/:a":                      "/:",
		"/:long":                   "/:",
		"/*a":                      "/*",
		"/*long":                   "/*",
		"/a/:b":                    "/a/:",
		"/:a/b":                    "/:/b",
		"/:a/:b":                   "/:/:",
		"/a/:b/*c":                 "/a/:/*",
		"/:a/b/*c":                 "/:/b/*",
		"/a*b/:*/**c":              "/a*b/:/*",
		"/a*":                      "/a*",
		"/:*":                      "/:",
		"/1/2/3/4/5/6/7/8":         "/1/2/3/4/5/6/7/8",
		"/:1/:2/:3/:4/:5/:6/:7/*8": "/:/:/:/:/:/:/:/*",
	} {
		l, ok := Pattern(pattern)
		if got := Shape(l); !ok || got != want {
			t.Errorf("Shape(%q) = %q, of %q", l, got, pattern)
		}
	}
}

// TestShapeOfAllShortPatterns: a shape is the pattern without its names.
func TestShapeOfAllShortPatterns(t *testing.T) {
	name := regexp.MustCompile(`/([:*])[^/]*`)
	eachText("/:*ab", 7, func(s string) {
		l, ok := Pattern(s)
		if !ok {
			return
		}
		want := name.ReplaceAllString(s, "/$1")
		if s == "/" {
			want = ""
		}
		if got := Shape(l); got != want {
			t.Errorf("Shape(%q) = %q", l, got)
		}
	})
}

func TestJoin(t *testing.T) {
	abc := list("a", "b", "c")
	for _, c := range []struct {
		l    []string
		from int
		want string
	}{
		{abc, 0, "a/b/c"}, {abc, 1, "b/c"}, {abc, 2, "c"}, {abc, 3, ""}, {abc, 4, ""}, {abc, 100, ""}, {abc, math.MaxInt, ""},
		{nil, 0, ""}, {nil, 1, ""}, {nil, math.MaxInt, ""}, {list(), 0, ""},
		{list("a"), 0, "a"}, {list("a"), 1, ""}, {list("a"), 2, ""},
		{list(""), 0, ""}, {list("", ""), 0, "/"}, {list("", ""), 1, ""}, {list("", "", ""), 0, "//"},
		{list("", "a", "", "b", ""), 0, "/a//b/"}, {list("", "a", "", "b", ""), 1, "a//b/"}, {list("", "a", "", "b", ""), 2, "/b/"},
		{list("a/b", "c"), 0, "a/b/c"}, {list("/", "/"), 0, "///"}, {list("%", "%41", "\xff", "?"), 0, "%/%41/\xff/?"},
		{list(":a", "*b"), 0, ":a/*b"},
		{list("1", "2", "3", "4", "5", "6", "7", "8", "9", "10"), 0, "1/2/3/4/5/6/7/8/9/10"},
		{list("1", "2", "3", "4", "5", "6", "7", "8", "9", "10"), 8, "9/10"},
	} {
		if got := Join(c.l, c.from); got != c.want {
			t.Errorf("Join(%q, %d) = %q, want %q", c.l, c.from, got, c.want)
		}
	}
}

// TestJoinOfSplit: what was split without digits is what stood behind the first /.
func TestJoinOfSplit(t *testing.T) {
	eachText("/ab", 7, func(s string) {
		l, ok := Split("/" + s)
		if ok && Join(l, 0) != s {
			t.Errorf("Join(%q, 0) = %q", l, Join(l, 0))
		}
	})
}

// TestNoneGivesUp: lists and numbers of which the chapter says nothing are answered, too.
func TestNoneGivesUp(t *testing.T) {
	odd := list("", ":", "*", ":a/b", "*a", "\xff", "/", ":a", "a", "b")
	for _, from := range []int{math.MinInt, -9, -1, 0, 9, 10, 11, math.MaxInt} {
		Join(odd, from)
		Join(nil, from)
	}
	Shape(odd)
	Shape(nil)
	eachText("/:*%\xff", 4, func(s string) {
		Kind(s)
		Shape(list(s, s))
	})
}

func TestArgumentsStay(t *testing.T) {
	given := list("a", ":b", "*c", "d", "e")
	l := given[:3]
	for _, from := range []int{-1, 0, 1, 3, 4} {
		Join(l, from)
	}
	Shape(l)
	if !slices.Equal(given, list("a", ":b", "*c", "d", "e")) {
		t.Error(given)
	}
}

// TestAnswersAreNew: who changes a list that was answered changes no other one.
func TestAnswersAreNew(t *testing.T) {
	for name, f := range map[string]cut{"Split": Split, "Pattern": Pattern} {
		const s = "/a/b/c"
		one, _ := f(s)
		two, _ := f(s)
		for i := range one {
			one[i] = "x"
		}
		_ = append(one, "y")
		tells(t, name, f, s, list("a", "b", "c"))
		if !slices.Equal(two, list("a", "b", "c")) {
			t.Errorf("%s: %q", name, two)
		}
	}
}
