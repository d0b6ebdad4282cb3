package tests

import (
	"slices"
	"strings"
	"testing"

	"loop.example/g00452/impl"
)

func TestNameLengths(t *testing.T) {
	if impl.MaxName != 8 || impl.MaxNames != 4 {
		t.Fatal("the limits are not those of the document")
	}
	for n := 0; n <= 20; n++ {
		want := n >= 1 && n <= impl.MaxName
		for _, c := range []string{"a", " ", "~", "%"} {
			if impl.NameOk(strings.Repeat(c, n)) != want {
				t.Errorf("a name of %d times %q: not %v", n, c, want)
			}
		}
		if impl.NameOk(strings.Repeat(".", n)) != (want && n > 2) {
			t.Errorf("a name of %d points: not %v", n, want && n > 2)
		}
	}
}

func TestNameOfEachByte(t *testing.T) {
	for c := 0; c < 256; c++ {
		one := string([]byte{byte(c)})
		plain := c >= 32 && c <= 126 && c != '/'
		if impl.NameOk(one) != (plain && c != '.') {
			t.Errorf("NameOk(%q) is not %v", one, plain && c != '.')
		}
		for _, s := range []string{one + "a", "a" + one, "a" + one + "b", ".." + one, one + "..", "sevenby" + one} {
			if impl.NameOk(s) != plain {
				t.Errorf("NameOk(%q) is not %v", s, plain)
			}
		}
	}
}

func TestNamesThatAreNone(t *testing.T) {
	for _, s := range []string{"", ".", "..", "/", "a/", "/a", "a/b", "./", "../a", "\u00e9", "a\u00e9", "\u20ac", "\U0001f4da", "\ufffd", "\xff", "a\xc3", "\xc3a", "\xe2\x82", "\x7f", "\x1f", "ninebytes", "nine byte"} {
		if impl.NameOk(s) {
			t.Errorf("%q is no name", s)
		}
	}
	for _, s := range []string{"a", " ", "  ", ". ", " .", ".a", "a.", "...", "a..b", "%2F", "..a", "eightby8", "\\", "A-z_0~9"} {
		if !impl.NameOk(s) {
			t.Errorf("%q is a name", s)
		}
	}
}

func TestPathOk(t *testing.T) {
	for n := 0; n <= 8; n++ {
		p := slices.Repeat([]string{"a"}, n)
		if impl.PathOk(p) != (n <= impl.MaxNames) {
			t.Errorf("a path of %d names: not %v", n, n <= impl.MaxNames)
		}
		for i := range p {
			for _, s := range []string{"", ".", "..", "a/b", "\n", "ninebytes"} {
				q := slices.Clone(p)
				q[i] = s
				if impl.PathOk(q) {
					t.Errorf("%q is no path", q)
				}
			}
		}
	}
	if !impl.PathOk(nil) {
		t.Error("no name at all is a path")
	}
}

func TestPathOkLooksAtItsLengthAlone(t *testing.T) {
	whole := []string{"a", "b", "..", "c", "d", "e"}
	if !impl.PathOk(whole[:2]) {
		t.Error("what lies behind the length was read")
	}
}

func TestQuoteOfEachByte(t *testing.T) {
	const digits = "0123456789ABCDEF"
	const stay = "abcdefghijklmnopqrstuvwxyzABCDEFGHIJKLMNOPQRSTUVWXYZ0123456789-._~"
	for c := 0; c < 256; c++ {
		one := string([]byte{byte(c)})
		want := "%" + digits[c/16:c/16+1] + digits[c%16:c%16+1]
		if strings.Contains(stay, one) {
			want = one
		}
		if x := impl.Quote(one); x != want {
			t.Errorf("Quote(%q) is %q", one, x)
		}
		if x := impl.Quote("a" + one + "/" + one); x != "a"+want+"%2F"+want {
			t.Errorf("Quote of %q in the middle and at the end is %q", one, x)
		}
	}
}

func TestQuote(t *testing.T) {
	for s, want := range map[string]string{
		"":                      "",
		"a b":                   "a%20b",
		"..":                    "..",
		"%41":                   "%2541",
		"\u00e9":                "%C3%A9",
		"\u20ac":                "%E2%82%AC",
		"\xff\xc3A\x80":         "%FF%C3A%80",
		"\x00\r\n\t":            "%00%0D%0A%09",
		"a+b&c=d?e#f":           "a%2Bb%26c%3Dd%3Fe%23f",
		strings.Repeat(":", 99): strings.Repeat("%3A", 99),
	} {
		if x := impl.Quote(s); x != want {
			t.Errorf("Quote(%q) is %q", s, x)
		}
	}
}

func TestTextsComeBackUnquoted(t *testing.T) {
	for a := 0; a < 256; a++ {
		for b := 0; b < 256; b++ {
			s := string([]byte{byte(a), byte(b), byte(a)})
			if x, ok := impl.Unquote(impl.Quote(s)); !ok || x != s {
				t.Fatalf("%q came back as %q, %v", s, x, ok)
			}
		}
	}
}

func TestUnquoteTakes(t *testing.T) {
	for s, want := range map[string]string{
		"":             "",
		"a b/c":        "a b/c",
		"%2f%2F":       "//",
		"%aB%Ab%ab%AB": "\xab\xab\xab\xab",
		"%00":          "\x00",
		"%fF":          "\xff",
		"%2541":        "%41",
		"%25%34%31":    "%41",
		"a%20":         "a ",
		"%20a":         " a",
		"\xff%41\xc3":  "\xffA\xc3",
		"\u00e9%41":    "\u00e9A",
		"%C3%A9":       "\u00e9",
		"%411":         "A1",
	} {
		if x, ok := impl.Unquote(s); !ok || x != want {
			t.Errorf("Unquote(%q) is %q, %v", s, x, ok)
		}
	}
}

func TestUnquoteRefuses(t *testing.T) {
	for _, s := range []string{"%", "a%", "%%", "%%%", "%4", "a%4", "%41%", "%41%4", "%g1", "%1g", "%4 1", "%-1", "%+1", "% 1", "%1 ", "%x1", "%0x41", "%\xff1", "%1\xff", "%\u0661", "%%41", "%4%41", "abc%zzdef"} {
		if x, ok := impl.Unquote(s); ok || x != "" {
			t.Errorf("Unquote(%q) is %q, %v", s, x, ok)
		}
	}
}

func TestUnquoteOfEachDigit(t *testing.T) {
	value := func(c int) int { return strings.IndexByte("0123456789abcdef", strings.ToLower(string(rune(c)))[0]) }
	for a := 0; a < 128; a++ {
		for b := 0; b < 128; b++ {
			s := "x%" + string(rune(a)) + string(rune(b))
			is := value(a) >= 0 && value(b) >= 0
			x, ok := impl.Unquote(s)
			if ok != is || !is && x != "" || is && x != "x"+string([]byte{byte(16*value(a) + value(b))}) {
				t.Fatalf("Unquote(%q) is %q, %v", s, x, ok)
			}
		}
	}
}

func TestPathText(t *testing.T) {
	for want, p := range map[string][]string{
		"/":                nil,
		"/a":               {"a"},
		"/a/b":             {"a", "b"},
		"/1/2/3/4":         {"1", "2", "3", "4"},
		"/a%20b/~x/%25":    {"a b", "~x", "%"},
		"/.../.a/a.":       {"...", ".a", "a."},
		"/eightby8":        {"eightby8"},
		"/%20/%21/%22/%23": {" ", "!", "\"", "#"},
		"/%252F":           {"%2F"},
	} {
		if x := impl.PathText(p); x != want {
			t.Errorf("PathText(%q) is %q", p, x)
		}
	}
	for _, p := range [][]string{{""}, {"a", ""}, {"."}, {".."}, {"a", "..", "b"}, {"a/b"}, {"\n"}, {"\xff"}, {"ninebytes"}, {"1", "2", "3", "4", "5"}} {
		if x := impl.PathText(p); x != "" {
			t.Errorf("PathText(%q) is %q", p, x)
		}
	}
}

func TestPathsComeBackOfTheirText(t *testing.T) {
	try := func(p ...string) {
		t.Helper()
		s := impl.PathText(p)
		for _, form := range []string{s, s + "/.", "/." + s, "/x/.." + s, s + "/x/.."} {
			form = strings.ReplaceAll(form, "//", "/")
			if x, ok := impl.ParsePath(form); !ok || !slices.Equal(x, p) {
				t.Fatalf("%q came back of %q as %q, %v", p, form, x, ok)
			}
		}
		if x, ok := impl.ParsePath(s + "/"); len(p) > 0 && (!ok || !slices.Equal(x, p)) {
			t.Fatalf("%q came back of %q as %q, %v", p, s+"/", x, ok)
		}
	}
	try()
	for a := 32; a <= 126; a++ {
		for b := 32; b <= 126; b++ {
			if a == '/' || b == '/' || a == '.' && b == '.' {
				continue
			}
			two := string([]byte{byte(a), byte(b)})
			try(two)
			try("a", two, two+two, "b")
			try("..."+two, "eightby8")
		}
	}
}

func TestParsePathTakes(t *testing.T) {
	for s, want := range map[string][]string{
		"/":                          {},
		"/.":                         {},
		"/./":                        {},
		"/./.":                       {},
		"/a":                         {"a"},
		"/a/":                        {"a"},
		"/a/b c":                     {"a", "b c"},
		"/a/b%20c":                   {"a", "b c"},
		"/a/./b":                     {"a", "b"},
		"/a/b/.":                     {"a", "b"},
		"/a/b/./":                    {"a", "b"},
		"/./a":                       {"a"},
		"/a/..":                      {},
		"/a/../":                     {},
		"/a/b/..":                    {"a"},
		"/a/b/../":                   {"a"},
		"/a/../b":                    {"b"},
		"/a/./../b":                  {"b"},
		"/a/./b/../c":                {"a", "c"},
		"/a/b/../../c":               {"c"},
		"/a/b/../../c/..":            {},
		"/a/%2E/b":                   {"a", "b"},
		"/a/%2e%2E/b":                {"b"},
		"/a/.%2E":                    {},
		"/a/...":                     {"a", "..."},
		"/...":                       {"..."},
		"/%2E%2E%2E":                 {"..."},
		"/.a/a.":                     {".a", "a."},
		"/%41%2D":                    {"A-"},
		"/%252F":                     {"%2F"},
		"/%2541":                     {"%41"},
		"/1/2/3/4":                   {"1", "2", "3", "4"},
		"/1/2/3/4/":                  {"1", "2", "3", "4"},
		"/1/2/3/4/.":                 {"1", "2", "3", "4"},
		"/1/2/3/4/5/..":              {"1", "2", "3", "4"},
		"/1/2/3/4/5/6/../..":         {"1", "2", "3", "4"},
		"/1/2/3/4/5/../6/..":         {"1", "2", "3", "4"},
		"/1/../2/3/4/5":              {"2", "3", "4", "5"},
		"/eightby8":                  {"eightby8"},
		"/%65%69%67%68%74%62%79%38":  {"eightby8"},
		"/ninebytes/..":              {},
		"/a/%2F/..":                  {"a"},
		"/a/%00/..":                  {"a"},
		strings.Repeat("/a/..", 100): {},
	} {
		if p, ok := impl.ParsePath(s); !ok || !slices.Equal(p, want) {
			t.Errorf("ParsePath(%q) is %q, %v", s, p, ok)
		}
	}
}

func TestParsePathRefuses(t *testing.T) {
	for _, s := range []string{
		"", "a", "a/b", " /a", ".", "..", "./a", "%2Fa", "\\a",
		"//", "///", "//a", "/a//", "/a//b", "/.//", "/a/..//", "/a//..",
		"/..", "/../", "/../a", "/./..", "/a/../..", "/a/../../b", "/%2E%2E", "/%2e./a", "/a/..%2F",
		"/%", "/%4", "/%4g", "/a%", "/%/..", "/a/%zz/..", "/a/%%41",
		"/%2F", "/a%2Fb", "/a/%2f", "/%00", "/%1F", "/%7F", "/%80", "/%FF", "/\x1f", "/\x7f", "/\xff", "/\u00e9",
		"/ninebytes", "/a/ninebytes", "/%6E%69%6E%65%62%79%74%65%73",
		"/1/2/3/4/5", "/1/2/3/4/5/", "/1/2/3/4/5/6/..", "/1/2/../3/4/5/6",
	} {
		if p, ok := impl.ParsePath(s); ok || len(p) != 0 {
			t.Errorf("ParsePath(%q) is %q, %v", s, p, ok)
		}
	}
}

func TestParsePathHandsOutNoMore(t *testing.T) {
	p, _ := impl.ParsePath("/a/b/c/../..")
	for _, s := range p[len(p):cap(p)] {
		if s != "" {
			t.Errorf("%q lies behind what is answered", s)
		}
	}
}

func TestUnderAndSamePath(t *testing.T) {
	for _, x := range []struct {
		p, head     []string
		under, same bool
	}{
		{nil, nil, false, true},
		{nil, []string{}, false, true},
		{[]string{}, nil, false, true},
		{[]string{"a"}, nil, true, false},
		{nil, []string{"a"}, false, false},
		{[]string{"a"}, []string{"a"}, false, true},
		{[]string{"a", "b"}, []string{"a"}, true, false},
		{[]string{"a", "b", "c", "d"}, []string{"a"}, true, false},
		{[]string{"a", "b", "c", "d"}, []string{"a", "b", "c"}, true, false},
		{[]string{"a", "b", "c", "d"}, []string{"a", "b", "c", "d"}, false, true},
		{[]string{"a"}, []string{"a", "b"}, false, false},
		{[]string{"a", "b"}, []string{"b"}, false, false},
		{[]string{"a", "b", "c"}, []string{"a", "c"}, false, false},
		{[]string{"a", "b", "c"}, []string{"b", "b"}, false, false},
		{[]string{"ab"}, []string{"a"}, false, false},
		{[]string{"ab", "c"}, []string{"a"}, false, false},
		{[]string{"a", "b"}, []string{"a", "c"}, false, false},
		{[]string{"a", "b"}, []string{"ab"}, false, false},
		{[]string{"A"}, []string{"a"}, false, false},
	} {
		if impl.Under(x.p, x.head) != x.under {
			t.Errorf("Under(%q, %q) is not %v", x.p, x.head, x.under)
		}
		if impl.SamePath(x.p, x.head) != x.same {
			t.Errorf("SamePath(%q, %q) is not %v", x.p, x.head, x.same)
		}
	}
}

func TestUnderLooksAtItsLengthAlone(t *testing.T) {
	whole := []string{"a", "b", "c"}
	if impl.Under(whole[:1], whole[:2]) || impl.SamePath(whole[:1], whole[:2]) {
		t.Error("what lies behind the length was read")
	}
}

func TestPathsLeaveTheirArguments(t *testing.T) {
	whole := []string{"a b", "c", "d", "e", "f"}
	kept := slices.Clone(whole)
	impl.PathOk(whole[:2])
	impl.PathText(whole[:2])
	impl.Under(whole[:3], whole[:2])
	impl.SamePath(whole[:3], whole[:2])
	if !slices.Equal(whole, kept) {
		t.Errorf("an argument was written into: %q", whole)
	}
}
