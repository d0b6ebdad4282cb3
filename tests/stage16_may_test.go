package tests

import (
	"cmp"
	"go/ast"
	"math"
	"math/rand/v2"
	"slices"
	"strings"
	"testing"

	"loop.example/g00452/impl"
)

// allMethods has those that turn something first.
func allMethods() []string {
	return []string{"PUT", "MKCOL", "DELETE", "COPY", "MOVE", "PROPPATCH", "LOCK", "UNLOCK", "GET", "HEAD", "OPTIONS", "PROPFIND"}
}

func wrongMethods() []string {
	l := []string{"", " ", "POST", "PATCH", "TRACE", "CONNECT", "SEARCH", "MKCALENDAR", "PUTT", "PU", "GET ", " GET", "GETHEAD", "PROP", "*", "GET\x00", "\xff", strings.Repeat("GET", 999)}
	for _, m := range allMethods() {
		l = append(l, strings.ToLower(m), m[:1]+strings.ToLower(m[1:]), m+"X", m[1:])
	}
	return l
}

// oneReq is of a text as `COPY /a/b depth=0 if=(<5>_<6>)`: Method, Path, and
// heads, with `_` for each blank of a Val.
func oneReq(text string) impl.Req {
	parts := strings.Split(text, " ")
	r := impl.Req{Method: parts[0], Path: parts[1]}
	for _, h := range parts[2:] {
		name, val, _ := strings.Cut(h, "=")
		r.Heads = append(r.Heads, impl.Head{Name: name, Val: strings.ReplaceAll(val, "_", " ")})
	}
	return r
}

// toHeadOf has a `destination` of those that need one.
func toHeadOf(method string) string {
	if method == "COPY" || method == "MOVE" {
		return " destination=/q"
	}
	return ""
}

func sameAsk(a impl.Ask, b impl.Ask) bool {
	return slices.Equal(a.Path, b.Path) && slices.Equal(a.To, b.To) && a.Deep == b.Deep && a.Over == b.Over && slices.Equal(a.Tokens, b.Tokens) && a.Code == b.Code
}

func wantAsk(t *testing.T, s impl.Srv, r impl.Req, want impl.Ask) {
	t.Helper()
	kept, keptHeads := deepSrv(s), slices.Clone(r.Heads)
	if got := impl.AskOf(s, r); !sameAsk(got, want) {
		t.Errorf("AskOf of %+v is %+v, not %+v", r, got, want)
	}
	if got, _ := askByWords(s, r); !sameAsk(got, want) {
		t.Errorf("by the words, %+v is %+v, not %+v", r, got, want)
	}
	if !sameSrvByParts(s, kept) || !slices.Equal(r.Heads, keptHeads) {
		t.Errorf("AskOf turns its arguments: %+v, %+v", s, r)
	}
}

// wantAskCode is of each part, but for the Code, as by the words.
func wantAskCode(t *testing.T, s impl.Srv, text string, code int) {
	t.Helper()
	r := oneReq(text)
	want, _ := askByWords(s, r)
	want.Code = code
	wantAsk(t, s, r, want)
}

// headsByWords has the first of each name.
func headsByWords(r impl.Req) map[string]string {
	heads := map[string]string{}
	for _, h := range slices.Backward(r.Heads) {
		heads[h.Name] = h.Val
	}
	return heads
}

func depthByWords(r impl.Req, most int) int {
	val, told := headsByWords(r)["depth"]
	switch {
	case !told:
		return most
	case strings.EqualFold(val, "infinity"):
		return 2
	case val == "0" || val == "1":
		return int(val[0] - '0')
	}
	return -1
}

// pathTurnsByWords has the paths that are turned by themselves, and those that
// are with all Under them.
func pathTurnsByWords(s impl.Srv, method string, a impl.Ask) (alone [][]string, whole [][]string) {
	above := func(p []string) []string { return p[:max(0, len(p)-1)] }
	there := len(a.Path) == 0 || slices.ContainsFunc(s.T, func(r impl.Res) bool { return keyOf(r.Path) == keyOf(a.Path) })
	if method == "PUT" || method == "MKCOL" || method == "PROPPATCH" {
		alone = append(alone, a.Path)
	}
	if method == "PUT" && !there || method == "MKCOL" || method == "DELETE" || method == "MOVE" {
		alone = append(alone, above(a.Path))
	}
	if method == "DELETE" || method == "MOVE" {
		whole = append(whole, a.Path)
	}
	if method == "COPY" || method == "MOVE" {
		alone, whole = append(alone, above(a.To)), append(whole, a.To)
	}
	return alone, whole
}

func mayChangeByWords(s impl.Srv, method string, a impl.Ask) bool {
	alone, whole := pathTurnsByWords(s, method, a)
	bars := func(deep bool) func(p []string) bool {
		return func(p []string) bool { return !mayByWords(s.L, p, deep, a.Tokens) }
	}
	return !slices.ContainsFunc(alone, bars(false)) && !slices.ContainsFunc(whole, bars(true))
}

// matchByWords is of a head that is there.
func matchByWords(val string, there bool, tag string) bool {
	l, _ := tagsByForm(val)
	return there && (val == "*" || slices.Contains(l, tag))
}

// askReasons has all that the document names, in its order.
func askReasons(s impl.Srv, r impl.Req, a impl.Ask) []reason {
	heads, depth, m := headsByWords(r), depthByWords(r, 2), r.Method
	has := func(name string) bool { _, ok := heads[name]; return ok }
	_, isPath := impl.ParsePath(r.Path)
	_, isTo := impl.ParsePath(heads["destination"])
	lists, isIf := ifByForm(heads["if"])
	tag, there := "", len(a.Path) == 0
	if there {
		tag = `"v0"`
	}
	for _, x := range s.T {
		if keyOf(x.Path) == keyOf(a.Path) {
			tag, there = impl.TagText(x.Ver), true
		}
	}
	over := []int{}
	for _, x := range s.L {
		if coversByWords(x, a.Path) {
			over = append(over, x.Token)
		}
	}
	same := 412
	if m == "GET" || m == "HEAD" {
		same = 304
	}
	return []reason{
		{400, !isPath},
		{501, !slices.Contains(allMethods(), m)},
		{400, (m == "COPY" || m == "MOVE") && !isTo},
		{400, depth == -1 || depth == 1 && m != "PROPFIND" || depth == 0 && (m == "MOVE" || m == "DELETE")},
		{400, has("if") && !isIf},
		{412, has("if") && !evalByWords(lists, over, tag)},
		{412, has("if-match") && !matchByWords(heads["if-match"], there, tag)},
		{same, has("if-none-match") && matchByWords(heads["if-none-match"], there, tag)},
		{423, !mayChangeByWords(s, m, a)},
	}
}

// askByWords gives how many reasons hold, too.
func askByWords(s impl.Srv, r impl.Req) (impl.Ask, int) {
	heads := headsByWords(r)
	lists, _ := ifByForm(heads["if"])
	a := impl.Ask{Deep: depthByWords(r, 2) == 2, Over: heads["overwrite"] != "F", Tokens: submittedByWords(lists)}
	a.Path, _ = impl.ParsePath(r.Path)
	if r.Method == "COPY" || r.Method == "MOVE" {
		a.To, _ = impl.ParsePath(heads["destination"])
	}
	all := 0
	for _, x := range askReasons(s, r, a) {
		if x.holds {
			all++
			a.Code = cmp.Or(a.Code, x.code)
		}
	}
	if a.Code == 400 || a.Code == 501 {
		a.Tokens = nil
	}
	if _, ok := impl.ParsePath(r.Path); !ok || a.Code == 501 {
		a.To = nil
	}
	return a, all
}

func TestDepthOf(t *testing.T) {
	mosts := []int{0, 1, 2, 3, 7, -1, -2, 99, math.MaxInt, math.MinInt}
	want := func(want int, heads ...impl.Head) {
		t.Helper()
		for _, most := range mosts {
			for _, r := range []impl.Req{{Heads: heads}, {Method: "MOVE", Path: "/a", Heads: heads, Body: "1"}, {Method: "x", Path: "\xff", Heads: append([]impl.Head{{Name: "depthx", Val: "9"}}, heads...)}} {
				kept := slices.Clone(r.Heads)
				if got := impl.DepthOf(r, most); got != want {
					t.Errorf("DepthOf(%+v, %d) is %d, not %d", r, most, got, want)
				}
				if !slices.Equal(r.Heads, kept) {
					t.Errorf("DepthOf turns its argument: %+v", r)
				}
			}
		}
	}
	for val, n := range map[string]int{"0": 0, "1": 1, "infinity": 2, "Infinity": 2, "INFINITY": 2, "iNfInItY": 2, "infinitY": 2} {
		want(n, impl.Head{Name: "depth", Val: val})
	}
	for _, val := range []string{"", " ", "\t", "2", "3", "9", "00", "01", "10", "11", "000", "-0", "-1", "+0", "+1", "1.", "0.0", "1e0", "0x0", " 0", "0 ", " 1", "1 ", "0\t", "0\x00", "0\n", "\x000", "inf", "infinit", "infinityy", "xinfinity", "infinity ", " infinity", "infinity\n", "in finity", "infinite", "1,noroot", "0,1", "infinity,noroot", "\u0130nfinity", "\u0131nfinity", "\u0660", "\uff10", "\u0661", "O", "l", "zero", "one", "T", "*", "\xff", strings.Repeat("0", 999)} {
		want(-1, impl.Head{Name: "depth", Val: val})
	}
	// The first of two counts, whether it is read or not.
	for _, other := range []string{"0", "1", "infinity", "2", ""} {
		want(0, impl.Head{Name: "depth", Val: "0"}, impl.Head{Name: "depth", Val: other})
		want(2, impl.Head{Name: "a", Val: other}, impl.Head{Name: "depth", Val: "infinity"}, impl.Head{Name: "depth", Val: other})
		want(-1, impl.Head{Name: "depth", Val: "x"}, impl.Head{Name: "depth", Val: other})
	}
	// No head of the name: most, whatever it is.
	for _, heads := range [][]impl.Head{nil, {}, {{Name: "Depth", Val: "0"}}, {{Name: "DEPTH", Val: "1"}}, {{Name: "depthh", Val: "0"}}, {{Name: "dept", Val: "0"}}, {{Name: " depth", Val: "0"}}, {{Name: "depth ", Val: "0"}}, {{Name: "", Val: "0"}}, {{Name: "x-depth", Val: "infinity"}}, {{Name: "0", Val: "depth"}}, {{Name: "overwrite", Val: "0"}, {Name: "if", Val: "1"}}} {
		for _, most := range mosts {
			if got := impl.DepthOf(impl.Req{Heads: heads}, most); got != most {
				t.Errorf("DepthOf of %+v is %d, not %d", heads, got, most)
			}
		}
	}
	room := []impl.Head{{Name: "a"}, {Name: "depth", Val: "0"}}
	if impl.DepthOf(impl.Req{Heads: room[:1]}, 7) != 7 || impl.DepthOf(impl.Req{Heads: room}, 7) != 0 {
		t.Error("what lies behind the heads is looked at")
	}
}

func TestDepthOfEachByte(t *testing.T) {
	for c := range 256 {
		for d := range 257 {
			val := string([]byte{byte(c)})
			if d < 256 {
				val += string([]byte{byte(d)})
			}
			r := impl.Req{Heads: []impl.Head{{Name: "depth", Val: val}}}
			if got := impl.DepthOf(r, 2); got != depthByWords(r, 2) || got == 2 || got >= 0 && len(val) > 1 {
				t.Errorf("DepthOf of %q is %d", val, got)
			}
		}
		for at := range "infinity" {
			r := impl.Req{Heads: []impl.Head{{Name: "depth", Val: "infinity"[:at] + string([]byte{byte(c)}) + "infinity"[at+1:]}}}
			want := -1
			if byte(c)|32 == "infinity"[at] {
				want = 2
			}
			if got := impl.DepthOf(r, 7); got != want {
				t.Errorf("DepthOf of %q is %d", r.Heads[0].Val, got)
			}
		}
	}
}

func TestAsksThatAreLetPass(t *testing.T) {
	for _, s := range []impl.Srv{impl.SrvNew(), someSrv(), withL(""), {}} {
		for _, m := range allMethods() {
			for _, p := range []string{"/", "/q", "/q/r", "/a-"} {
				if len(s.L) > 0 && p != "/q" && p != "/q/r" {
					continue
				}
				for _, heads := range []string{"", " depth=infinity", " overwrite=F", " x=depth_0", " Depth=9", " If=(", " If-Match=x"} {
					wantAskCode(t, s, m+" "+p+toHeadOf(m)+heads, 0)
				}
			}
		}
	}
}

func TestAsksOfNoPath(t *testing.T) {
	for _, p := range []string{"", "a", "a/b", "x", ".", "..", "*", "http://h/a", "%2Fa", "//", "///", "/a//b", "//a", "/a//", "/..", "/../a", "/a/../..", "/.//", "/%", "/%2", "/%zz", "/a%2Fb", "/%00", "/%7F", "/%ff", "/\x00", "/\xff", "/ninebytes", "/a/ninebytes", "/1/2/3/4/5", "/a/b/c/d/e/", "/%2E%2E", "\\a", "\u2215a"} {
		for _, s := range []impl.Srv{impl.SrvNew(), someSrv(), {}} {
			for _, m := range slices.Concat(allMethods(), []string{"TRACE", "", "put"}) {
				for _, r := range []impl.Req{
					{Method: m, Path: p},
					{Method: m, Path: p, Heads: []impl.Head{{Name: "destination", Val: "/q"}, {Name: "if", Val: "(<5>)"}}},
					{Method: m, Path: p, Heads: []impl.Head{{Name: "if", Val: "(<5> Not <6>) (<7>)"}, {Name: "destination", Val: "/a"}, {Name: "if-match", Val: "*"}}},
				} {
					wantAsk(t, s, r, impl.Ask{Deep: true, Over: true, Code: 400})
				}
				r := impl.Req{Method: m, Path: p, Heads: []impl.Head{{Name: "depth", Val: "0"}, {Name: "overwrite", Val: "F"}, {Name: "destination", Val: "/q"}, {Name: "if", Val: "(<5>)"}}}
				wantAsk(t, s, r, impl.Ask{Code: 400})
			}
		}
	}
}

func TestAsksOfNoMethod(t *testing.T) {
	for _, m := range wrongMethods() {
		for _, s := range []impl.Srv{impl.SrvNew(), someSrv(), {}} {
			wantAsk(t, s, impl.Req{Method: m, Path: "/"}, impl.Ask{Deep: true, Over: true, Code: 501})
			// Path is as it is read, To and Tokens are empty.
			heads := oneReq("M /a destination=/q if=(<5>) depth=infinity overwrite=F").Heads
			wantAsk(t, s, impl.Req{Method: m, Path: "/a/./b", Heads: heads}, impl.Ask{Path: path("a/b"), Deep: true, Code: 501})
			heads = oneReq("M /a destination=/q if=(<5>) depth=0").Heads
			wantAsk(t, s, impl.Req{Method: m, Path: "/a/b/..", Heads: heads}, impl.Ask{Path: path("a"), Over: true, Code: 501})
			// Ahead of all but a Path that is none.
			for _, heads := range []string{"depth=2", "depth=1", "if=", "if=(", "if=(<77>)", `if-match="x"`, "if-none-match=*", "destination=x"} {
				r := oneReq("M /a/b " + heads)
				r.Method = m
				wantAsk(t, s, r, impl.Ask{Path: path("a/b"), Deep: !strings.HasPrefix(heads, "depth"), Over: true, Code: 501})
			}
			wantAsk(t, s, impl.Req{Method: m, Path: "x"}, impl.Ask{Deep: true, Over: true, Code: 400})
		}
	}
}

func TestAsksOfNoTo(t *testing.T) {
	s := withL("")
	for _, m := range []string{"COPY", "MOVE"} {
		wantAsk(t, s, oneReq(m+" /a/b if=(<5>)"), impl.Ask{Path: path("a/b"), Deep: true, Over: true, Code: 400})
		for _, heads := range []string{"destination=", "destination=x", "destination=q/r", "destination=/..", "destination=//", "destination=/a//b", "destination=/ninebytes", "destination=/1/2/3/4/5", "destination=/%", "destination=http://h/a", "destination=*", "Destination=/q", "destinatio=/q", "destination-=/q", "to=/q", "destination=x destination=/q"} {
			wantAskCode(t, s, m+" /a "+heads, 400)
		}
		for _, to := range []string{"", "a", "q", "q/r", "a/b/c/d", "1/2/3/4"} {
			wantAsk(t, s, oneReq(m+" /a/b destination=/"+to), impl.Ask{Path: path("a/b"), To: path(to), Deep: true, Over: true})
		}
		wantAsk(t, s, oneReq(m+" /a destination=/q/./r/../s%20t/"), impl.Ask{Path: path("a"), To: path("q/s t"), Deep: true, Over: true})
		wantAsk(t, s, oneReq(m+" /a destination=/q destination=x"), impl.Ask{Path: path("a"), To: path("q"), Deep: true, Over: true})
		// To stays as it is read, whatever is refused behind it.
		for heads, code := range map[string]int{"depth=2": 400, "depth=1": 400, "if=": 400, "if=(<77>)": 412, `if-match="v7"`: 412, "if-none-match=*": 412} {
			r := oneReq(m + " /a/b destination=/q/r " + heads)
			got := impl.AskOf(s, r)
			if got.Code != code || !slices.Equal(got.To, path("q/r")) || !slices.Equal(got.Path, path("a/b")) {
				t.Errorf("AskOf of %+v is %+v", r, got)
			}
			wantAskCode(t, s, m+" /a/b destination=/q/r "+heads, code)
		}
	}
	// Of others it is not looked at.
	for _, m := range allMethods() {
		if toHeadOf(m) == "" {
			for _, to := range []string{"/q", "", "x", "//"} {
				wantAsk(t, s, oneReq(m+" /a destination="+to), impl.Ask{Path: path("a"), Deep: true, Over: true})
			}
		}
	}
}

func TestAsksOfDepths(t *testing.T) {
	s := withL("")
	codes := func(m string, val string) int {
		switch val {
		case "infinity", "Infinity", "INFINITY":
			return 0
		case "0":
			if m == "MOVE" || m == "DELETE" {
				return 400
			}
			return 0
		case "1":
			if m == "PROPFIND" {
				return 0
			}
		}
		return 400
	}
	for _, m := range allMethods() {
		for _, p := range []string{"/", "/a", "/a/b", "/q"} {
			for _, val := range []string{"0", "1", "2", "infinity", "Infinity", "INFINITY", "", "00", "01", "-1", "3", "inf", "x", "1,noroot"} {
				text := m + " " + p + toHeadOf(m) + " depth=" + val
				wantAskCode(t, s, text, codes(m, val))
				wantAskCode(t, s, text+" depth=infinity", codes(m, val))
				if got := impl.AskOf(s, oneReq(text)); got.Deep != strings.EqualFold(val, "infinity") {
					t.Errorf("%s: Deep is %v", text, got.Deep)
				}
			}
			if !impl.AskOf(s, oneReq(m+" "+p+toHeadOf(m))).Deep {
				t.Errorf("%s %s is not Deep", m, p)
			}
		}
	}
}

func TestAsksOfIf(t *testing.T) {
	// a/b is covered by 5 and, as it is Shared, by 7; b is not covered.
	s := withL("5:a*+@10 7:a/b+@20 6:ab@30", 5, 6, 7)
	for _, m := range []string{"GET", "HEAD", "OPTIONS", "PROPFIND", "LOCK", "UNLOCK"} {
		// One that is not read, an empty one too.
		for _, val := range []string{"", "x", "5", "<5>", "(", "()", "(<0>)", "(<5>", "(<10000>)", "(<5>)_", "_(<5>)", "(<5>__<6>)", "(Not)", "(not_<6>)", `("v2")`, `(["v2"])x`, "(<1>)(<2>)(<3>)(<4>)(<5>)", "(<1>_<2>_<3>_<4>_<5>)", "*", `"v2"`} {
			wantAskCode(t, s, m+" /a/b if="+val, 400)
			wantAskCode(t, s, m+" /a/b if="+val+" if=(<5>)", 400)
			wantAskCode(t, s, m+" /q if="+val, 400)
		}
		for _, x := range []struct {
			p    string
			val  string
			code int
		}{
			// By a token: that of any lock that covers it.
			{"/a/b", "(<5>)", 0}, {"/a/b", "(<7>)", 0}, {"/a/b", "(<5>_<7>)", 0}, {"/a/b", "(<6>)", 412}, {"/a/b", "(<5>_<6>)", 412}, {"/a/b", "(<6>)(<5>)", 0}, {"/a/b", "(Not_<5>)", 412}, {"/a/b", "(Not_<6>)", 0}, {"/a/b", "(Not_<5>)(Not_<6>)", 0}, {"/a/b", "(<9999>)", 412},
			{"/a", "(<5>)", 0}, {"/a", "(<7>)", 412}, {"/a/c/d", "(<5>)", 0}, {"/ab", "(<6>)", 0}, {"/ab", "(<5>)", 412}, {"/ab/b", "(<6>)", 412}, {"/b", "(<5>)", 412}, {"/b", "(Not_<5>_Not_<6>_Not_<7>)", 0},
			// Of what is Under a lock that is Deep, though nothing is there.
			{"/a/q", "(<5>)", 0}, {"/a/q/r", "(<7>)", 412}, {"/q", "(<5>)", 412}, {"/q", "(Not_<5>)", 0},
			// By a mark.
			{"/a/b", `(["v2"])`, 0}, {"/a/b", `(["v1"])`, 412}, {"/a/b", `(["v22"])`, 412}, {"/a/b", `(["v0"])`, 412}, {"/a/b", `(Not_["v2"])`, 412}, {"/a/b", `(Not_["v1"])`, 0}, {"/a", `(["v1"])`, 0}, {"/a-", `(["v0"])`, 0}, {"/a/cd", `(["v99999"])`, 0}, {"/b", `(["v8"])`, 0}, {"/b", `(["v8"]_<6>)`, 412}, {"/a/b", `(["v2"]_<7>)`, 0}, {"/a/b", `(["v1"]_<7>)(["v2"]_<5>)`, 0}, {"/a/b", `(["*"])`, 412},
			// Where nothing is there is no mark: none is named, so none holds.
			{"/q", `(["v0"])`, 412}, {"/q", `(["v2"])`, 412}, {"/q", `(Not_["v0"])`, 0}, {"/a/q", `(Not_["v1"]_<5>)`, 0}, {"/a/q", `(["v1"]_<5>)`, 412},
			// The root.
			{"/", `(["v0"])`, 0}, {"/", `(["v1"])`, 412}, {"/", `(Not_["v0"])`, 412}, {"/", "(<5>)", 412}, {"/", "(Not_<5>)", 0}, {"/.", `(["v0"])`, 0}, {"/a/..", `(["v0"]_Not_<6>)`, 0},
		} {
			wantAskCode(t, s, m+" "+x.p+" if="+x.val, x.code)
			// The first head counts.
			wantAskCode(t, s, m+" "+x.p+" x=y if="+x.val+" if=(Not_<1>) if=(<1>)", x.code)
		}
	}
	// A lock of the root, Deep or not.
	wantAskCode(t, withL("5:@9", 5), "GET / if=(<5>)", 0)
	wantAskCode(t, withL("5:@9", 5), "GET /a if=(<5>)", 412)
	wantAskCode(t, withL("5:*@9", 5), "GET /a/q/r if=(<5>)", 0)
	// Of COPY and MOVE Path is asked, not To.
	for _, m := range []string{"COPY", "MOVE"} {
		wantAskCode(t, s, m+` /b destination=/q if=(["v8"])`, 0)
		wantAskCode(t, s, m+` /b destination=/q if=(["v2"])`, 412)
		wantAskCode(t, s, m+" /b destination=/ab if=(<6>)", 412)
		wantAskCode(t, s, m+" /b destination=/ab if=(<6>)(Not_<6>)", 0)
	}
}

func TestAsksOfMatches(t *testing.T) {
	s := withL("")
	for _, m := range allMethods() {
		same := 412
		if m == "GET" || m == "HEAD" {
			same = 304
		}
		for _, x := range []struct {
			p   string
			val string
			is  bool
		}{
			{"/a/b", `"v2"`, true}, {"/a/b", "*", true}, {"/a/b", `"v1"`, false}, {"/a/b", `"v22"`, false}, {"/a/b", `"v"`, false}, {"/a/b", `"v1",_"v2"`, true}, {"/a/b", `"v2","v1"`, true}, {"/a/b", `"v1","v3"`, false}, {"/a/b", "", false}, {"/a/b", "v2", false}, {"/a/b", `"v2`, false}, {"/a/b", `"v2",`, false}, {"/a/b", `"v2",*`, false}, {"/a/b", `W/"v2"`, false}, {"/a/b", `"1","2","3","4","v2"`, true}, {"/a/b", `"1","2","3","4","5","v2"`, false}, {"/a/b", "**", false},
			{"/a", `"v1"`, true}, {"/a", `"v2"`, false}, {"/a-", `"v0"`, true}, {"/a/cd", `"v99999"`, true},
			// Where nothing is.
			{"/q", `"v2"`, false}, {"/q", "*", false}, {"/q", `"v0"`, false}, {"/q", `""`, false}, {"/q", "", false}, {"/a/q", "*", false}, {"/q/r/s", "*", false},
			// The root.
			{"/", `"v0"`, true}, {"/", "*", true}, {"/", `"v1"`, false}, {"/", "", false},
		} {
			match, none := 412, 0
			if x.is {
				match, none = 0, same
			}
			text := m + " " + x.p + toHeadOf(m)
			wantAskCode(t, s, text+" if-match="+x.val, match)
			wantAskCode(t, s, text+" if-none-match="+x.val, none)
			// The first head counts, and `if-match` ahead of the other.
			wantAskCode(t, s, text+" if-match="+x.val+" if-match=* if-match=x", match)
			wantAskCode(t, s, text+" if-none-match="+x.val+" if-none-match=* if-none-match=x", none)
			wantAskCode(t, s, text+" if-none-match="+x.val+" if-match="+x.val, cmp.Or(match, none))
			wantAskCode(t, s, text+" If-Match=x If-None-Match=*", 0)
		}
	}
}

// A fault is one thing that a request may have wrong, and the methods of which
// it is wrong: of none named, all.
type fault struct {
	code    int
	methods string
	spoil   func(s *impl.Srv, r *impl.Req)
}

func withFaultyHead(name string, val string) func(s *impl.Srv, r *impl.Req) {
	return func(_ *impl.Srv, r *impl.Req) { r.Heads = append(r.Heads, impl.Head{Name: name, Val: val}) }
}

// allFaults are in the order in which they count. The two of one head are
// never of one request.
func allFaults() []fault {
	return []fault{
		{400, "", func(_ *impl.Srv, r *impl.Req) { r.Path = "a/b" }},
		{501, "", func(_ *impl.Srv, r *impl.Req) { r.Method = "TRACE" }},
		{400, "COPY MOVE", func(_ *impl.Srv, r *impl.Req) { r.Heads[0].Name = "x" }},
		{400, "", withFaultyHead("depth", "2")},
		{400, "", withFaultyHead("if", "(")},
		{412, "", withFaultyHead("if", "(<77>)")},
		{412, "", withFaultyHead("if-match", `"v3"`)},
		{304, "GET HEAD", withFaultyHead("if-none-match", `"v2"`)},
		{412, "PUT MKCOL DELETE COPY MOVE PROPPATCH LOCK UNLOCK OPTIONS PROPFIND", withFaultyHead("if-none-match", `"v2"`)},
		{423, "PUT MKCOL DELETE COPY MOVE PROPPATCH", func(s *impl.Srv, _ *impl.Req) { s.L = someLocks("5:*@99") }},
	}
}

func TestWhichCodeComesFirst(t *testing.T) {
	faults, pairs := allFaults(), map[[2]int]int{}
	for of := range 1 << len(faults) {
		if of>>4&3 == 3 {
			continue
		}
		for _, m := range allMethods() {
			s, r, codes := withL("", 5), oneReq(m+" /a/b destination=/q"), []int{}
			for i, x := range faults {
				if of>>i&1 == 1 && (x.methods == "" || slices.Contains(strings.Fields(x.methods), m)) {
					x.spoil(&s, &r)
					codes = append(codes, x.code)
				}
			}
			want, _ := askByWords(s, r)
			want.Code = 0
			if len(codes) > 0 {
				want.Code = codes[0]
			}
			wantAsk(t, s, r, want)
			// The order of the heads is all the same.
			slices.Reverse(r.Heads)
			wantAsk(t, s, r, want)
			if len(codes) == 2 {
				pairs[[2]int(codes)]++
			}
		}
	}
	for _, pair := range [][2]int{{400, 501}, {400, 400}, {400, 412}, {400, 304}, {400, 423}, {501, 400}, {501, 412}, {501, 304}, {501, 423}, {412, 412}, {412, 304}, {412, 423}} {
		if pairs[pair] == 0 {
			t.Errorf("%d and %d are never of one request", pair[0], pair[1])
		}
	}
}

func TestPathsOfAsks(t *testing.T) {
	s := withL("")
	for text, names := range map[string]string{"/": "", "/a": "a", "/a/": "a", "/a/b": "a/b", "/a/b/": "a/b", "/./a": "a", "/a/.": "a", "/a/..": "", "/a/../b": "b", "/a/b/../../c": "c", "/1/2/3/4": "1/2/3/4", "/1/2/3/4/5/..": "1/2/3/4", "/%61%20b": "a b", "/a%2e": "a.", "/ninebytes/..": "", "/a/b/c/d": "a/b/c/d", "/nothing/here": "nothing/here"} {
		for _, m := range allMethods() {
			r := oneReq(m + " " + text + toHeadOf(m))
			want := impl.Ask{Path: path(names), Deep: true, Over: true}
			if toHeadOf(m) != "" {
				want.To = path("q")
			}
			wantAsk(t, s, r, want)
			r.Method = "TRACE"
			wantAsk(t, s, r, impl.Ask{Path: path(names), Deep: true, Over: true, Code: 501})
		}
	}
}

func TestOverOfAsks(t *testing.T) {
	s := withL("")
	for _, m := range allMethods() {
		text := m + " /a" + toHeadOf(m)
		for val, over := range map[string]bool{"F": false, "T": true, "f": true, "t": true, "": true, "FF": true, "F_": true, "_F": true, "false": true, "False": true, "TF": true, "0": true, "\xff": true, "F\x00": true} {
			got := impl.AskOf(s, oneReq(text+" overwrite="+val))
			if got.Over != over || got.Code != 0 {
				t.Errorf("%s with overwrite %q is %+v", text, val, got)
			}
			wantAskCode(t, s, text+" overwrite="+val+" overwrite=F", 0)
			wantAskCode(t, s, text+" overwrite=T overwrite="+val, 0)
			// With a Code, too.
			for heads, code := range map[string]int{"depth=9": 400, "if=(": 400, "if=(<77>)": 412} {
				if got := impl.AskOf(s, oneReq(text+" overwrite="+val+" "+heads)); got.Over != over || got.Code != code {
					t.Errorf("%s with overwrite %q, %s is %+v", text, val, heads, got)
				}
			}
		}
		for _, heads := range []string{"", " Overwrite=F", " overwrit=F", " OVERWRITE=F", " overwritee=F"} {
			if !impl.AskOf(s, oneReq(text+heads)).Over {
				t.Errorf("%s%s is not Over", text, heads)
			}
		}
	}
}

func TestTokensOfAsks(t *testing.T) {
	s := withL("5:a*@10 6:ab@30", 5, 6)
	for _, x := range []struct {
		text   string
		tokens []int
		code   int
	}{
		{"GET /a if=(<5>)", []int{5}, 0}, {"GET /a if=(Not_<6>)", nil, 0}, {"GET /a if=(<5>_Not_<6>)", []int{5}, 0}, {"GET /a if=(<9>)(<5>)_(Not_<5>_<8>)", []int{9, 5, 8}, 0}, {"GET /a if=(<5>_<5>)(<5>)", []int{5, 5, 5}, 0}, {"GET /a if=(Not_<5>)(Not_<6>)", nil, 0}, {`GET /a if=(["v1"])`, nil, 0}, {"GET /a", nil, 0}, {"GET /a If=(<5>)", nil, 0},
		// With 412 and 304.
		{"GET /a if=(<6>)", []int{6}, 412}, {"GET /a if=(<7>_<9>)(<8>_Not_<6>)", []int{7, 9, 8}, 412}, {`GET /a if-match="x" if=(<5>)`, []int{5}, 412}, {"GET /a if-none-match=* if=(<5>)(<1>)", []int{5, 1}, 304}, {"PUT /a if-none-match=* if=(<5>)(<1>)", []int{5, 1}, 412},
		// With 423.
		{"PUT /a/b if=(Not_<6>)", nil, 423}, {"PUT /a/b if=(Not_<6>)(<6>)", []int{6}, 423}, {"MKCOL /ab/q if=(<5>)(Not_<5>)", []int{5}, 423}, {"DELETE /ab if=(<9>_<8>)(<6>_Not_<6>)(Not_<9>)", []int{9, 8, 6}, 0}, {"DELETE /ab if=(<9>_<8>)(Not_<9>)", []int{9, 8}, 423},
		// With 400 and 501 there are none.
		{"GET a if=(<5>)", nil, 400}, {"TRACE /a if=(<5>)", nil, 501}, {"GET /a depth=1 if=(<5>)", nil, 400}, {"COPY /a if=(<5>)", nil, 400}, {"GET /a if=(<5>)x", nil, 400}, {"GET /a if=(<5>", nil, 400}, {"GET /a if= if=(<5>)", nil, 400},
	} {
		got := impl.AskOf(s, oneReq(x.text))
		if !slices.Equal(got.Tokens, x.tokens) || got.Code != x.code {
			t.Errorf("AskOf of %s is %+v", x.text, got)
		}
		wantAskCode(t, s, x.text, x.code)
	}
}

func wantChange(t *testing.T, s impl.Srv, method string, a impl.Ask, want bool) {
	t.Helper()
	kept, keptAsk := deepSrv(s), a
	keptAsk.Path, keptAsk.To, keptAsk.Tokens = slices.Clone(a.Path), slices.Clone(a.To), slices.Clone(a.Tokens)
	// What the document does not name is not looked at.
	for _, x := range []impl.Ask{a, {Path: a.Path, To: a.To, Tokens: a.Tokens, Deep: !a.Deep, Over: !a.Over, Code: 400}} {
		if impl.MayChange(s, method, x) != want {
			t.Errorf("MayChange with %+v, of %s, %+v is %v", s.L, method, x, !want)
		}
		if mayChangeByWords(s, method, x) != want {
			t.Errorf("by the words, with %+v, %s, %+v is not %v", s.L, method, x, want)
		}
	}
	if !sameSrvByParts(s, kept) || !sameAsk(a, keptAsk) {
		t.Errorf("MayChange turns its arguments: %+v, %+v", s, a)
	}
}

// mayTree has things above and below those that are asked for.
func mayTree() []impl.Res {
	return []impl.Res{shelf("m"), shelf("m/s"), shelf("m/s/x"), file("m/s/x/y"), shelf("n"), shelf("n/t"), shelf("n/t/u"), file("n/t/u/w")}
}

func placesOfLocks() []string {
	return []string{"", "m", "m/s", "m/s/x", "m/s/x/y", "m/ss", "m/new", "m/new/x", "n", "n/t", "n/t/u", "n/t/u/w", "n/tt", "n/new", "q", "mm", "s", "x/y"}
}

// A change has the places of which a lock bars it: one that is not Deep, and
// one that is.
type change struct {
	method string
	p      string
	to     string
	flat   []string
	deep   []string
}

func someChanges() []change {
	l := func(text string) []string { return strings.Split(text, " ") }
	all := placesOfLocks()
	return []change{
		{"PUT", "m/s", "", l("m/s"), l(" m m/s")},
		{"PUT", "m/s/x/y", "", l("m/s/x/y"), l(" m m/s m/s/x m/s/x/y")},
		{"PUT", "m/new", "", l("m m/new"), l(" m m/new")},
		{"PUT", "m", "", l("m"), l(" m")},
		{"PUT", "q", "", l(" q"), l(" q")},
		{"PUT", "m/new/x", "", l("m/new m/new/x"), l(" m m/new m/new/x")},
		{"PUT", "", "", l(""), l("")},
		{"MKCOL", "m/s", "", l("m m/s"), l(" m m/s")},
		{"MKCOL", "m/new", "", l("m m/new"), l(" m m/new")},
		{"MKCOL", "m", "", l(" m"), l(" m")},
		{"MKCOL", "q", "n/t", l(" q"), l(" q")},
		{"MKCOL", "", "", l(""), l("")},
		{"PROPPATCH", "m/s", "", l("m/s"), l(" m m/s")},
		{"PROPPATCH", "m/new", "", l("m/new"), l(" m m/new")},
		{"PROPPATCH", "m", "n/t", l("m"), l(" m")},
		{"PROPPATCH", "", "", l(""), l("")},
		{"DELETE", "m/s", "", l("m m/s m/s/x m/s/x/y"), l(" m m/s m/s/x m/s/x/y")},
		{"DELETE", "m/s/x/y", "n/t", l("m/s/x m/s/x/y"), l(" m m/s m/s/x m/s/x/y")},
		{"DELETE", "m/new", "", l("m m/new m/new/x"), l(" m m/new m/new/x")},
		{"DELETE", "m", "", l(" m m/s m/s/x m/s/x/y m/ss m/new m/new/x"), l(" m m/s m/s/x m/s/x/y m/ss m/new m/new/x")},
		{"DELETE", "", "", all, all},
		{"COPY", "m/s", "n/t", l("n n/t n/t/u n/t/u/w"), l(" n n/t n/t/u n/t/u/w")},
		{"COPY", "m/s", "n/new", l("n n/new"), l(" n n/new")},
		{"COPY", "m/s", "q", l(" q"), l(" q")},
		{"COPY", "", "n/t/u/w", l("n/t/u n/t/u/w"), l(" n n/t n/t/u n/t/u/w")},
		{"COPY", "m/s", "m", l(" m m/s m/s/x m/s/x/y m/ss m/new m/new/x"), l(" m m/s m/s/x m/s/x/y m/ss m/new m/new/x")},
		{"COPY", "m/s", "", all, all},
		{"MOVE", "m/s", "n/t", l("m m/s m/s/x m/s/x/y n n/t n/t/u n/t/u/w"), l(" m m/s m/s/x m/s/x/y n n/t n/t/u n/t/u/w")},
		{"MOVE", "m/s", "n/new", l("m m/s m/s/x m/s/x/y n n/new"), l(" m m/s m/s/x m/s/x/y n n/new")},
		{"MOVE", "m/s", "m/new", l("m m/s m/s/x m/s/x/y m/new m/new/x"), l(" m m/s m/s/x m/s/x/y m/new m/new/x")},
		{"MOVE", "m/s/x/y", "q", l("m/s/x m/s/x/y  q"), l(" m m/s m/s/x m/s/x/y q")},
		{"MOVE", "", "q", all, all},
		{"MOVE", "m/s", "", all, all},
	}
}

func TestMayChangeWithOneLock(t *testing.T) {
	s := impl.Srv{T: mayTree(), Ver: 9, Used: []int{5, 6}}
	for _, x := range someChanges() {
		a := impl.Ask{Path: path(x.p), To: path(x.to)}
		s.L = nil
		wantChange(t, s, x.method, a, true)
		for _, at := range placesOfLocks() {
			for _, lock := range eachFlag(impl.Lock{Token: 5, Path: path(at), Until: 9}) {
				barred := slices.Contains(x.flat, at)
				if lock.Deep {
					barred = slices.Contains(x.deep, at)
				}
				s.L = []impl.Lock{lock}
				for _, y := range []struct {
					tokens []int
					has    bool
				}{{nil, false}, {[]int{}, false}, {[]int{6}, false}, {[]int{0, -5, 55, 4}, false}, {[]int{5}, true}, {[]int{6, 5}, true}, {[]int{5, 6}, true}, {[]int{5, 5}, true}} {
					a.Tokens = y.tokens
					wantChange(t, s, x.method, a, y.has || !barred)
				}
			}
		}
	}
}

func TestMayChangeOfWhatChangesNothing(t *testing.T) {
	for _, m := range slices.Concat([]string{"LOCK", "UNLOCK", "GET", "HEAD", "OPTIONS", "PROPFIND"}, wrongMethods()) {
		for _, l := range []string{"", "5:*", "5:m 6:m/s*", "5:n/t 6:n*+", "5:*+ 6:*+"} {
			for _, tokens := range [][]int{nil, {5}, {7}} {
				s := impl.Srv{T: mayTree(), L: someLocks(l), Ver: 9}
				wantChange(t, s, m, impl.Ask{Path: path("m/s"), To: path("n/t"), Tokens: tokens}, true)
				wantChange(t, s, m, impl.Ask{Tokens: tokens}, true)
			}
		}
	}
}

func TestMayChangeWithSeveralLocks(t *testing.T) {
	for _, x := range []struct {
		method string
		p      string
		to     string
		l      string
		tokens []int
		want   bool
	}{
		// Each that covers what is turned, and no other.
		{"PUT", "m/s", "", "5:m 6:m/s", nil, false}, {"PUT", "m/s", "", "5:m 6:m/s", []int{5}, false}, {"PUT", "m/s", "", "5:m 6:m/s", []int{6}, true},
		{"PUT", "m/new", "", "5:m 6:m/s", nil, false}, {"PUT", "m/new", "", "5:m 6:m/s", []int{5}, true}, {"PUT", "m/new", "", "5:m 6:m/new", []int{5}, false}, {"PUT", "m/new", "", "5:m 6:m/new", []int{6}, false}, {"PUT", "m/new", "", "5:m 6:m/new", []int{6, 5}, true},
		{"MKCOL", "m/s", "", "5:m 6:m/s", []int{5}, false}, {"MKCOL", "m/s", "", "5:m 6:m/s", []int{6}, false}, {"MKCOL", "m/s", "", "5:m 6:m/s 7:n*", []int{6, 5}, true},
		{"PROPPATCH", "m/s", "", "5:m 6:m/s 7:m/s/x", []int{6}, true}, {"PROPPATCH", "m/s", "", "5:m 6:m/s 7:m/s/x", []int{5, 7}, false},
		{"DELETE", "m/s", "", "5:m 6:m/s 7:m/s/x", []int{5, 6}, false}, {"DELETE", "m/s", "", "5:m 6:m/s 7:m/s/x", []int{5, 7}, false}, {"DELETE", "m/s", "", "5:m 6:m/s 7:m/s/x", []int{6, 7}, false}, {"DELETE", "m/s", "", "5:m 6:m/s 7:m/s/x 8:m/ss 9:n*", []int{7, 6, 5}, true},
		{"COPY", "m/s", "n/t", "5:m* 6:n 7:n/t/u", []int{5, 6}, false}, {"COPY", "m/s", "n/t", "5:m* 6:n 7:n/t/u", []int{5, 7}, false}, {"COPY", "m/s", "n/t", "5:m* 6:n 7:n/t/u", []int{6, 7}, true},
		{"MOVE", "m/s", "n/t", "5:m* 6:n 7:n/t/u", []int{6, 7}, false}, {"MOVE", "m/s", "n/t", "5:m* 6:n 7:n/t/u", []int{5, 6, 7}, true}, {"MOVE", "m/s", "n/t", "5:m* 6:n*", []int{5}, false}, {"MOVE", "m/s", "n/t", "5:m* 6:n*", []int{6}, false}, {"MOVE", "m/s", "n/t", "5:m* 6:n*", []int{6, 5}, true},
		// Shared ones: of each path that is turned one Token is enough.
		{"PUT", "m/s", "", "6:m/s+ 7:m/s+", nil, false}, {"PUT", "m/s", "", "6:m/s+ 7:m/s+", []int{6}, true}, {"PUT", "m/s", "", "6:m/s+ 7:m/s+", []int{7}, true}, {"PUT", "m/s", "", "6:m/s+ 7:m/s+", []int{5, 8}, false}, {"PUT", "m/s", "", "6:m/s+ 7:m+", []int{7}, false}, {"PUT", "m/s", "", "6:m/s+ 7:m*+", []int{7}, true},
		{"PUT", "m/new", "", "6:m/new+ 7:m+", []int{7}, false}, {"PUT", "m/new", "", "6:m/new+ 7:m+", []int{6}, false}, {"PUT", "m/new", "", "6:m/new+ 7:m+", []int{6, 7}, true}, {"PUT", "m/new", "", "6:m/new+ 7:m*+", []int{7}, true}, {"PUT", "m/new", "", "6:m/new+ 7:m*+", []int{6}, false},
		{"MKCOL", "m/s", "", "6:m/s+ 7:m+", []int{7}, false}, {"MKCOL", "m/s", "", "6:m*+ 7:m*+ 8:*+", []int{8}, true}, {"PROPPATCH", "m/s", "", "6:m/s+ 7:m*+ 8:*+", []int{8}, true},
		{"DELETE", "m/s", "", "6:m/s+ 7:m+", []int{6}, false}, {"DELETE", "m/s", "", "6:m/s+ 7:m+", []int{7}, false}, {"DELETE", "m/s", "", "6:m/s+ 7:m+", []int{6, 7}, true}, {"DELETE", "m/s", "", "6:m/s+ 7:m/s/x+", []int{7}, true}, {"DELETE", "m/s", "", "6:m/s+ 7:m/s/x+", []int{6}, true}, {"DELETE", "m/s", "", "6:m/s+ 7:m/s/x 8:m/s+", []int{6, 8}, false}, {"DELETE", "m/s", "", "6:m/s+ 7:m/s/x 8:m/s+", []int{7}, false}, {"DELETE", "m/s", "", "6:m/s+ 7:m/s/x 8:m/s+", []int{7, 8}, true},
		{"COPY", "m/s", "n/t", "6:m/s+ 7:n/t+ 8:n/t/u*+", []int{8}, true}, {"COPY", "m/s", "n/t", "6:m/s+ 7:n/t+ 8:n/t/u*+", []int{6}, false},
		{"MOVE", "m/s", "n/t", "6:m/s+ 7:n/t+", []int{6}, false}, {"MOVE", "m/s", "n/t", "6:m/s+ 7:n/t+", []int{7}, false}, {"MOVE", "m/s", "n/t", "6:m/s+ 7:n/t+", []int{7, 6}, true}, {"MOVE", "m/s", "n/t", "6:*+ 7:*+", []int{6}, true}, {"MOVE", "m/s", "n/t", "6:*+ 7:n*+ 8:m*+", []int{6}, true}, {"MOVE", "m/s", "n/t", "6:*+ 7:n*+ 8:m*+", []int{7}, false},
		// Those that cover nothing of it.
		{"PUT", "m/s", "", "5:m/s/x 6:n* 7:m/ss 8:mm*", nil, true}, {"PUT", "m/s", "", "5:m 6:", nil, true}, {"MKCOL", "m/s", "", "5: 6:n* 7:m/s/x*", nil, true}, {"DELETE", "m/s", "", "5: 6:n* 7:m/ss* 8:mm*", nil, true}, {"COPY", "m/s", "n/t", "5:m* 6: 7:n/tt* 8:q", nil, true}, {"MOVE", "m/s", "n/t", "5: 6:m/ss* 7:n/tt* 8:q*", nil, true},
		// Lists that are not LocksOk, and numbers that are no Tokens.
		{"PUT", "m/s", "", "5:m/s 6:m/s", []int{5}, false}, {"PUT", "m/s", "", "5:m/s 6:m/s", []int{6, 5}, true}, {"PUT", "m/s", "", "0:m/s -3:m/s 10000:m/s", []int{0, -3}, false}, {"PUT", "m/s", "", "0:m/s -3:m/s 10000:m/s", []int{0, -3, 10000}, true}, {"PUT", "m/s", "", "5:m/s@-1", nil, false},
	} {
		s := impl.Srv{T: mayTree(), L: someLocks(x.l), Ver: 9}
		a := impl.Ask{Path: path(x.p), To: path(x.to), Tokens: x.tokens}
		wantChange(t, s, x.method, a, x.want)
		slices.Reverse(s.L)
		wantChange(t, s, x.method, a, x.want)
		a.Tokens = slices.Concat([]int{901}, x.tokens, []int{902, 0})
		slices.Reverse(a.Tokens)
		if !slices.ContainsFunc(s.L, func(l impl.Lock) bool { return l.Token == 0 }) {
			wantChange(t, s, x.method, a, x.want)
		}
	}
}

func TestMayChangeOfPathsThatAreNone(t *testing.T) {
	for _, p := range pathsThatAreWrong() {
		for _, m := range slices.Concat(allMethods(), []string{"TRACE", ""}) {
			for _, a := range []impl.Ask{{Path: p, To: p}, {Path: p, To: path("n/t")}, {Path: path("m/s"), To: p}} {
				wantChange(t, impl.Srv{T: mayTree(), Ver: 9}, m, a, true)
				for _, x := range []impl.Lock{{Token: 5, Path: p}, {Token: 5, Path: p, Deep: true}, {Token: 5, Path: p[:len(p)-1]}, {Token: 5, Path: append(slices.Clone(p), "z"), Shared: true}, {Token: 5, Deep: true}} {
					s := impl.Srv{T: mayTree(), L: []impl.Lock{x}, Ver: 9}
					wantChange(t, s, m, a, mayChangeByWords(s, m, a))
					a.Tokens = []int{5}
					wantChange(t, s, m, a, true)
					a.Tokens = nil
				}
			}
		}
	}
	// What lies behind a length is not there.
	names, room, tokens := path("m/s/x"), someLocks("5:m/s 6:m/s/x 7:m"), []int{5, 6, 7}
	s := impl.Srv{T: mayTree()[:2], L: room[:2], Ver: 9}
	if !impl.MayChange(s, "PUT", impl.Ask{Path: names[:2], Tokens: tokens[:1]}) || impl.MayChange(s, "PUT", impl.Ask{Path: names, Tokens: tokens[:1]}) || !impl.MayChange(s, "MKCOL", impl.Ask{Path: names[:2], Tokens: tokens[:1]}) || impl.MayChange(s, "DELETE", impl.Ask{Path: names[:2], Tokens: tokens[:1]}) || !impl.MayChange(s, "PUT", impl.Ask{Path: names[:1]}) {
		t.Error("what lies behind a length is looked at")
	}
}

// drawIf submits some of the Tokens of the locks there, and names marks.
func drawIf(draw *rand.Rand, s impl.Srv) string {
	conds := []string{}
	for range 1 + draw.IntN(mostConds) {
		switch draw.IntN(4) {
		case 0:
			conds = append(conds, `["v`+impl.NumText(draw.IntN(6))+`"]`)
		default:
			n := 1 + draw.IntN(12)
			if len(s.L) > 0 && draw.IntN(4) > 0 {
				n = s.L[draw.IntN(len(s.L))].Token
			}
			conds = append(conds, "<"+impl.NumText(n)+">")
		}
		if draw.IntN(5) == 0 {
			conds[len(conds)-1] = "Not " + conds[len(conds)-1]
		}
	}
	text := "(" + strings.Join(conds, " ") + ")"
	switch draw.IntN(8) {
	case 0:
		return text
	case 1:
		return text[draw.IntN(2):]
	}
	// So it holds, whatever is there.
	return text + "(Not <9998>)"
}

func drawTags(draw *rand.Rand) string {
	return []string{"*", `"v0"`, `"v1", "v2", "v3"`, `"v4","v5"`, `"x"`, "x", ""}[draw.IntN(7)]
}

func drawBody(draw *rand.Rand, method string) string {
	if method == "PROPPATCH" && draw.IntN(8) > 0 {
		sets := drawSets(draw, nil)
		return impl.NodeText(impl.SetsNode(sets[:min(2, len(sets))]))
	}
	return strings.ReplaceAll(drawPlain(draw, 0, 9), "\n", "")
}

// drawReq is of a server, so that mostly its paths and Tokens are named.
func drawReq(draw *rand.Rand, s impl.Srv) impl.Req {
	methods := allMethods()
	r := impl.Req{Method: methods[draw.IntN(len(methods))], Path: impl.PathText(drawPath(draw, s.T))}
	add := func(one int, of int, name string, val string) {
		if draw.IntN(of) < one {
			r.Heads = append(r.Heads, impl.Head{Name: name, Val: val})
		}
	}
	r.Body = drawBody(draw, r.Method)
	if draw.IntN(40) == 0 {
		r.Method = wrongMethods()[draw.IntN(8)]
	}
	if toHeadOf(r.Method) != "" || draw.IntN(20) == 0 {
		add(19, 20, "destination", impl.PathText(drawPath(draw, s.T)))
	}
	add(1, 4, "depth", []string{"0", "infinity", "0", "Infinity", "1", "2"}[draw.IntN(6)])
	add(1, 3, "overwrite", []string{"F", "T", "f"}[draw.IntN(3)])
	add(1, 2, "if", drawIf(draw, s))
	add(1, 12, "if-match", drawTags(draw))
	add(1, 12, "if-none-match", drawTags(draw))
	if r.Method == "LOCK" {
		add(1, 2, "scope", []string{"shared", "exclusive", "x"}[draw.IntN(3)])
		add(1, 2, "timeout", impl.NumText(draw.IntN(40)))
	}
	if r.Method == "UNLOCK" {
		add(9, 10, "lock-token", "<"+impl.NumText(draw.IntN(13))+">")
	}
	return r
}

func (n tally) wantAskAsByWords(t *testing.T, s impl.Srv, r impl.Req) impl.Ask {
	t.Helper()
	want, all := askByWords(s, r)
	got := impl.AskOf(s, r)
	if !sameAsk(got, want) {
		t.Fatalf("AskOf of %+v, %+v is %+v, not %+v", s, r, got, want)
	}
	n[r.Method+" "+impl.NumText(got.Code)]++
	if all > 1 {
		n[r.Method+" of several reasons"]++
	}
	return got
}

// wantAllTokensToDo is of whatever is barred: with all Tokens it is not.
func wantAllTokensToDo(t *testing.T, s impl.Srv, method string, a impl.Ask) bool {
	t.Helper()
	a.Tokens = nil
	barred := !impl.MayChange(s, method, a)
	for _, x := range s.L {
		a.Tokens = append(a.Tokens, x.Token)
	}
	if !impl.MayChange(s, method, a) {
		t.Fatalf("MayChange with %+v, of %s, %+v, is false with all Tokens", s.L, method, a)
	}
	return barred
}

func codesOfAsks() map[string][]string {
	l := map[string][]string{}
	for _, m := range allMethods() {
		l[m] = []string{"0", "400", "412", "of several reasons"}
		switch m {
		case "GET", "HEAD":
			l[m] = append(l[m], "304")
		case "PUT", "MKCOL", "DELETE", "COPY", "MOVE", "PROPPATCH":
			l[m] = append(l[m], "423")
		}
	}
	return l
}

func TestDrawnAsks(t *testing.T) {
	draw := rand.New(rand.NewPCG(16, 1))
	n, barred := tally{}, map[bool]int{}
	for range 60000 {
		s := drawSrv(draw)
		for i := range s.T {
			s.T[i].Ver %= 6
		}
		if draw.IntN(3) > 0 {
			// Locks of what is there.
			for i, x := range s.L {
				x.Path = drawPath(draw, s.T)
				if next := append(deepLocks(s.L[:i]), x); locksByWords(append(next, s.L[i+1:]...)) {
					s.L[i] = x
				}
			}
		}
		r := drawReq(draw, s)
		a := n.wantAskAsByWords(t, s, r)
		if impl.MayChange(s, r.Method, a) != mayChangeByWords(s, r.Method, a) {
			t.Fatalf("MayChange of %+v, %s, %+v is wrong", s, r.Method, a)
		}
		barred[wantAllTokensToDo(t, s, r.Method, a)]++
	}
	n.wantAtLeast(t, 20, codesOfAsks())
	n.wantAtLeast(t, 20, map[string][]string{"POST": {"501"}})
	if barred[true] < 3000 || barred[false] < 3000 {
		t.Errorf("%d are barred, %d are not", barred[true], barred[false])
	}
}

// coveredBy has all things that a lock covers.
func coveredBy(t []impl.Res, x impl.Lock) []impl.Res {
	return slices.DeleteFunc(slices.Clone(t), func(r impl.Res) bool { return !coversByWords(x, r.Path) })
}

// wantGuarded is the promise: what a lock covers is turned with its Token
// alone. Of those who share one may do it with the Token of another.
func wantGuarded(t *testing.T, was impl.Srv, r impl.Req, s impl.Srv) int {
	t.Helper()
	lists, _ := ifByForm(headsByWords(r)["if"])
	guards := 0
	for _, x := range was.L {
		if x.Shared || slices.Contains(submittedByWords(lists), x.Token) {
			continue
		}
		guards++
		if !sameTreeByParts(coveredBy(was.T, x), coveredBy(s.T, x)) {
			t.Fatalf("%+v turns what %+v covers: %+v, then %+v", r, x, was.T, s.T)
		}
	}
	return guards
}

// Whatever comes, what a lock covers is turned with its Token alone, and a
// request that AskOf refuses turns nothing.
func TestWhatALockCoversIsTurnedWithItsTokenAlone(t *testing.T) {
	draw := rand.New(rand.NewPCG(16, 2))
	n, guards, turned := tally{}, 0, 0
	for range 300 {
		s := impl.SrvNew()
		for range 200 {
			if draw.IntN(6) == 0 {
				s = impl.Tick(s, s.Now+draw.IntN(9))
			}
			s = impl.Draw(s, 1+draw.IntN(12))
			s.Used = slices.DeleteFunc(s.Used, func(n int) bool {
				return !slices.ContainsFunc(s.L, func(x impl.Lock) bool { return x.Token == n })
			})
			r := drawReq(draw, s)
			a := n.wantAskAsByWords(t, s, r)
			wantAllTokensToDo(t, s, r.Method, a)
			next, resp := impl.Do(s, r)
			if !impl.SrvOk(next) {
				t.Fatalf("%+v makes what is not SrvOk: %+v", r, next)
			}
			if impl.ReqOk(r) && a.Code != 0 && (resp.Code != a.Code || !sameSrvByParts(next, s)) {
				t.Fatalf("%+v is %d, not %d, and makes %+v of %+v", r, resp.Code, a.Code, next, s)
			}
			guards += wantGuarded(t, s, r, next)
			if !sameTreeByParts(next.T, s.T) {
				turned++
			}
			s = next
		}
	}
	n.wantAtLeast(t, 20, codesOfAsks())
	if guards < 10000 || turned < 2000 {
		t.Errorf("%d locks, %d turns", guards, turned)
	}
}

// Servers that are not SrvOk are asked, too.
func TestAsksOfServersThatAreNotOk(t *testing.T) {
	n := tally{}
	for _, s := range srvsThatAreWrong() {
		for _, m := range slices.Concat(allMethods(), []string{"TRACE"}) {
			for _, p := range []string{"/", "/a", "/a/b", "/q", "/y", "x", "/a/b/c/d"} {
				for _, heads := range []string{"", " if=(<5>)", " if-match=*", " if-none-match=*", " if=(Not_<5>)(<5>_<6>)", ` if=(["v2"])`} {
					n.wantAskAsByWords(t, s, oneReq(m+" "+p+toHeadOf(m)+heads))
				}
			}
		}
	}
	// Nor need requests be ReqOk: heads are read as they stand.
	long := strings.Repeat(" ", 999)
	for _, r := range []impl.Req{
		{Method: "GET", Path: "/a", Heads: slices.Repeat([]impl.Head{{Name: "X Y", Val: "\n"}}, 99), Body: long},
		{Method: "PUT", Path: "/" + strings.Repeat("a/../", 999) + "a", Heads: []impl.Head{{Name: "", Val: ""}, {Name: "if", Val: "(<5>)" + long + "(Not <5>)"}}},
		{Method: "COPY", Path: "/a b", Heads: []impl.Head{{Name: "content-length", Val: "9"}, {Name: "destination", Val: "/" + strings.Repeat("./", 999)}}},
		{Method: "GET", Path: "/a", Heads: append(slices.Repeat([]impl.Head{{Name: "x"}}, 20), impl.Head{Name: "if-match", Val: long + "*"})},
		{Method: "GET", Path: "/a", Heads: append(slices.Repeat([]impl.Head{{Name: "x"}}, 20), impl.Head{Name: "depth", Val: "7"})},
		{Method: "GET", Path: "/a", Heads: []impl.Head{{Name: "if", Val: strings.Repeat("(<5>)", 99999)}}},
	} {
		n.wantAskAsByWords(t, someSrv(), r)
		n.wantAskAsByWords(t, impl.Srv{}, r)
	}
}

func TestAsksThatAreRefusedLeaveNothingBehind(t *testing.T) {
	s := withL("5:a*@10", 5)
	good := oneReq("MOVE /a/b destination=/q/r if=(<5>) overwrite=F")
	want := impl.Ask{Path: path("a/b"), To: path("q/r"), Deep: true, Tokens: []int{5}}
	for _, text := range []string{"MOVE x if=(<6>)", "TRACE /a if=(<6>) depth=0", "MOVE /a if=(<6>)", "MOVE /a destination=/z depth=0", "PUT /a if=(<6>", "PUT /a if=(<6>)", "PUT /a if-match=x", "GET /a if-none-match=*", "PUT /a"} {
		if a := impl.AskOf(s, oneReq(text)); a.Code == 0 {
			t.Errorf("%s is not refused", text)
		}
		wantAsk(t, s, good, want)
		if !impl.MayChange(s, "MOVE", want) || impl.MayChange(s, "MOVE", impl.Ask{Path: path("a/b"), To: path("q/r")}) {
			t.Errorf("MayChange behind %s is wrong", text)
		}
	}
}

// roomyReq has texts of its own, and room behind the heads, with something in
// it that is not to be turned.
func roomyReq(text string) impl.Req {
	r := oneReq(text)
	r.Method, r.Path = strings.Clone(r.Method), strings.Clone(r.Path)
	for i, h := range r.Heads {
		r.Heads[i] = impl.Head{Name: strings.Clone(h.Name), Val: strings.Clone(h.Val)}
	}
	r.Heads = append(r.Heads, impl.Head{Name: "if", Val: "(<901>)"}, impl.Head{Name: "destination", Val: "/room"})[:len(r.Heads)]
	return r
}

func textsOfReq(r impl.Req) []string {
	texts := []string{r.Method, r.Path, r.Body}
	for _, h := range r.Heads {
		texts = append(texts, h.Name, h.Val)
	}
	return texts
}

func spoilAsk(a impl.Ask) {
	spoilNames(a.Path)
	spoilNames(a.To)
	spoilNumbers(a.Tokens)
}

func wantNothingBehindAsk(t *testing.T, a impl.Ask) {
	t.Helper()
	for _, name := range slices.Concat(a.Path[len(a.Path):cap(a.Path)], a.To[len(a.To):cap(a.To)]) {
		if name != "" {
			t.Errorf("%q is handed out behind a path", name)
		}
	}
	for _, n := range a.Tokens[len(a.Tokens):cap(a.Tokens)] {
		if n != 0 {
			t.Errorf("%d is handed out behind the Tokens", n)
		}
	}
}

func deepAsk(a impl.Ask) impl.Ask {
	a.Path, a.To, a.Tokens = slices.Clone(a.Path), slices.Clone(a.To), slices.Clone(a.Tokens)
	return a
}

// wantAskInNewMemory asks three times: one answer is held against the
// arguments, one against itself, and one is kept.
func wantAskInNewMemory(t *testing.T, s impl.Srv, r impl.Req) int {
	t.Helper()
	kept, keptHeads := wholeSrv(s), slices.Clone(r.Heads[:len(r.Heads)+2])
	got, one, again := impl.AskOf(s, r), impl.AskOf(s, r), impl.AskOf(s, r)
	want := deepAsk(got)
	wantNoneShared(t, append(textsOfSrv(s), textsOfReq(r)...), slices.Concat(got.Path, got.To))
	wantNoneShared(t, got.Path, got.To)
	wantNothingBehindAsk(t, got)
	spoilNames(one.Path)
	if !slices.Equal(one.To, want.To) || !slices.Equal(one.Tokens, want.Tokens) {
		t.Errorf("two lists of one answer share: %+v", one)
	}
	spoilAsk(got)
	if !sameSrvByParts(wholeSrv(s), kept) || !slices.Equal(r.Heads[:len(r.Heads)+2], keptHeads) {
		t.Errorf("what is written into the answer turns an argument: %+v, %+v", wholeSrv(s), r.Heads[:len(r.Heads)+2])
	}
	spoilSrv(s)
	for i := range r.Heads {
		r.Heads[i] = impl.Head{Name: "spoilt", Val: "spoilt"}
	}
	if !sameAsk(again, want) {
		t.Errorf("what was answered turns: %+v", again)
	}
	return want.Code
}

func TestAsksAreNewMemory(t *testing.T) {
	codes := map[int]int{}
	for _, m := range slices.Concat(allMethods(), []string{"TRACE"}) {
		for _, p := range []string{"/", "/alpha", "/alpha/./beta/x/..", "/a/b", "/a-", "/a/b/..", "alpha"} {
			for _, heads := range []string{"", " depth=0", " depth=9", " if=(<5>_<7>)(<60>)(Not_<5>)", " if=(<5>)", " if=(<5>", " if-match=*", " if-none-match=*"} {
				for _, to := range []string{" destination=/gamma/delta/x/..", " destination=/gamma", ""} {
					codes[wantAskInNewMemory(t, roomySrv(), roomyReq(m+" "+p+to+heads))]++
				}
			}
		}
	}
	for _, code := range []int{0, 304, 400, 412, 423, 501} {
		if codes[code] == 0 {
			t.Errorf("no Code %d", code)
		}
	}
}

func TestQuestionsOfChangesLeaveTheirArguments(t *testing.T) {
	s := roomySrv()
	a := impl.Ask{Path: roomyPath(path("a/b")), To: roomyPath(path("ab/b")), Tokens: []int{5, 7, 901, 902}[:2]}
	kept := wholeSrv(s)
	for _, m := range slices.Concat(allMethods(), []string{"TRACE"}) {
		for n := range 3 {
			impl.MayChange(s, m, impl.Ask{Path: a.Path[:n], To: a.To[:n], Tokens: a.Tokens[:n]})
		}
	}
	if !sameSrvByParts(wholeSrv(s), kept) || !slices.Equal(a.Path[:4], path("a/b/room/behind")) || !slices.Equal(a.To[:4], path("ab/b/room/behind")) || !slices.Equal(a.Tokens[:4], []int{5, 7, 901, 902}) {
		t.Errorf("an argument is turned: %+v, %+v", wholeSrv(s), a)
	}
	r := roomyReq("GET /a depth=1")
	keptHeads := slices.Clone(r.Heads[:3])
	impl.DepthOf(r, 2)
	if !slices.Equal(r.Heads[:3], keptHeads) {
		t.Errorf("an argument is turned: %+v", r.Heads[:3])
	}
}

// Looks are a list of function values, which AskOf reaches.
func TestLooksAreAListOfFunctionValues(t *testing.T) {
	looks := 0
	for _, fn := range functionsReached(t, "../impl/l16_may.go", "AskOf") {
		looks += functionsListed(fn)
	}
	if looks < 2 {
		t.Errorf("l16_may.go: AskOf reaches a list of %d functions", looks)
	}
}

// functionsListed counts what stands in lists whose elements are functions.
func functionsListed(fn *ast.FuncDecl) int {
	n := 0
	ast.Inspect(fn.Body, func(x ast.Node) bool {
		lit, ok := x.(*ast.CompositeLit)
		if !ok {
			return true
		}
		if list, ok := lit.Type.(*ast.ArrayType); ok {
			if _, ok := list.Elt.(*ast.FuncType); ok {
				n += len(lit.Elts)
			}
		}
		return true
	})
	return n
}
