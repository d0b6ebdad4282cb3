package tests

import (
	"go/ast"
	"go/parser"
	"go/token"
	"math/rand/v2"
	"slices"
	"strings"
	"testing"

	"loop.example/g00452/impl"
)

func withBody(r impl.Req, body string) impl.Req {
	r.Body = body
	return r
}

// wantDo asks, too, that what is told by the words is the same.
func wantDo(t *testing.T, s impl.Srv, r impl.Req, want impl.Srv, resp impl.Resp) impl.Srv {
	t.Helper()
	kept, right, keptHeads := deepSrv(s), deepSrv(want), slices.Clone(r.Heads)
	got, answer := impl.Do(s, r)
	if !sameSrvByParts(got, right) || !impl.SameResp(answer, resp) {
		t.Errorf("Do of %+v is %+v, %+v, not %+v, %+v", r, answer, got, resp, right)
	}
	if told, x := doByWords(s, r); !sameSrvByParts(told, right) || !impl.SameResp(x, resp) {
		t.Errorf("by the words, Do of %+v is %+v, %+v, not %+v, %+v", r, x, told, resp, right)
	}
	if !sameSrvByParts(s, kept) || !slices.Equal(r.Heads, keptHeads) {
		t.Errorf("Do turns its arguments: %+v, %+v", s, r)
	}
	return got
}

// wantAsByWords is of whatever the words say.
func wantAsByWords(t *testing.T, s impl.Srv, r impl.Req) (impl.Srv, impl.Resp) {
	t.Helper()
	want, resp := doByWords(s, r)
	return wantDo(t, s, r, want, resp), resp
}

func wantDoCode(t *testing.T, s impl.Srv, r impl.Req, code int) {
	t.Helper()
	wantDo(t, s, r, s, impl.Resp{Code: code})
}

func oneHead(name string, val string) []impl.Head { return []impl.Head{{Name: name, Val: val}} }

// doByWords has the turns of shelves by their own words; what is told of
// shelves is Find's.
func doByWords(s impl.Srv, r impl.Req) (impl.Srv, impl.Resp) {
	s = deepSrv(s)
	a, _ := askByWords(s, r)
	code := a.Code
	if code == 0 && s.Ver == mostVer+1 && slices.Contains(allMethods()[:8], r.Method) {
		code = 507
	}
	if !srvByWords(s) || !impl.ReqOk(r) {
		code = 500
	}
	if code != 0 {
		return s, impl.Resp{Code: code}
	}
	resp := methodByWords(&s, r, a)
	if resp.Code/100 == 2 && slices.Contains(allMethods()[:8], r.Method) {
		s.Ver++
	}
	return s, resp
}

func methodByWords(s *impl.Srv, r impl.Req, a impl.Ask) impl.Resp {
	tag, there := impl.TagAt(*s, a.Path)
	switch r.Method {
	case "OPTIONS":
		return impl.Resp{Code: 200, Heads: oneHead("dav", "1, 2")}
	case "GET", "HEAD":
		at := impl.FindRes(s.T, a.Path)
		switch {
		case !there:
			return impl.Resp{Code: 404}
		case at < 0 || s.T[at].Coll:
			return impl.Resp{Code: 405}
		case r.Method == "HEAD":
			return impl.Resp{Code: 200, Heads: oneHead("etag", tag)}
		}
		return impl.Resp{Code: 200, Heads: oneHead("etag", tag), Body: s.T[at].Body}
	case "PROPFIND":
		return impl.Find(*s, a.Path, depthByWords(r, 2))
	case "PROPPATCH":
		n, isNode := nodeByForm(r.Body)
		sets, ok := setsByWords(n)
		if !isNode || !ok {
			return impl.Resp{Code: 400}
		}
		code := 0
		s.T, code = impl.Patch(s.T, a.Path, sets)
		return impl.Resp{Code: code}
	case "LOCK":
		return lockReqByWords(s, r, a, there)
	case "UNLOCK":
		return unlockByWords(s, r, a)
	}
	return turnReqByWords(s, r, a)
}

func turnReqByWords(s *impl.Srv, r impl.Req, a impl.Ask) impl.Resp {
	ops := map[string]string{"PUT": putOp, "MKCOL": makeOp, "DELETE": removeOp, "COPY": copyOp, "MOVE": moveOp}
	x := turnAsk{op: ops[r.Method], l: s.T, from: a.Path, to: a.To, over: a.Over, body: r.Body, ver: s.Ver}
	if !x.isFar() {
		x.to = a.Path
	}
	under := []impl.Res{}
	if r.Method == "COPY" && !a.Deep {
		isUnder := func(y impl.Res) bool {
			return len(y.Path) > len(a.Path) && strings.HasPrefix(keyOf(y.Path), keyOf(a.Path))
		}
		for _, y := range s.T {
			if isUnder(y) {
				under = append(under, y)
			}
		}
		x.l = slices.DeleteFunc(slices.Clone(s.T), isUnder)
	}
	l, code, _ := x.byWords()
	if code > 299 {
		return impl.Resp{Code: code}
	}
	if len(l)+len(under) > mostRes {
		return impl.Resp{Code: 507}
	}
	s.T = with(l, under...)
	s.L = slices.DeleteFunc(s.L, func(y impl.Lock) bool {
		key := keyOf(y.Path)
		gone := (r.Method == "DELETE" || r.Method == "MOVE") && strings.HasPrefix(key, keyOf(a.Path))
		return gone || x.isFar() && key != keyOf(a.To) && strings.HasPrefix(key, keyOf(a.To))
	})
	if r.Method == "PUT" {
		return impl.Resp{Code: code, Heads: oneHead("etag", impl.TagText(s.Ver))}
	}
	return impl.Resp{Code: code}
}

func lockReqByWords(s *impl.Srv, r impl.Req, a impl.Ask, there bool) impl.Resp {
	heads := headsByWords(r)
	val, told := heads["timeout"]
	timeout, ok := impl.ParseNum(val, 9999)
	scope, scoped := heads["scope"]
	switch {
	case !there:
		return impl.Resp{Code: 404}
	case told && (!ok || timeout == 0), scoped && scope != "shared" && scope != "exclusive":
		return impl.Resp{Code: 400}
	case s.Now > 9999998:
		return impl.Resp{Code: 507}
	case len(s.Draws) == 0:
		return impl.Resp{Code: 500}
	}
	if !told {
		timeout = 100
	}
	n := s.Draws[0]
	s.Draws = s.Draws[1:]
	if n < 1 || n > 9999 || slices.Contains(s.Used, n) {
		return impl.Resp{Code: 500}
	}
	l := append(deepLocks(s.L), impl.Lock{Token: n, Path: a.Path, Deep: a.Deep, Shared: scope == "shared", Until: min(9999999, s.Now+timeout)})
	if !locksByWords(l) {
		return impl.Resp{Code: 423}
	}
	s.L, s.Used = l, append(s.Used, n)
	slices.Sort(s.Used)
	return impl.Resp{Code: 200, Heads: oneHead("lock-token", "<"+impl.NumText(n)+">")}
}

func unlockByWords(s *impl.Srv, r impl.Req, a impl.Ask) impl.Resp {
	val := headsByWords(r)["lock-token"]
	if len(val) < 3 || val[0] != '<' || val[len(val)-1] != '>' {
		return impl.Resp{Code: 400}
	}
	n, ok := impl.ParseNum(val[1:len(val)-1], 9999)
	at := slices.IndexFunc(s.L, func(x impl.Lock) bool { return x.Token == n && coversByWords(x, a.Path) })
	switch {
	case !ok:
		return impl.Resp{Code: 400}
	case at < 0:
		return impl.Resp{Code: 409}
	}
	s.L = slices.Delete(s.L, at, at+1)
	return impl.Resp{Code: 204}
}

// doSrv has room for more versions, and numbers that are drawn.
func doSrv(locks string) impl.Srv {
	s := withL(locks, 5, 6, 7, 60)
	s.T, s.Ver, s.Draws = mayTree(), 9, []int{8, 3}
	s.T[3].Body, s.T[3].Ver = "yy", 4
	return s
}

func TestWhatIsNotDoneAtAll(t *testing.T) {
	good := oneReq("GET /a/b")
	for _, s := range srvsThatAreWrong() {
		for _, m := range allMethods() {
			wantDoCode(t, s, oneReq(m+" /a/b"+toHeadOf(m)), 500)
			wantDoCode(t, s, oneReq(m+" /a/b if=( depth=7"), 500)
			wantDoCode(t, s, oneReq(m+" x"), 500)
			// Both are wrong.
			wantDoCode(t, s, withBody(oneReq(m+" /a/b"+toHeadOf(m)), strings.Repeat("x", 201)), 500)
			wantDoCode(t, s, oneReq(strings.ToLower(m)+" x depth=7"), 500)
		}
	}
	for _, r := range []impl.Req{{}, {Method: "get", Path: "/"}, {Method: "GET"}, {Method: "GET", Path: "/a b"}, {Method: "GETGETGETG", Path: "/"}, {Method: "GET", Path: "/" + strings.Repeat("a/../", 20)}, {Method: "PUT", Path: "/m/s", Body: strings.Repeat("x", 201)}, {Method: "PUT", Path: "/q", Heads: slices.Repeat(oneHead("x", "y"), 9)}, {Method: "PUT", Path: "/q", Heads: oneHead("If", "y")}, {Method: "PUT", Path: "/q", Heads: oneHead("x", " ")}, {Method: "PUT", Path: "/q", Heads: oneHead("content-length", "0")}} {
		wantDoCode(t, doSrv(""), r, 500)
	}
	s := someSrv()
	for text, code := range map[string]int{"GET x": 400, "TRACE /": 501, "COPY /a": 400, "DELETE /a depth=0": 400, "PUT /q if=(": 400, "PUT /q if=(<5>)": 412, "GET /a/b if-match=x": 412, "GET /a/b if-none-match=*": 304, "PUT /q if-match=*": 412, "PUT /a/b": 423} {
		wantDoCode(t, s, oneReq(text), code)
	}
	// No version is left: what turns nothing is done, a refusal ahead counts.
	full := doSrv("5:n")
	full.Ver = mostVer + 1
	for _, m := range allMethods()[:8] {
		wantDoCode(t, full, oneReq(m+" /m/s"+toHeadOf(m)), 507)
		wantDoCode(t, full, oneReq(m+" /none"+toHeadOf(m)), 507)
		wantDoCode(t, full, oneReq(m+" x"+toHeadOf(m)), 400)
	}
	wantDoCode(t, full, oneReq("PUT /n"), 423)
	wantDo(t, full, oneReq("GET /m/s/x/y"), full, impl.Resp{Code: 200, Heads: oneHead("etag", `"v4"`), Body: "yy"})
	full.Ver = mostVer
	want := deepSrv(full)
	want.T, want.Ver = with(want.T, impl.Res{Path: path("q"), Coll: true, Ver: mostVer}), mostVer+1
	wantDo(t, full, oneReq("MKCOL /q"), want, impl.Resp{Code: 201})
	wantDo(t, s, good, s, impl.Resp{Code: 200, Heads: oneHead("etag", `"v2"`), Body: "x"})
}

// oneOfEachMethod are done of a doSrv whose n is locked by 5.
func oneOfEachMethod() []impl.Req {
	l := []impl.Req{withBody(oneReq("PROPPATCH /m"), `<propertyupdate xmlns="DAV:"><set><prop><p xmlns="">1</p></prop></set></propertyupdate>`)}
	for _, text := range []string{"PUT /q", "PUT /m/s/x/y", "MKCOL /q", "DELETE /m", "COPY /m destination=/q", "COPY /m destination=/q depth=0", "MOVE /m destination=/q", "LOCK /m", "UNLOCK /n lock-token=<5>", "GET /m/s/x/y", "HEAD /m/s/x/y", "OPTIONS /", "PROPFIND /m depth=0"} {
		l = append(l, oneReq(text))
	}
	return l
}

// The last version that there may be is given away: then what turns is not
// done, and what turns nothing is.
func TestVersionsAreUsedUp(t *testing.T) {
	for _, r := range oneOfEachMethod() {
		changes := slices.Contains(allMethods()[:8], r.Method)
		for _, ver := range []int{9, mostVer - 1, mostVer} {
			s := doSrv("5:n@9")
			s.Ver = ver
			next, resp := wantAsByWords(t, s, r)
			if changes && (resp.Code < 200 || resp.Code > 299 || next.Ver != ver+1) {
				t.Errorf("%+v with Ver %d is %d, %d", r, ver, resp.Code, next.Ver)
			}
			if !changes && !sameSrvByParts(next, s) {
				t.Errorf("%+v turns %+v", r, next)
			}
		}
		s := doSrv("5:n@9")
		s.Ver = mostVer + 1
		if changes {
			wantDoCode(t, s, r, 507)
		} else {
			wantDo(t, s, r, s, second(impl.Do(doSrv("5:n@9"), r)))
		}
	}
}

func second(_ impl.Srv, resp impl.Resp) impl.Resp { return resp }

func TestWhatIsReadIsDone(t *testing.T) {
	for _, s := range []impl.Srv{impl.SrvNew(), doSrv(""), doSrv("5:*")} {
		for _, p := range []string{"/", "/m", "/none", "/m/s/x/y"} {
			wantDo(t, s, oneReq("OPTIONS "+p), s, impl.Resp{Code: 200, Heads: oneHead("dav", "1, 2")})
		}
		for _, m := range []string{"GET", "HEAD"} {
			for p, code := range map[string]int{"/": 405, "/none": 404, "/m/none": 404, "/m/s/none": 404} {
				wantDoCode(t, s, oneReq(m+" "+p), code)
			}
		}
	}
	for _, s := range []impl.Srv{doSrv(""), doSrv("5:*")} {
		wantDoCode(t, s, oneReq("GET /m"), 405)
		wantDoCode(t, s, oneReq("HEAD /m/s"), 405)
		wantDo(t, s, oneReq("GET /m/s/x/y"), s, impl.Resp{Code: 200, Heads: oneHead("etag", `"v4"`), Body: "yy"})
		wantDo(t, s, oneReq("HEAD /m/s/x/y"), s, impl.Resp{Code: 200, Heads: oneHead("etag", `"v4"`)})
		wantDo(t, s, oneReq("GET /n/t/u/w"), s, impl.Resp{Code: 200, Heads: oneHead("etag", `"v0"`)})
	}
}

func TestWhatTurnsShelvesIsDone(t *testing.T) {
	for _, x := range []struct {
		text  string
		locks string
		code  int
		tree  func(l []impl.Res) []impl.Res
		left  string
	}{
		{"MKCOL /q", "5:m*@9", 201, func(l []impl.Res) []impl.Res { return with(l, impl.Res{Path: path("q"), Coll: true, Ver: 9}) }, "5:m*@9"},
		{"DELETE /m/s", "5:n@9", 204, func(l []impl.Res) []impl.Res { return less(l, "m/s", "m/s/x", "m/s/x/y") }, "5:n@9"},
		{"DELETE /m/s if=(Not_<1>)(<5>_<6>_<7>)", "5:m/s/x/y@9 6:m/s@9 7:m@9 60:n*@9", 204, func(l []impl.Res) []impl.Res { return less(l, "m/s", "m/s/x", "m/s/x/y") }, "7:m@9 60:n*@9"},
		{"COPY /m/s destination=/q", "5:m/s*@9 6:n@9", 201, func(l []impl.Res) []impl.Res {
			return with(l, resAt(l, "m/s", "q", 9), resAt(l, "m/s/x", "q/x", 9), resAt(l, "m/s/x/y", "q/x/y", 9))
		}, "5:m/s*@9 6:n@9"},
		{"COPY /m/s destination=/n/t if=(Not_<1>)(<5>_<6>_<7>)", "5:n/t/u/w@9 6:n/t@9 7:n@9 60:m/s*@9", 204, func(l []impl.Res) []impl.Res {
			return with(less(l, "n/t", "n/t/u", "n/t/u/w"), resAt(l, "m/s", "n/t", 9), resAt(l, "m/s/x", "n/t/x", 9), resAt(l, "m/s/x/y", "n/t/x/y", 9))
		}, "6:n/t@9 7:n@9 60:m/s*@9"},
		// Not Deep: nothing Under it comes, and all stays.
		{"COPY /m/s destination=/q depth=0", "5:m/s*@9", 201, func(l []impl.Res) []impl.Res { return with(l, resAt(l, "m/s", "q", 9)) }, "5:m/s*@9"},
		{"COPY /m/s destination=/n/t depth=0 if=(Not_<1>)(<5>_<6>)", "5:n/t/u@9 6:n/t@9", 204, func(l []impl.Res) []impl.Res {
			return with(less(l, "n/t", "n/t/u", "n/t/u/w"), resAt(l, "m/s", "n/t", 9))
		}, "6:n/t@9"},
		{"COPY /m/s/x/y destination=/q depth=0", "", 201, func(l []impl.Res) []impl.Res { return with(l, resAt(l, "m/s/x/y", "q", 9)) }, ""},
		{"COPY /m destination=/n/t/u/v depth=0", "", 201, func(l []impl.Res) []impl.Res { return with(l, resAt(l, "m", "n/t/u/v", 9)) }, ""},
		{"MOVE /m/s destination=/q if=(Not_<1>)(<5>_<6>_<7>)", "5:m/s/x/y@9 6:m/s@9 7:m@9 60:n*@9", 201, func(l []impl.Res) []impl.Res {
			return with(less(l, "m/s", "m/s/x", "m/s/x/y"), resAt(l, "m/s", "q", 9), resAt(l, "m/s/x", "q/x", 9), resAt(l, "m/s/x/y", "q/x/y", 9))
		}, "7:m@9 60:n*@9"},
		{"MOVE /m/s/x destination=/n/t if=(Not_<1>)(<5>_<6>_<7>_<60>)", "5:m/s/x*@9 6:n/t@9 7:n/t/u*@9 60:m/s@9", 204, func(l []impl.Res) []impl.Res {
			return with(less(l, "m/s/x", "m/s/x/y", "n/t", "n/t/u", "n/t/u/w"), resAt(l, "m/s/x", "n/t", 9), resAt(l, "m/s/x/y", "n/t/y", 9))
		}, "6:n/t@9 60:m/s@9"},
	} {
		s := doSrv(x.locks)
		want := deepSrv(s)
		want.T, want.L, want.Ver = x.tree(s.T), someLocks(x.left), 10
		wantDo(t, s, oneReq(x.text), want, impl.Resp{Code: x.code})
	}
	for text, code := range map[string]int{"PUT /": 405, "PUT /m": 405, "PUT /none/x": 409, "MKCOL /": 405, "MKCOL /m": 405, "MKCOL /none/x": 409, "DELETE /": 403, "DELETE /none": 404, "COPY /none destination=/q": 404, "COPY /m destination=/m/s": 403, "COPY /m/s destination=/n/t overwrite=F": 412, "COPY /m destination=/n/t/u": 409, "COPY /m destination=/": 403, "COPY /none destination=/q depth=0": 404, "COPY /m destination=/m/s/q depth=0": 403, "COPY /m/s destination=/n/t overwrite=F depth=0": 412, "COPY /m destination=/none/q depth=0": 409, "MOVE /none destination=/q": 404, "MOVE /m destination=/m": 403, "MOVE /m/s destination=/n/t overwrite=F": 412, "MOVE /m destination=/n/t/u": 409} {
		wantDoCode(t, doSrv(""), oneReq(text), code)
	}
}

// Each way that a copy or a move can go, of all that is there and is not.
func TestAllWaysOfCopies(t *testing.T) {
	n := tally{}
	places := []string{"", "m", "m/s", "m/s/x", "m/s/x/y", "m/new", "m/new/x", "m/s/x/y/z", "n", "n/t", "n/t/u/w", "q", "q/r", "none"}
	for _, locks := range []string{"", "5:m/s/x*@9 6:n/t/u@9 7:q@9"} {
		s := doSrv(locks)
		for _, from := range places {
			for _, to := range places {
				for _, heads := range []string{"", " depth=0", " depth=0 overwrite=T", " depth=0 overwrite=F", " overwrite=T", " overwrite=F"} {
					for _, m := range []string{"COPY", "MOVE"} {
						r := oneReq(m + " /" + from + " destination=/" + to + " if=(Not_<1>)(<5>_<6>_<7>)" + heads)
						next, resp := wantAsByWords(t, s, r)
						n[m+heads+" "+impl.NumText(resp.Code)]++
						if resp.Code > 299 && !sameSrvByParts(next, s) {
							t.Errorf("%+v is %d, and makes %+v", r, resp.Code, next)
						}
					}
				}
			}
		}
	}
	codes := []string{"201", "204", "403", "404", "409"}
	n.wantAtLeast(t, 2, map[string][]string{"COPY": codes, "COPY depth=0": codes, "COPY depth=0 overwrite=T": codes, "COPY depth=0 overwrite=F": {"201", "403", "404", "409", "412"}, "COPY overwrite=T": codes, "COPY overwrite=F": {"201", "403", "404", "409", "412"}, "MOVE": codes, "MOVE overwrite=F": {"201", "403", "404", "409", "412"}, "MOVE depth=0": {"400"}})
}

func TestLocksGoWithWhatGoes(t *testing.T) {
	for _, x := range []struct {
		text string
		gone string
	}{
		{"DELETE /m/s", "m/s m/s/x m/s/x/y"}, {"DELETE /m/s/x/y", "m/s/x/y"}, {"DELETE /m", "m m/s m/s/x m/s/x/y m/ss m/new m/new/x"}, {"DELETE /n/t", "n/t n/t/u n/t/u/w"},
		{"MOVE /m/s destination=/q", "m/s m/s/x m/s/x/y"}, {"MOVE /m destination=/n", "m m/s m/s/x m/s/x/y m/ss m/new m/new/x n/t n/t/u n/t/u/w n/tt n/new"}, {"MOVE /m/s/x/y destination=/n", "m/s/x/y n/t n/t/u n/t/u/w n/tt n/new"}, {"MOVE /m/s destination=/m/new", "m/s m/s/x m/s/x/y m/new/x"}, {"MOVE /m/s/x destination=/n/t/u", "m/s/x m/s/x/y n/t/u/w"},
		{"COPY /m/s destination=/q", ""}, {"COPY /m destination=/n", "n/t n/t/u n/t/u/w n/tt n/new"}, {"COPY /m/s destination=/n/t", "n/t/u n/t/u/w"}, {"COPY /m destination=/n/t depth=0", "n/t/u n/t/u/w"}, {"COPY /m/s/x/y destination=/n depth=0", "n/t n/t/u n/t/u/w n/tt n/new"}, {"COPY /m/s destination=/m/new", "m/new/x"}, {"COPY /m/s destination=/n/t/u/w", ""},
		// What turns nothing, or nothing of locks, or is not done.
		{"PUT /m/s/x/y", ""}, {"PUT /m/new", ""}, {"MKCOL /q", ""}, {"MKCOL /m", ""}, {"GET /m/s/x/y", ""}, {"OPTIONS /m", ""}, {"DELETE /", ""}, {"DELETE /m/new", ""}, {"DELETE /q", ""}, {"MOVE /m/new destination=/n", ""}, {"MOVE /m destination=/m/s", ""}, {"MOVE /m/s destination=/m", ""}, {"MOVE /m destination=/n overwrite=F", ""}, {"MOVE /m destination=/s/q", ""}, {"COPY /m destination=/", ""}, {"COPY /m/s destination=/n/t overwrite=F", ""}, {"COPY /m/s destination=/n/t overwrite=F depth=0", ""}, {"COPY /mm destination=/n/t", ""}, {"COPY /mm destination=/n/t depth=0", ""}, {"COPY /m destination=/n/t/u/w/v", ""},
	} {
		for _, place := range placesOfLocks() {
			for _, kind := range []string{"", "*", "+", "*+"} {
				s := doSrv("5:" + place + kind + "@9")
				next, resp := wantAsByWords(t, s, oneReq(x.text+" if=(Not_<1>)(<5>)"))
				gone := place != "" && slices.Contains(strings.Fields(x.gone), place)
				if gone == (len(next.L) == 1) || !slices.Equal(next.Used, s.Used) {
					t.Errorf("%s is %d, and of the lock %+v %+v is left", x.text, resp.Code, s.L, next.L)
				}
			}
		}
	}
}

func TestPutsAreDone(t *testing.T) {
	s := doSrv("5:m/s@9")
	for _, body := range []string{"", "new", strings.Repeat("x", 200)} {
		want := deepSrv(s)
		want.T, want.Ver = with(want.T, impl.Res{Path: path("m/q"), Body: body, Ver: 9}), 10
		next := wantDo(t, s, withBody(oneReq("PUT /m/q"), body), want, impl.Resp{Code: 201, Heads: oneHead("etag", `"v9"`)})
		want.T[slices.IndexFunc(want.T, func(r impl.Res) bool { return keyOf(r.Path) == keyOf(path("m/q")) })].Ver, want.Ver = 10, 11
		wantDo(t, next, withBody(oneReq("PUT /m/q"), body), want, impl.Resp{Code: 204, Heads: oneHead("etag", `"v10"`)})
		// What is put is got.
		wantDo(t, next, oneReq("GET /m/q"), next, impl.Resp{Code: 200, Heads: oneHead("etag", `"v9"`), Body: body})
	}
}

func TestHowManyThingsAreDone(t *testing.T) {
	for n := range 5 {
		s := doSrv("")
		for i := range n {
			s.T = with(s.T, file("z"+impl.NumText(i)))
		}
		room := mostRes - len(s.T)
		for _, x := range []struct {
			text string
			more int
			code int
		}{{"PUT /m/q", 1, 201}, {"MKCOL /q", 1, 201}, {"COPY /m destination=/q", 4, 201}, {"COPY /m destination=/q depth=0", 1, 201}, {"COPY /m destination=/n/t depth=0", 1 - 3, 204}, {"COPY /m destination=/n/t/u/w depth=0", 0, 204}, {"COPY /m/s/x/y destination=/q depth=0", 1, 201}, {"COPY /m destination=/n", 0, 204}, {"COPY /m/s destination=/n/t/u/w depth=0", 0, 204}, {"PUT /m/s/x/y", 0, 204}, {"MOVE /m destination=/q", 0, 201}} {
			code := x.code
			if x.more > room {
				code = 507
			}
			next, resp := wantAsByWords(t, s, oneReq(x.text))
			if resp.Code != code || code < 300 && len(next.T) != len(s.T)+x.more {
				t.Errorf("%s of %d things is %d, %+v", x.text, len(s.T), resp.Code, next.T)
			}
		}
	}
}

func TestPatchesAreDone(t *testing.T) {
	set := `<propertyupdate xmlns="DAV:"><set><prop><p xmlns="">1</p><q xmlns="u">2</q></prop></set></propertyupdate>`
	s := doSrv("5:n@9")
	for _, body := range []string{"", "x", "<a/>", "<propertyupdate/>", `<propertyupdate xmlns="DAV:"`, `<propertyupdate xmlns="DAV:"><set/></propertyupdate>`} {
		for _, p := range []string{"/", "/m", "/none"} {
			wantDoCode(t, s, withBody(oneReq("PROPPATCH "+p), body), 400)
		}
	}
	wantDoCode(t, s, withBody(oneReq("PROPPATCH /"), set), 403)
	wantDoCode(t, s, withBody(oneReq("PROPPATCH /none"), set), 404)
	wantDoCode(t, s, withBody(oneReq("PROPPATCH /n"), set), 423)
	long := impl.NodeText(impl.SetsNode([]impl.Set{{P: impl.Prop{Name: "p", Val: strings.Repeat("x", 21)}}}))
	wantDoCode(t, s, withBody(oneReq("PROPPATCH /m"), long), 409)
	want := deepSrv(s)
	want.T[0].Props, want.Ver = someProps("p=1 u:q=2"), 10
	next := wantDo(t, s, withBody(oneReq("PROPPATCH /m"), set), want, impl.Resp{Code: 207})
	want.Ver = 11
	wantDo(t, next, withBody(oneReq("PROPPATCH /m"), `<propertyupdate xmlns="DAV:"/>`), want, impl.Resp{Code: 207})
}

func TestLocksAreDone(t *testing.T) {
	for _, x := range []struct {
		text  string
		locks string
		lock  string
	}{
		{"LOCK /m", "", "8:m*@104"}, {"LOCK /", "", "8:*@104"}, {"LOCK /m/s/x/y", "5:n*@9 6:m@9", "8:m/s/x/y*@104"}, {"LOCK /m depth=0", "5:m/s*@9", "8:m@104"}, {"LOCK /m depth=infinity", "", "8:m*@104"}, {"LOCK / depth=0", "5:m/s*@9", "8:@104"},
		{"LOCK /m scope=shared", "5:m*+@9 6:m+@9", "8:m*+@104"}, {"LOCK /m scope=exclusive", "", "8:m*@104"}, {"LOCK /m/s scope=shared depth=0 timeout=1", "5:m*+@9", "8:m/s+@5"},
		{"LOCK /m timeout=9999", "", "8:m*@10003"}, {"LOCK /m timeout=1 timeout=x", "", "8:m*@5"}, {"LOCK /m if=(Not_<5>)", "", "8:m*@104"},
	} {
		s := doSrv(x.locks)
		want := deepSrv(s)
		want.L, want.Draws, want.Used, want.Ver = append(want.L, oneLock(x.lock)), []int{3}, []int{5, 6, 7, 8, 60}, 10
		wantDo(t, s, oneReq(x.text), want, impl.Resp{Code: 200, Heads: oneHead("lock-token", "<8>")})
	}
	for now, until := range map[int]int{0: 100, mostTime - 101: mostTime - 1, mostTime - 100: mostTime, mostTime - 99: mostTime, mostTime - 1: mostTime} {
		s := doSrv("")
		s.Now = now
		if next, resp := impl.Do(s, oneReq("LOCK /m")); resp.Code != 200 || len(next.L) != 1 || next.L[0].Until != until {
			t.Errorf("LOCK at %d is %d, %+v", now, resp.Code, next.L)
		}
	}
	for _, n := range []int{1, 9999, 10, 6500} {
		s := doSrv("")
		s.Draws = []int{n}
		next, resp := impl.Do(s, oneReq("LOCK /m"))
		if resp.Code != 200 || !slices.Equal(resp.Heads, oneHead("lock-token", "<"+impl.NumText(n)+">")) || len(next.Draws) != 0 || !slices.IsSorted(next.Used) || len(next.Used) != 5 || !slices.Contains(next.Used, n) {
			t.Errorf("LOCK with %d is %+v, %+v", n, resp, next)
		}
	}
}

func TestLocksThatAreNotDone(t *testing.T) {
	s := doSrv("5:m/s@9 6:n*+@9")
	for text, code := range map[string]int{"LOCK /none": 404, "LOCK /m/none timeout=x": 404, "LOCK /m timeout=0": 400, "LOCK /m timeout=10000": 400, "LOCK /m timeout=": 400, "LOCK /m timeout=01": 400, "LOCK /m timeout=-1": 400, "LOCK /m timeout=ten": 400, "LOCK /m timeout=00": 400, "LOCK /m timeout=9999x": 400, "LOCK /m timeout=x timeout=1": 400, "LOCK /m scope=": 400, "LOCK /m scope=Shared": 400, "LOCK /m scope=SHARED": 400, "LOCK /m scope=EXCLUSIVE": 400, "LOCK /m scope=share": 400, "LOCK /m scope=none": 400, "LOCK /m scope=x scope=shared": 400} {
		wantDoCode(t, s, oneReq(text), code)
	}
	late, none := doSrv(""), doSrv("")
	late.Now, none.Draws = mostTime, nil
	wantDoCode(t, late, oneReq("LOCK /m"), 507)
	wantDoCode(t, none, oneReq("LOCK /m"), 500)
	wantDoCode(t, none, oneReq("LOCK /none"), 404)
	late.Draws = nil
	wantDoCode(t, late, oneReq("LOCK /m"), 507)
	wantDoCode(t, late, oneReq("LOCK /m scope=x"), 400)
	// The first of Draws is gone from here on, whatever becomes of it.
	for _, n := range []int{0, -1, 10000, 5, 7, 60} {
		s.Draws = []int{n, 9, 3}
		want := deepSrv(s)
		want.Draws = []int{9, 3}
		wantDo(t, s, oneReq("LOCK /m depth=0"), want, impl.Resp{Code: 500})
	}
	for _, text := range []string{"LOCK /m", "LOCK /m/s", "LOCK /m/s depth=0 scope=shared", "LOCK /n", "LOCK /n/t/u/w scope=exclusive", "LOCK /", "LOCK / scope=shared"} {
		s.Draws = []int{8, 9, 3}
		want := deepSrv(s)
		want.Draws = []int{9, 3}
		wantDo(t, s, oneReq(text), want, impl.Resp{Code: 423})
	}
	six := doSrv("1:m@9 2:n@9 3:m/s@9 4:n/t@9 5:m/s/x@9 6:n/t/u@9")
	six.Used = []int{1, 2, 3, 4, 5, 6}
	want := deepSrv(six)
	want.Draws = []int{3}
	wantDo(t, six, oneReq("LOCK / depth=0"), want, impl.Resp{Code: 423})
}

// faultsOfLocks are in the order in which they count; from the fifth on a
// number is drawn. The fourth and the fifth are never of one request.
func faultsOfLocks() []fault {
	return []fault{
		{404, "", func(_ *impl.Srv, r *impl.Req) { r.Path = "/none" }},
		{400, "", withFaultyHead("timeout", "0")},
		{400, "", withFaultyHead("scope", "none")},
		{507, "", func(s *impl.Srv, _ *impl.Req) { s.Now = mostTime }},
		{500, "", func(s *impl.Srv, _ *impl.Req) { s.Draws = nil }},
		{500, "", func(s *impl.Srv, _ *impl.Req) { s.Draws[0] = 60 }},
		{423, "", func(s *impl.Srv, _ *impl.Req) { s.L = someLocks("5:*@99") }},
	}
}

func TestWhichCodeOfLocksComesFirst(t *testing.T) {
	faults := faultsOfLocks()
	for of := range 1 << len(faults) {
		if of>>4&3 == 3 {
			continue
		}
		s, r, first := doSrv(""), oneReq("LOCK /m/s"), -1
		for i, x := range faults {
			if of>>i&1 == 1 {
				x.spoil(&s, &r)
				if first < 0 {
					first = i
				}
			}
		}
		if first < 0 {
			continue
		}
		want := deepSrv(s)
		if first >= 5 {
			want.Draws = want.Draws[1:]
		}
		wantDo(t, s, r, want, impl.Resp{Code: faults[first].code})
		slices.Reverse(r.Heads)
		wantDo(t, s, r, want, impl.Resp{Code: faults[first].code})
		// What AskOf refuses is ahead of all, so no number is drawn.
		r.Heads = append(r.Heads, oneHead("if", "(<77>)")...)
		wantDoCode(t, s, r, 412)
	}
}

// What was drawn for a lock that came not to be is not Used: it may be drawn
// again. What was Used is so for ever.
func TestNumbersThatAreDrawnAgain(t *testing.T) {
	s := impl.SrvNew()
	s.T, s.Ver = mayTree(), 2
	for i, x := range []struct {
		draw int
		text string
		code int
		used []int
	}{
		{5, "LOCK /m", 200, []int{5}},
		{9, "LOCK /m/s", 423, []int{5}},
		{9, "LOCK /n", 200, []int{5, 9}},
		{9, "LOCK /n/t scope=shared", 500, []int{5, 9}},
		{5, "LOCK /", 500, []int{5, 9}},
		{0, "UNLOCK /m/s/x lock-token=<5>", 204, []int{5, 9}},
		{0, "UNLOCK /m lock-token=<5>", 409, []int{5, 9}},
		{5, "LOCK /m", 500, []int{5, 9}},
		{0, "DELETE /n if=(<9>)", 204, []int{5, 9}},
		{9, "LOCK /m", 500, []int{5, 9}},
		{10000, "LOCK /m", 500, []int{5, 9}},
		{7, "LOCK /m", 200, []int{5, 7, 9}},
		{0, "LOCK /m/s", 500, []int{5, 7, 9}},
	} {
		if x.draw > 0 {
			s = impl.Draw(s, x.draw)
		}
		next, resp := wantAsByWords(t, s, oneReq(x.text))
		if resp.Code != x.code || !slices.Equal(next.Used, x.used) || len(next.Draws) != 0 {
			t.Errorf("%d: %s is %d, Used %v, Draws %v", i, x.text, resp.Code, next.Used, next.Draws)
		}
		s = next
	}
	// One lock that is over is one that is not there, and its number is Used.
	s = impl.Draw(impl.Tick(s, 200), 7)
	s, resp := impl.Do(s, oneReq("LOCK /m"))
	if len(s.L) != 0 || resp.Code != 500 || !slices.Equal(s.Used, []int{5, 7, 9}) {
		t.Errorf("%+v, %+v", resp, s)
	}
}

func TestUnlocksAreDone(t *testing.T) {
	s := doSrv("5:m*@9 6:n/t+@9 7:n/t+@9")
	for _, heads := range []string{"", " lock-token=", " lock-token=5", " lock-token=<", " lock-token=>", " lock-token=<>", " lock-token=<5", " lock-token=5>", " lock-token=<05>", " lock-token=<10000>", " lock-token=<-5>", " lock-token=<<5>>", " lock-token=<5>_x", " lock-token=<5>x", " lock-token=x<5>", " lock-token=<5>,", " lock-token=<01>", " lock-token=<+5>", " lock-token=<opaque:5>", " lock-token=<5_>", " lock-token=x lock-token=<5>", " if=(<5>)"} {
		wantDoCode(t, s, oneReq("UNLOCK /m"+heads), 400)
	}
	for _, text := range []string{"UNLOCK /n lock-token=<5>", "UNLOCK /m lock-token=<6>", "UNLOCK /m lock-token=<0>", "UNLOCK /m lock-token=<9999>", "UNLOCK / lock-token=<5>", "UNLOCK /n/t/u lock-token=<6>", "UNLOCK /none lock-token=<5>"} {
		wantDoCode(t, s, oneReq(text), 409)
	}
	for text, left := range map[string]string{"UNLOCK /m lock-token=<5>": "6:n/t+@9 7:n/t+@9", "UNLOCK /m/s/x lock-token=<5>": "6:n/t+@9 7:n/t+@9", "UNLOCK /m/none lock-token=<5>": "6:n/t+@9 7:n/t+@9", "UNLOCK /n/t lock-token=<6>": "5:m*@9 7:n/t+@9", "UNLOCK /n/t lock-token=<7>": "5:m*@9 6:n/t+@9"} {
		want := deepSrv(s)
		want.L, want.Ver = someLocks(left), 10
		wantDo(t, s, oneReq(text), want, impl.Resp{Code: 204})
	}
}

// wantRightBehind is of what holds of each request, whatever it is: what is
// refused turns nothing but what is drawn.
func wantRightBehind(t *testing.T, s impl.Srv, r impl.Req, next impl.Srv, resp impl.Resp) {
	t.Helper()
	if !impl.SrvOk(next) {
		t.Fatalf("%+v makes what is not SrvOk: %+v", r, next)
	}
	done := resp.Code >= 200 && resp.Code <= 299
	if r.Method == "LOCK" && (done || resp.Code == 500 || resp.Code == 423) && len(next.Draws) != len(s.Draws) {
		next.Draws = append(slices.Clone(s.Draws[:1]), next.Draws...)
	}
	if !slices.Equal(next.Draws, s.Draws) {
		t.Fatalf("%+v is %d, Draws are %v, then %v", r, resp.Code, s.Draws, next.Draws)
	}
	changes := slices.Contains(allMethods()[:8], r.Method)
	if done && changes && next.Ver != s.Ver+1 {
		t.Fatalf("%+v is %d, and makes %d of %d", r, resp.Code, next.Ver, s.Ver)
	}
	if !(done && changes) && !sameSrvByParts(next, s) {
		t.Fatalf("%+v is %d, and makes %+v of %+v", r, resp.Code, next, s)
	}
}

func TestDrawnRequestsAreDone(t *testing.T) {
	draw := rand.New(rand.NewPCG(17, 1))
	n := tally{}
	for range 200 {
		s := impl.SrvNew()
		for range 200 {
			s = impl.Draw(s, 1+draw.IntN(12))
			s.Used = slices.DeleteFunc(s.Used, func(n int) bool {
				return !slices.ContainsFunc(s.L, func(x impl.Lock) bool { return x.Token == n })
			})
			r := drawReq(draw, s)
			want, resp := doByWords(s, r)
			got, answer := impl.Do(s, r)
			if !sameSrvByParts(got, want) || !impl.SameResp(answer, resp) {
				t.Fatalf("Do of %+v, %+v is %+v, %+v, not %+v, %+v", s, r, answer, got, resp, want)
			}
			n[r.Method+" "+impl.NumText(answer.Code)]++
			wantRightBehind(t, s, r, got, answer)
			s = impl.Tick(got, got.Now+draw.IntN(4))
		}
	}
	n.wantAtLeast(t, 5, map[string][]string{
		"PUT": {"201", "204", "405", "409", "423"}, "MKCOL": {"201", "405", "409", "423"}, "DELETE": {"204", "403", "404", "423"}, "COPY": {"201", "204", "403", "404", "409", "412", "423"}, "MOVE": {"201", "204", "403", "404", "409", "412", "423"},
		"PROPPATCH": {"207", "400", "403", "404", "423"}, "LOCK": {"200", "400", "404", "423", "500"}, "UNLOCK": {"204", "400", "409"}, "GET": {"200", "304", "404", "405"}, "HEAD": {"200", "304", "404", "405"}, "OPTIONS": {"200"},
	})
}

// drawChain has requests, each of the server that those ahead of it left, and
// what is answered to each of the first 60.
func drawChain(draw *rand.Rand, s impl.Srv, many int) ([]impl.Req, impl.Srv, []impl.Resp) {
	l, resps := []impl.Req{}, []impl.Resp{}
	for i := range many {
		r := drawReq(draw, s)
		switch draw.IntN(20) {
		case 0:
			r.Method = ""
		case 1:
			r.Body = strings.Repeat("x", 201)
		}
		l = append(l, r)
		next, resp := doByWords(s, r)
		if i < 60 {
			s, resps = next, append(resps, resp)
		}
	}
	return l, s, resps
}

// wantAll is of DoAll, and of what Do makes of the first 60, one by one.
func wantAll(t *testing.T, s impl.Srv, l []impl.Req, want impl.Srv, resps []impl.Resp) {
	t.Helper()
	kept, keptReqs := deepSrv(s), slices.Clone(l)
	got, answers := impl.DoAll(s, l)
	if !sameSrvByParts(got, want) || !slices.EqualFunc(answers, resps, impl.SameResp) {
		t.Errorf("DoAll of %d requests is %+v, %+v, not %+v, %+v", len(l), got, answers, want, resps)
	}
	if !sameSrvByParts(s, kept) || !slices.EqualFunc(l, keptReqs, impl.SameReq) {
		t.Errorf("DoAll turns its arguments: %+v, %+v", s, l)
	}
	for i, r := range l[:min(60, len(l))] {
		next, resp := impl.Do(s, r)
		if i >= len(answers) || !impl.SameResp(resp, answers[i]) {
			t.Errorf("DoAll of %d requests has no %+v at %d", len(l), resp, i)
			return
		}
		s = next
	}
	if !sameSrvByParts(got, s) {
		t.Errorf("DoAll of %d requests leaves %+v, Do one by one %+v", len(l), got, s)
	}
}

func TestDoAllOfHowManyRequests(t *testing.T) {
	for _, n := range []int{0, 1, 2, 58, 59, 60, 61, 62, 120, 999} {
		l, want, resps := []impl.Req{}, impl.SrvNew(), []impl.Resp{}
		for i := range n {
			l = append(l, withBody(oneReq("PUT /a"), impl.NumText(i)))
			if i > 59 {
				continue
			}
			want.T, want.Ver = []impl.Res{{Path: path("a"), Body: impl.NumText(i), Ver: i + 1}}, i+2
			resps = append(resps, impl.Resp{Code: 204, Heads: oneHead("etag", impl.TagText(i+1))})
			resps[0].Code = 201
		}
		wantAll(t, impl.SrvNew(), l, want, resps)
		// What lies behind the length is not looked at.
		behind := append(slices.Clone(l), oneReq("DELETE /a"), oneReq("MKCOL /b"))[:n]
		wantAll(t, impl.SrvNew(), behind, want, resps)
		if more := behind[:n+2]; more[n].Method != "DELETE" || more[n+1].Method != "MKCOL" {
			t.Errorf("%+v: the room behind is written into", more[n:])
		}
	}
	wantAll(t, doSrv("5:n*@9"), nil, doSrv("5:n*@9"), nil)
	wantAll(t, impl.Srv{}, nil, impl.Srv{}, nil)
}

func TestDoAllOneBehindTheOther(t *testing.T) {
	s := impl.Draw(impl.Draw(impl.SrvNew(), 5), 60)
	want := impl.Srv{T: []impl.Res{{Path: path("d"), Coll: true, Ver: 1}, {Path: path("d/x"), Body: "two", Ver: 5}}, L: someLocks("60:d/x*@100"), Ver: 7, Used: []int{5, 60}}
	wantAll(t, s, []impl.Req{
		oneReq("GET /d/x"), oneReq("PUT /d/x"), oneReq("MKCOL /d"), withBody(oneReq("PUT /d/x"), "one"), oneReq("LOCK /d"), withBody(oneReq("PUT /d/x"), "no"),
		oneReq("UNLOCK /d/x lock-token=<5>"), {}, withBody(oneReq("PUT /d/x"), strings.Repeat("x", 201)), withBody(oneReq("PUT /d/x"), "two"), oneReq("LOCK /d/x"), oneReq("LOCK /d/x"), oneReq("GET /d/x"), oneReq("TRACE /"),
	}, want, []impl.Resp{
		{Code: 404}, {Code: 409}, {Code: 201}, {Code: 201, Heads: oneHead("etag", `"v2"`)}, {Code: 200, Heads: oneHead("lock-token", "<5>")}, {Code: 423},
		{Code: 204}, {Code: 500}, {Code: 500}, {Code: 204, Heads: oneHead("etag", `"v5"`)}, {Code: 200, Heads: oneHead("lock-token", "<60>")}, {Code: 500}, {Code: 200, Heads: oneHead("etag", `"v5"`), Body: "two"}, {Code: 501},
	})
	// Where no version is left, what turns nothing is done still.
	s = withVer(mostVer)
	want = impl.Srv{T: []impl.Res{{Path: path("a"), Body: "x", Ver: mostVer}}, Ver: mostVer + 1}
	tag := oneHead("etag", `"v99999"`)
	wantAll(t, s, []impl.Req{withBody(oneReq("PUT /a"), "x"), oneReq("PUT /a"), oneReq("GET /a"), oneReq("DELETE /a"), oneReq("HEAD /a")}, want, []impl.Resp{{Code: 201, Heads: tag}, {Code: 507}, {Code: 200, Heads: tag, Body: "x"}, {Code: 507}, {Code: 200, Heads: tag}})
}

func TestDoAllOfServersThatAreNotOk(t *testing.T) {
	l := []impl.Req{oneReq("GET /a"), {}, oneReq("MKCOL /q"), oneReq("PUT x"), oneReq("OPTIONS /")}
	for _, s := range srvsThatAreWrong() {
		for n := range len(l) + 1 {
			wantAll(t, s, l[:n], s, slices.Repeat([]impl.Resp{{Code: 500}}, n))
		}
		wantAll(t, s, slices.Repeat(l, 20), s, slices.Repeat([]impl.Resp{{Code: 500}}, 60))
	}
}

func TestDoAllOfDrawnRequests(t *testing.T) {
	draw := rand.New(rand.NewPCG(17, 2))
	n := tally{}
	for range 900 {
		s := impl.SrvNew()
		for range draw.IntN(21) {
			s = impl.Draw(s, 1+draw.IntN(12))
		}
		l, want, resps := drawChain(draw, s, draw.IntN(80))
		wantAll(t, s, l, want, resps)
		for i, resp := range resps {
			n[l[i].Method+" "+impl.NumText(resp.Code)]++
		}
	}
	n.wantAtLeast(t, 5, map[string][]string{"PUT": {"201", "204", "423", "500"}, "DELETE": {"204"}, "COPY": {"201", "204"}, "MOVE": {"201", "204"}, "LOCK": {"200", "423", "500"}, "UNLOCK": {"204"}, "PROPPATCH": {"207"}, "GET": {"200"}, "": {"500"}})
}

// Whatever comes between that turns nothing of it, what is put is got, and its
// mark is the one that was told of it.
func TestWhatIsPutIsGot(t *testing.T) {
	draw := rand.New(rand.NewPCG(17, 3))
	puts, behindTurns, known := 0, 0, 0
	for range 1500 {
		s := impl.SrvNew()
		for range 60 {
			s, _ = impl.Do(impl.Draw(s, 1+draw.IntN(12)), drawReq(draw, s))
		}
		// The locks are over: each path is put.
		s = impl.Tick(s, s.Now+200)
		put := withBody(oneReq("PUT "+impl.PathText(drawPath(draw, s.T))), drawPlain(draw, 0, 200))
		s, told := impl.Do(s, put)
		if told.Code != 201 && told.Code != 204 {
			continue
		}
		puts++
		p, _ := impl.ParsePath(put.Path)
		was := s.T[impl.FindRes(s.T, p)]
		for range 40 {
			for of := range 3 {
				m := []string{"GET", "HEAD", "GET"}[of]
				next, got := impl.Do(s, oneReq(m+" "+put.Path+[]string{"", "", " depth=infinity"}[of]))
				if got.Code != 200 || m == "GET" && got.Body != put.Body || m == "HEAD" && got.Body != "" || !slices.Equal(got.Heads, told.Heads) || !sameSrvByParts(next, s) {
					t.Fatalf("%+v is told as %+v, and got as %+v", put, told, got)
				}
			}
			next, _ := impl.Do(s, drawReq(draw, s))
			at := impl.FindRes(next.T, p)
			if at < 0 || next.T[at].Coll || next.T[at].Ver != was.Ver {
				continue
			}
			if next.Ver > s.Ver {
				behindTurns++
			}
			if !slices.Equal(next.T[at].Props, was.Props) {
				known++
			}
			s = next
		}
	}
	if puts < 300 || behindTurns < 1000 || known < 100 {
		t.Errorf("%d are put, behind %d turns, %d of what is known of them", puts, behindTurns, known)
	}
}

func TestWhatIsNotDoneIsNewMemory(t *testing.T) {
	for _, spoil := range append([]func(s *impl.Srv){func(*impl.Srv) {}}, roomyTurns()...) {
		for _, text := range []string{"GET /a/b", "PUT /q", "LOCK /b", "get /", "DELETE x", "TRACE /", "PUT /a/b", "COPY /a destination=/q if-match=x"} {
			for _, ask := range []func(s impl.Srv) impl.Srv{
				func(s impl.Srv) impl.Srv { return first(impl.Do(s, roomyReq(text))) },
				func(s impl.Srv) impl.Srv {
					next, _ := impl.DoAll(s, []impl.Req{roomyReq(text), roomyReq("GET /")})
					return next
				},
				func(s impl.Srv) impl.Srv {
					next, _ := impl.DoAll(s, nil)
					return next
				},
			} {
				s := roomySrv()
				spoil(&s)
				wantSrvInNewMemory(t, s, ask)
			}
		}
	}
}

func first(s impl.Srv, _ impl.Resp) impl.Srv { return s }

// spoilHeads writes into the room behind, too.
func spoilHeads(l []impl.Head) {
	for i := range l[:cap(l)] {
		l[:cap(l)][i] = impl.Head{Name: "spoilt", Val: "spoilt"}
	}
}

// manyReqs ask for each kind of answer, and some of them twice.
func manyReqs() []impl.Req {
	l := []impl.Req{}
	for _, text := range []string{"OPTIONS /", "OPTIONS /", "PUT /q", "GET /q", "GET /q", "HEAD /q", "MKCOL /d", "COPY /q destination=/d/x", "COPY /d destination=/e depth=0", "GET /d/x", "LOCK /d", "LOCK /d", "LOCK /q", "UNLOCK /q lock-token=<9>", "MOVE /d destination=/f if=(<8>)", "GET /f/x", "HEAD /f/x", "PUT /f/x", "PROPPATCH /f", "PROPPATCH /f", "DELETE /f", "GET /f", "get /", "GET x"} {
		r := roomyReq(text)
		r.Body = "a body that is put, and told"
		if r.Method == "PROPPATCH" {
			r.Body = impl.NodeText(impl.SetsNode(davSets("new=12")))
		}
		l = append(l, r)
	}
	return l
}

func TestAnswersOfDoAllAreApart(t *testing.T) {
	small := func() impl.Srv {
		return impl.Srv{Ver: 1, Draws: append(make([]int, 0, 9), 8, 8, 9), T: make([]impl.Res, 0, 9)}
	}
	s, l := small(), manyReqs()
	keptReqs := []impl.Req{}
	for _, r := range l {
		r.Heads = slices.Clone(r.Heads[:len(r.Heads)+2])
		keptReqs = append(keptReqs, r)
	}
	next, resps := impl.DoAll(s, l)
	want, again := impl.DoAll(small(), manyReqs())
	texts := textsOfSrv(next)
	for _, r := range l {
		wantNoneShared(t, textsOfReq(r), texts)
	}
	for i, resp := range resps {
		for _, h := range resp.Heads {
			if h.Name == "etag" || h.Name == "lock-token" {
				wantNoneShared(t, texts, []string{h.Val})
				texts = append(texts, h.Val)
			}
		}
		wantNoneShared(t, texts, []string{resp.Body})
		texts = append(texts, resp.Body)
		for _, r := range l {
			wantNoneShared(t, textsOfReq(r), []string{resp.Body})
		}
		if cap(resp.Heads) > len(resp.Heads) && slices.ContainsFunc(resp.Heads[len(resp.Heads):cap(resp.Heads)], func(h impl.Head) bool { return h != impl.Head{} }) {
			t.Errorf("something is handed out behind the Heads of %+v", resp)
		}
		spoilHeads(resp.Heads)
		if !slices.EqualFunc(resps[i+1:], again[i+1:], impl.SameResp) || !sameSrvByParts(next, want) {
			t.Fatalf("what is written into the answer at %d turns another: %+v", i, resps)
		}
	}
	spoilSrv(next)
	for i, r := range l {
		if r.Heads = r.Heads[:len(r.Heads)+2]; !impl.SameReq(r, keptReqs[i]) {
			t.Errorf("an argument is turned: %+v", r)
		}
	}
	if !sameSrvByParts(s, small()) || !slices.Equal(s.Draws[:9], []int{8, 8, 9, 0, 0, 0, 0, 0, 0}) || !sameTreeByParts(s.T[:9], make([]impl.Res, 9)) {
		t.Errorf("an argument is turned: %+v", s)
	}
}

func TestWhatIsDoneIsNewMemory(t *testing.T) {
	for _, text := range []string{"GET /a/b", "HEAD /a/b", "OPTIONS /", "PUT /q", "PUT /a/b if=(<5>_<7>)", "MKCOL /q", "DELETE /ab", "COPY /ab destination=/b/q", "COPY /ab destination=/b/q depth=0", "MOVE /ab destination=/b/q", "PROPPATCH /b", "LOCK /b", "LOCK /a/b", "UNLOCK /a- lock-token=<7>", "GET x", "PUT /a/b"} {
		for _, ver := range []int{mostVer, mostVer + 1, 1} {
			small := func() impl.Srv {
				s := roomySrv()
				s.T, s.Ver = slices.DeleteFunc(s.T, func(r impl.Res) bool { return r.Ver == mostVer }), ver
				s.T = append(s.T, file("room"), file("behind"))[:len(s.T)]
				for i, r := range s.T {
					s.T[i].Props = append(slices.Clone(r.Props), impl.Prop{}, impl.Prop{})[:len(r.Props)]
				}
				return s
			}
			r := roomyReq(text)
			r.Body = strings.Clone(impl.NodeText(impl.SetsNode(davSets("new=12"))))
			wantSrvInNewMemory(t, small(), func(s impl.Srv) impl.Srv {
				next, resp := impl.Do(s, r)
				wantNoneShared(t, append(textsOfSrv(s), textsOfReq(r)...), append(textsOfSrv(next), resp.Body))
				wantNoneShared(t, textsOfSrv(next), []string{resp.Body})
				return next
			})
		}
	}
}

// Each method is a method expression in a table, which Do reaches.
func TestMethodsAreMethodExpressions(t *testing.T) {
	f, err := parser.ParseFile(token.NewFileSet(), "../impl/l17_do.go", nil, parser.SkipObjectResolution)
	if err != nil {
		t.Fatal(err)
	}
	expressions := 0
	ast.Inspect(f, func(n ast.Node) bool {
		lit, ok := n.(*ast.CompositeLit)
		if !ok {
			return true
		}
		for _, e := range lit.Elts {
			if sel, ok := e.(*ast.SelectorExpr); ok {
				if _, ok := sel.X.(*ast.ParenExpr); ok {
					expressions++
				}
			}
		}
		return true
	})
	if expressions != len(allMethods()) {
		t.Errorf("l17_do.go: %d method expressions in a table", expressions)
	}
}
