package tests

import (
	"bytes"
	"slices"
	"strings"
	"testing"

	"loop.example/g00452/impl"
)

const topLine = "A / HTTP/1.1\r\n"

func plainReq() impl.Req { return impl.Req{Method: "A", Path: "/"} }

func eightHeads() []impl.Head { return slices.Repeat([]impl.Head{{Name: "a"}}, impl.MaxHeads) }

// wideReq has a PutReq of which n bytes stand ahead of the body.
func wideReq(n int, body string) impl.Req {
	r := impl.Req{Method: "A", Path: "/", Body: body}
	left := n - len(topLine) - 2
	if body != "" {
		left -= len("content-length: \r\n") + len(impl.NumText(len(body)))
	}
	for left > 0 {
		val := min(left, 50) - 5
		if left > 50 && left < 60 {
			val = 20
		}
		r.Heads = append(r.Heads, impl.Head{Name: "h", Val: strings.Repeat("v", val)})
		left -= val + 5
	}
	return r
}

func wantCode(t *testing.T, s string, want int) {
	t.Helper()
	r, n, code := impl.GetReq([]byte(s))
	if code != want {
		t.Errorf("GetReq(%q) has the code %d, not %d", s, code, want)
	}
	if code != impl.HtGood && (n != 0 || r.Method != "" || r.Path != "" || len(r.Heads) != 0 || r.Body != "") {
		t.Errorf("GetReq(%q) has %d, %q beside the code %d", s, n, r, code)
	}
}

func wantReq(t *testing.T, s string, behind string, want impl.Req) {
	t.Helper()
	r, n, code := impl.GetReq([]byte(s + behind))
	if code != impl.HtGood || n != len(s) || !impl.SameReq(r, want) {
		t.Errorf("GetReq(%q) is %q, %d, %d, not %q, %d, %d", s+behind, r, n, code, want, len(s), impl.HtGood)
	}
}

func TestReqLimits(t *testing.T) {
	if impl.HtGood != 0 || impl.HtMore != 1 || impl.HtForm != 400 || impl.HtLarge != 413 || impl.HtHeads != 431 || impl.HtCode != 501 {
		t.Error("the codes are not those of the document")
	}
	if impl.MaxHead != 400 || impl.MaxHeads != 8 || impl.MaxBody != 200 {
		t.Error("the limits are not those of the document")
	}
}

func TestReqOkOfMethods(t *testing.T) {
	for n := 0; n <= 12; n++ {
		r := impl.Req{Method: strings.Repeat("Z", n), Path: "/"}
		if impl.ReqOk(r) != (n >= 1 && n <= 9) {
			t.Errorf("a Method of %d letters is taken wrongly", n)
		}
	}
	for c := 0; c < 256; c++ {
		for _, s := range []string{string([]byte{byte(c)}), string([]byte{'A', byte(c)}), string([]byte{byte(c), 'A'})} {
			r := impl.Req{Method: s, Path: "/"}
			if impl.ReqOk(r) != (c >= 'A' && c <= 'Z') {
				t.Errorf("the Method %q is taken wrongly", s)
			}
		}
	}
}

func TestReqOkOfPaths(t *testing.T) {
	for n := 0; n <= 90; n++ {
		r := impl.Req{Method: "A", Path: strings.Repeat("/", n)}
		if impl.ReqOk(r) != (n >= 1 && n <= 80) {
			t.Errorf("a Path of %d bytes is taken wrongly", n)
		}
	}
	for c := 0; c < 256; c++ {
		for _, s := range []string{string([]byte{byte(c)}), string([]byte{'/', byte(c)}), string([]byte{byte(c), '/'}), string([]byte{'a', byte(c), 'b'})} {
			r := impl.Req{Method: "A", Path: s}
			if impl.ReqOk(r) != (c >= 33 && c <= 126) {
				t.Errorf("the Path %q is taken wrongly", s)
			}
		}
	}
}

func TestReqOkOfHeads(t *testing.T) {
	for n := 0; n <= 12; n++ {
		r := plainReq()
		r.Heads = slices.Repeat([]impl.Head{{Name: "a", Val: "b"}}, n)
		if impl.ReqOk(r) != (n <= impl.MaxHeads) {
			t.Errorf("%d Heads are taken wrongly", n)
		}
	}
	for _, x := range []struct {
		h  impl.Head
		ok bool
	}{
		{impl.Head{}, false},
		{impl.Head{Val: "v"}, false},
		{impl.Head{Name: "a"}, true},
		{impl.Head{Name: "a-1", Val: "v"}, true},
		{impl.Head{Name: "A"}, false},
		{impl.Head{Name: "1a"}, false},
		{impl.Head{Name: "-a"}, false},
		{impl.Head{Name: "a b"}, false},
		{impl.Head{Name: "a:"}, false},
		{impl.Head{Name: "a\r"}, false},
		{impl.Head{Name: strings.Repeat("a", 20)}, true},
		{impl.Head{Name: strings.Repeat("a", 21)}, false},
		{impl.Head{Name: "content-length"}, false},
		{impl.Head{Name: "content-length", Val: "0"}, false},
		{impl.Head{Name: "transfer-encoding"}, false},
		{impl.Head{Name: "transfer-encoding", Val: "chunked"}, false},
		{impl.Head{Name: "content-lengths"}, true},
		{impl.Head{Name: "transfer"}, true},
		{impl.Head{Name: "a", Val: strings.Repeat("v", 60)}, true},
		{impl.Head{Name: "a", Val: strings.Repeat("v", 61)}, false},
		{impl.Head{Name: "a", Val: " "}, false},
		{impl.Head{Name: "a", Val: " v"}, false},
		{impl.Head{Name: "a", Val: "v "}, false},
		{impl.Head{Name: "a", Val: "\tv"}, false},
		{impl.Head{Name: "a", Val: "v\t"}, false},
		{impl.Head{Name: "a", Val: "v  v"}, true},
		{impl.Head{Name: "a", Val: "v: v"}, true},
	} {
		for n := 0; n < impl.MaxHeads; n++ {
			r := plainReq()
			r.Heads = eightHeads()
			r.Heads[n] = x.h
			if impl.ReqOk(r) != x.ok {
				t.Errorf("%q as Head %d is taken wrongly", x.h, n)
			}
		}
	}
}

func TestReqOkOfEachByteOfAVal(t *testing.T) {
	for c := 0; c < 256; c++ {
		r := plainReq()
		r.Heads = []impl.Head{{Name: "a", Val: string([]byte{'v', byte(c), 'v'})}}
		if impl.ReqOk(r) != (c >= 32 && c <= 126) {
			t.Errorf("the Val %q is taken wrongly", r.Heads[0].Val)
		}
	}
}

func TestReqOkOfBodies(t *testing.T) {
	for n := 0; n <= 250; n++ {
		r := plainReq()
		r.Body = strings.Repeat("\x00", n)
		if impl.ReqOk(r) != (n <= impl.MaxBody) {
			t.Errorf("a Body of %d bytes is taken wrongly", n)
		}
	}
}

func TestReqOkLooksAtItsLengthAlone(t *testing.T) {
	whole := append(eightHeads(), impl.Head{Name: "content-length"})
	r := plainReq()
	r.Heads = whole[:8]
	if !impl.ReqOk(r) {
		t.Error("what lies behind the length was read")
	}
}

func TestSameReq(t *testing.T) {
	make1 := func() impl.Req {
		return impl.Req{Method: "PUT", Path: "/a", Heads: []impl.Head{{Name: "x", Val: "1"}, {Name: "y", Val: "2"}}, Body: "b"}
	}
	if !impl.SameReq(make1(), make1()) || !impl.SameReq(impl.Req{}, impl.Req{}) {
		t.Error("the same is not the same")
	}
	for i, turn := range []func(r *impl.Req){
		func(r *impl.Req) { r.Method = "PUTS" },
		func(r *impl.Req) { r.Method = "" },
		func(r *impl.Req) { r.Path = "/b" },
		func(r *impl.Req) { r.Path = "/A" },
		func(r *impl.Req) { r.Heads = nil },
		func(r *impl.Req) { r.Heads = r.Heads[:1] },
		func(r *impl.Req) { r.Heads = append(r.Heads, impl.Head{}) },
		func(r *impl.Req) { r.Heads[0], r.Heads[1] = r.Heads[1], r.Heads[0] },
		func(r *impl.Req) { r.Heads[0].Name = "z" },
		func(r *impl.Req) { r.Heads[1].Name = "z" },
		func(r *impl.Req) { r.Heads[0].Val = "2" },
		func(r *impl.Req) { r.Heads[1].Val = "" },
		func(r *impl.Req) { r.Body = "" },
		func(r *impl.Req) { r.Body = "b " },
	} {
		r := make1()
		turn(&r)
		if impl.SameReq(make1(), r) || impl.SameReq(r, make1()) {
			t.Errorf("turn %d: %q is not the same", i, r)
		}
		if !impl.SameReq(r, r) {
			t.Errorf("turn %d: %q is the same as itself", i, r)
		}
	}
	a, b := plainReq(), plainReq()
	b.Heads = []impl.Head{}
	if !impl.SameReq(a, b) || !impl.SameReq(b, a) {
		t.Error("nil and an empty list are the same")
	}
}

func TestHeadOf(t *testing.T) {
	l := []impl.Head{{Name: "a", Val: "1"}, {Name: "b", Val: ""}, {Name: "a", Val: "2"}, {Name: "c", Val: "3"}}
	for _, x := range []struct {
		l    []impl.Head
		name string
		val  string
		ok   bool
	}{
		{nil, "a", "", false},
		{nil, "", "", false},
		{l, "", "", false},
		{l, "a", "1", true},
		{l, "b", "", true},
		{l, "c", "3", true},
		{l, "A", "", false},
		{l, "d", "", false},
		{l, "1", "", false},
		{l[1:], "a", "2", true},
		{l[:3], "c", "", false},
		{[]impl.Head{{Name: "", Val: "v"}}, "", "v", true},
	} {
		if val, ok := impl.HeadOf(x.l, x.name); val != x.val || ok != x.ok {
			t.Errorf("HeadOf(%q, %q) is %q, %v", x.l, x.name, val, ok)
		}
	}
}

func TestPutReqByItsBytes(t *testing.T) {
	for want, r := range map[string]impl.Req{
		"GET / HTTP/1.1\r\n\r\n":                                                    {Method: "GET", Path: "/"},
		"A a HTTP/1.1\r\nx: y\r\n\r\n":                                              {Method: "A", Path: "a", Heads: []impl.Head{{Name: "x", Val: "y"}}},
		"A a HTTP/1.1\r\nx: \r\n\r\n":                                               {Method: "A", Path: "a", Heads: []impl.Head{{Name: "x"}}},
		"A a HTTP/1.1\r\nb: 1 2\r\na: :\r\nb: 3\r\n\r\n":                            {Method: "A", Path: "a", Heads: []impl.Head{{Name: "b", Val: "1 2"}, {Name: "a", Val: ":"}, {Name: "b", Val: "3"}}},
		"PUT /a HTTP/1.1\r\ncontent-length: 1\r\n\r\nz":                             {Method: "PUT", Path: "/a", Body: "z"},
		"A a HTTP/1.1\r\ncontent-length: 4\r\n\r\n\r\n\r\n":                         {Method: "A", Path: "a", Body: "\r\n\r\n"},
		"A a HTTP/1.1\r\nx: y\r\ncontent-length: 10\r\n\r\n0123456789":              {Method: "A", Path: "a", Heads: []impl.Head{{Name: "x", Val: "y"}}, Body: "0123456789"},
		"A a HTTP/1.1\r\ncontent-length: 200\r\n\r\n" + strings.Repeat("\xff", 200): {Method: "A", Path: "a", Body: strings.Repeat("\xff", 200)},
	} {
		if b := impl.PutReq(r); string(b) != want {
			t.Errorf("PutReq(%q) is %q, not %q", r, b, want)
		}
	}
}

func TestPutReqRefuses(t *testing.T) {
	good := impl.Req{Method: "PUT", Path: "/a", Heads: []impl.Head{{Name: "x", Val: "y"}}, Body: "z"}
	for i, turn := range []func(r *impl.Req){
		func(r *impl.Req) { r.Method = "" },
		func(r *impl.Req) { r.Method = "put" },
		func(r *impl.Req) { r.Method = "ABCDEFGHIJ" },
		func(r *impl.Req) { r.Path = "" },
		func(r *impl.Req) { r.Path = "/a b" },
		func(r *impl.Req) { r.Path = strings.Repeat("a", 81) },
		func(r *impl.Req) { r.Heads = append(eightHeads(), impl.Head{Name: "a"}) },
		func(r *impl.Req) { r.Heads = []impl.Head{{Name: "content-length", Val: "1"}} },
		func(r *impl.Req) { r.Heads = []impl.Head{{Name: "transfer-encoding", Val: "chunked"}} },
		func(r *impl.Req) { r.Heads = []impl.Head{{Name: "X", Val: "y"}} },
		func(r *impl.Req) { r.Heads = []impl.Head{{Name: "x", Val: "y\r\nz: 1"}} },
		func(r *impl.Req) { r.Heads = []impl.Head{{Name: "x", Val: "y "}} },
		func(r *impl.Req) { r.Body = strings.Repeat("z", 201) },
		func(r *impl.Req) { *r = impl.Req{} },
	} {
		r := good
		turn(&r)
		if b := impl.PutReq(r); len(b) != 0 {
			t.Errorf("turn %d: PutReq(%q) is %q", i, r, b)
		}
	}
}

func TestPutReqOfWideHeads(t *testing.T) {
	for _, body := range []string{"", "z", strings.Repeat("z", impl.MaxBody)} {
		for n := 390; n <= 410; n++ {
			r := wideReq(n, body)
			if !impl.ReqOk(r) {
				t.Fatalf("%q is no request", r)
			}
			b := impl.PutReq(r)
			if n <= impl.MaxHead && (len(b) != n+len(body) || !bytes.HasSuffix(b, []byte("\r\n\r\n"+body))) {
				t.Errorf("of %d bytes and a body of %d: %q", n, len(body), b)
			}
			if n > impl.MaxHead && len(b) != 0 {
				t.Errorf("%d bytes ahead of the body are too many: %q", n, b)
			}
		}
	}
}

func TestRequestsComeBackOfTheirBytes(t *testing.T) {
	every := make([]byte, 0, 256)
	for c := 0; c < 256; c++ {
		every = append(every, byte(c))
	}
	lists := [][]impl.Head{
		nil,
		{{Name: "x"}},
		{{Name: "x", Val: "(<1> [\"v2\"]) (Not <3>)"}},
		{{Name: "b", Val: ":"}, {Name: "a", Val: "1:2"}, {Name: "b", Val: "1  2"}},
		{{Name: "content-lengths", Val: "9"}, {Name: "transfer", Val: "gzip"}},
		{{Name: strings.Repeat("n", 20), Val: strings.Repeat("v", 60)}},
		eightHeads(),
	}
	bodies := []string{"", "z", "\r\n", "\r\n\r\n", "GET / HTTP/1.1\r\n\r\n", string(every[:200]), string(every[56:])}
	tails := []string{"", "G", "\r\n\r\n", "GET / HTTP/1.1\r\n\r\n", "\x00\xff", strings.Repeat("x", 500)}
	for _, method := range []string{"A", "GET", "PROPPATCH"} {
		for _, path := range []string{"/", "a", "/a%20b/c", strings.Repeat("~", 80)} {
			for _, heads := range lists {
				for _, body := range bodies {
					r := impl.Req{Method: method, Path: path, Heads: heads, Body: body}
					s := string(impl.PutReq(r))
					if s == "" {
						t.Fatalf("%q has no bytes", r)
					}
					for _, tail := range tails {
						wantReq(t, s, tail, r)
					}
				}
			}
		}
	}
}

func TestRequestsBehindEachOther(t *testing.T) {
	l := []impl.Req{
		{Method: "PUT", Path: "/a", Body: "GET"},
		{Method: "GET", Path: "/a"},
		{Method: "LOCK", Path: "/b", Heads: []impl.Head{{Name: "depth", Val: "0"}}},
		{Method: "PUT", Path: "/b", Heads: []impl.Head{{Name: "if", Val: "(<1>)"}}, Body: "\r\n\r\n"},
	}
	var b []byte
	for _, r := range l {
		b = append(b, impl.PutReq(r)...)
	}
	for i, want := range l {
		r, n, code := impl.GetReq(b)
		if code != impl.HtGood || !impl.SameReq(r, want) {
			t.Fatalf("request %d came back as %q, %d", i, r, code)
		}
		b = b[n:]
	}
	if len(b) != 0 {
		t.Errorf("%q is left", b)
	}
}

func TestEachBeginningIsTooShort(t *testing.T) {
	for _, r := range []impl.Req{
		{Method: "GET", Path: "/"},
		{Method: "PUT", Path: "/a", Heads: []impl.Head{{Name: "x", Val: "y"}, {Name: "z"}}, Body: "\r\n\r\n"},
		{Method: "PUT", Path: "/a", Heads: eightHeads(), Body: strings.Repeat("z", impl.MaxBody)},
		wideReq(impl.MaxHead, ""),
		wideReq(impl.MaxHead, strings.Repeat("z", impl.MaxBody)),
	} {
		b := impl.PutReq(r)
		if len(b) == 0 {
			t.Fatalf("%q has no bytes", r)
		}
		for i := range b {
			// The room behind holds all the rest: it must not be read.
			x, n, code := impl.GetReq(b[:i])
			if code != impl.HtMore || n != 0 || !impl.SameReq(x, impl.Req{}) {
				t.Fatalf("the first %d bytes of %q are %q, %d, %d", i, b, x, n, code)
			}
		}
	}
}

func TestWhereAHeadEnds(t *testing.T) {
	for _, body := range []string{"", "z"} {
		s := string(impl.PutReq(wideReq(impl.MaxHead, body)))
		wantReq(t, s, "", wideReq(impl.MaxHead, body))
		wantReq(t, s, "tail", wideReq(impl.MaxHead, body))
		longer := strings.Replace(s, "h: v", "h: vv", 1)
		wantCode(t, longer[:impl.MaxHead], impl.HtMore)
		wantCode(t, longer[:impl.MaxHead+1], impl.HtHeads)
		wantCode(t, longer, impl.HtHeads)
		wantCode(t, longer+"tail", impl.HtHeads)
	}
	for n := 0; n <= 3; n++ {
		filler := strings.Repeat("a", impl.MaxHead-n)
		wantCode(t, filler+"\r\n\r\n"[:n], impl.HtMore)
		wantCode(t, filler+"\r\n\r\n"[:n+1], impl.HtHeads)
		wantCode(t, filler+"\r\n\r\n", impl.HtHeads)
	}
	wantCode(t, strings.Repeat("a", impl.MaxHead-4)+"\r\n\r\n", impl.HtForm)
	wantCode(t, strings.Repeat("a", impl.MaxHead), impl.HtMore)
	wantCode(t, strings.Repeat("a", impl.MaxHead+1), impl.HtHeads)
	wantCode(t, strings.Repeat("\r\na", 200), impl.HtHeads)
	wantCode(t, topLine+strings.Repeat("x: y\r\n", 100)+"\r\n", impl.HtHeads)
	wantCode(t, "", impl.HtMore)
	wantCode(t, "\r\n", impl.HtMore)
	wantCode(t, "\r\n\r\n", impl.HtForm)
	wantCode(t, "\r\n\r\n"+topLine+"\r\n", impl.HtForm)
	wantCode(t, "\r\n"+topLine+"\r\n", impl.HtForm)
}

func TestFirstLines(t *testing.T) {
	for s, want := range map[string]impl.Req{
		"A / HTTP/1.1":         plainReq(),
		"PROPPATCH x HTTP/1.1": {Method: "PROPPATCH", Path: "x"},
		"A HTTP/1.1 HTTP/1.1":  {Method: "A", Path: "HTTP/1.1"},
		"A : HTTP/1.1":         {Method: "A", Path: ":"},
		"A " + strings.Repeat("!", 80) + " HTTP/1.1": {Method: "A", Path: strings.Repeat("!", 80)},
	} {
		wantReq(t, s+"\r\n\r\n", "", want)
	}
	for _, s := range []string{
		"", " ", "  ", "A", "A ", "A /", "A / ", "A HTTP/1.1", "/ HTTP/1.1", " / HTTP/1.1", "A  HTTP/1.1", "HTTP/1.1",
		"A / HTTP/1.1 ", " A / HTTP/1.1", "A / HTTP/1.1 x", "A / x HTTP/1.1", "A x / HTTP/1.1",
		"A  / HTTP/1.1", "A /  HTTP/1.1", "A\t/ HTTP/1.1", "A /\tHTTP/1.1", "A / HTTP/1.1\t",
		"A / HTTP/1.0", "A / HTTP/1.10", "A / HTTP/1.", "A / HTTP/2", "A / http/1.1", "A / HTTP 1.1", "A / HTTP/1.1:", "A / XHTTP/1.1",
		"a / HTTP/1.1", "Ab / HTTP/1.1", "A1 / HTTP/1.1", "ABCDEFGHIJ / HTTP/1.1", "\xc3\x84 / HTTP/1.1",
		"A \x1f HTTP/1.1", "A \x7f HTTP/1.1", "A /\xff HTTP/1.1", "A /\x00 HTTP/1.1", "A " + strings.Repeat("a", 81) + " HTTP/1.1",
		"x: y",
	} {
		wantCode(t, s+"\r\n\r\n", impl.HtForm)
		wantCode(t, s+"\r\nx: y\r\n\r\n", impl.HtForm)
	}
}

func TestHeadLines(t *testing.T) {
	v60, n20 := strings.Repeat("v", 60), strings.Repeat("n", 20)
	for s, want := range map[string]impl.Head{
		"x: y":                       {Name: "x", Val: "y"},
		"x:y":                        {Name: "x", Val: "y"},
		"x:":                         {Name: "x"},
		"x: ":                        {Name: "x"},
		"x: \t \t":                   {Name: "x"},
		"x:\ty \t":                   {Name: "x", Val: "y"},
		"x:   y  z   ":               {Name: "x", Val: "y  z"},
		"x::":                        {Name: "x", Val: ":"},
		"x: :y: z:":                  {Name: "x", Val: ":y: z:"},
		"X: Y":                       {Name: "x", Val: "Y"},
		"X-yZ9: aBc":                 {Name: "x-yz9", Val: "aBc"},
		"x:" + v60:                   {Name: "x", Val: v60},
		"x: \t" + v60 + "\t ":        {Name: "x", Val: v60},
		n20 + ": y":                  {Name: n20, Val: "y"},
		strings.ToUpper(n20) + ": y": {Name: n20, Val: "y"},
		"content-lengths: z":         {Name: "content-lengths", Val: "z"},
		"x: content-length: z":       {Name: "x", Val: "content-length: z"},
		"x: ~!":                      {Name: "x", Val: "~!"},
	} {
		wantReq(t, topLine+s+"\r\n\r\n", "", impl.Req{Method: "A", Path: "/", Heads: []impl.Head{want}})
		wantReq(t, topLine+"a: b\r\n"+s+"\r\na: c\r\n\r\n", "GET", impl.Req{Method: "A", Path: "/", Heads: []impl.Head{{Name: "a", Val: "b"}, want, {Name: "a", Val: "c"}}})
	}
	for _, s := range []string{
		"x", " ", "x y", ":", ": y", ":y", " : y", "x : y", "x\t: y", " x: y", "\tx: y", "x y: z", "1: y", "-x: y", "x_y: z", "x.y: z",
		"\xffx: y", "x\x00: y", "\xc3\x84: y", n20 + "n: y",
		"x: y\tz", "x: y\x00z", "x: \x1f", "x: \x7f", "x: \x80", "x: \xff", "x: \xc3\xa4", "x: " + v60 + "v", "x: v " + v60[:59],
	} {
		wantCode(t, topLine+s+"\r\n\r\n", impl.HtForm)
		wantCode(t, topLine+"a: b\r\n"+s+"\r\n\r\n", impl.HtForm)
		wantCode(t, topLine+s+"\r\na: b\r\n\r\n", impl.HtForm)
	}
}

func TestHalfALinesEnd(t *testing.T) {
	for _, s := range []string{
		"A / HTTP/1.1\r\r\n\r\n",
		"A / HTTP/1.1\n\r\n\r\n",
		"A / HTTP/1.1\nx: y\r\n\r\n",
		"A / HTTP/1.1\rx: y\r\n\r\n",
		"A / HTTP/1.1\n\rx: y\r\n\r\n",
		"A / HTTP/1.1\r\n\rx: y\r\n\r\n",
		"A / HTTP/1.1\r\n\nx: y\r\n\r\n",
		"A / HTTP/1.1\r\nx: y\r\r\n\r\n",
		"A / HTTP/1.1\r\nx: y\n\r\n\r\n",
		"A / HTTP/1.1\r\nx: y\rz\r\n\r\n",
		"A / HTTP/1.1\r\nx: y\nz: 1\r\n\r\n",
		"A / HTTP/1.1\r\nx: y\rz: 1\r\n\r\n",
		"A / HTTP/1.1\r\nx\r: y\r\n\r\n",
		"A / HTTP/1.1\r\nx\n: y\r\n\r\n",
		"A / HTTP/1.1\r\nx:\r\r\n\r\n",
		"A / HTTP/1.1\r\nx:\n\r\n\r\n",
		"A / HTTP/1.1\r\nx: y\r\n z\r\n\r\n",
		"A\r\n/ HTTP/1.1\r\n\r\n",
		"A /\r\nHTTP/1.1\r\n\r\n",
		"A\r/ HTTP/1.1\r\n\r\n",
		"A / HTTP/1.1\r\nx\r\ny: z\r\n\r\n",
		"A / HTTP/1.1\r\ncontent-length: 1\r\r\n\r\nz",
		"A / HTTP/1.1\r\ntransfer-encoding: chunked\n\r\n\r\n0\r\n\r\n",
	} {
		wantCode(t, s, impl.HtForm)
	}
	for _, s := range []string{
		"A / HTTP/1.1\n\n",
		"A / HTTP/1.1\r\n\n",
		"A / HTTP/1.1\n\r\n",
		"A / HTTP/1.1\r\n\r",
		"A / HTTP/1.1\r\rx: y\r\n",
		"A / HTTP/1.1\r\nx: y\n\n",
		"A / HTTP/1.1\r\n\r\r\n",
		"A / HTTP/1.1\n\r\n\r",
	} {
		wantCode(t, s, impl.HtMore)
	}
}

func TestContentLengths(t *testing.T) {
	body := strings.Repeat("\r\nz", 100)
	for _, x := range []struct {
		line string
		n    int
	}{
		{"content-length: 0", 0}, {"content-length: 1", 1}, {"Content-Length:2", 2}, {"CONTENT-LENGTH:\t10 ", 10}, {"content-length: 199", 199}, {"content-length: 200", 200},
	} {
		want := impl.Req{Method: "A", Path: "/", Body: body[:x.n]}
		wantReq(t, topLine+x.line+"\r\n\r\n"+body[:x.n], "", want)
		wantReq(t, topLine+x.line+"\r\n\r\n"+body[:x.n], "tail", want)
		want.Heads = []impl.Head{{Name: "a", Val: "1"}, {Name: "b", Val: "2"}}
		wantReq(t, topLine+"a: 1\r\n"+x.line+"\r\nb: 2\r\n\r\n"+body[:x.n], "\r\n\r\n", want)
		if x.n > 0 {
			wantCode(t, topLine+x.line+"\r\n\r\n"+body[:x.n-1], impl.HtMore)
			wantCode(t, topLine+x.line+"\r\n\r\n", impl.HtMore)
		}
	}
	for _, val := range []string{"201", "999", "1000000", "9999999"} {
		wantCode(t, topLine+"content-length: "+val+"\r\n\r\n", impl.HtLarge)
		wantCode(t, topLine+"content-length: "+val+"\r\n\r\n"+body, impl.HtLarge)
	}
	for _, val := range []string{"", " ", "01", "00", "0200", "0201", "10000000", "99999999999999999999", "-1", "+1", "1 2", "1,1", "0x1", "1a", "z", "1.0", "chunked", "\xff"} {
		wantCode(t, topLine+"content-length: "+val+"\r\n\r\n"+body, impl.HtForm)
	}
}

func TestTransferEncodings(t *testing.T) {
	for _, line := range []string{"transfer-encoding: chunked", "Transfer-Encoding:Chunked", "TRANSFER-ENCODING: \tCHUNKED\t", "transfer-encoding: cHuNkEd"} {
		want := impl.Req{Method: "A", Path: "/", Heads: []impl.Head{{Name: "a", Val: "1"}, {Name: "b", Val: "2"}}, Body: "zy"}
		wantReq(t, topLine+"a: 1\r\n"+line+"\r\nb: 2\r\n\r\n2\r\nzy\r\n0\r\n\r\n", "tail", want)
	}
	for _, val := range []string{"", "gzip", "identity", "chunke", "chunkedd", "chunked,", "chunked, gzip", "gzip, chunked", "\"chunked\"", "0", strings.Repeat("c", 60)} {
		wantCode(t, topLine+"transfer-encoding: "+val+"\r\n\r\n", impl.HtCode)
		wantCode(t, topLine+"transfer-encoding: "+val+"\r\n\r\n0\r\n\r\n", impl.HtCode)
	}
	// Such a Val makes no Head at all, whatever its Name.
	for _, val := range []string{"\x00", "gzip\tx", "\xff", strings.Repeat("c", 61)} {
		wantCode(t, topLine+"transfer-encoding: "+val+"\r\n\r\n", impl.HtForm)
	}
}

func TestTwoThatTellOfTheBody(t *testing.T) {
	lines := []string{"content-length: 0\r\n", "Content-Length: 1\r\n", "transfer-encoding: chunked\r\n", "Transfer-Encoding: gzip\r\n", "content-length: 201\r\n", "content-length: x\r\n"}
	for _, a := range lines {
		for _, b := range lines {
			wantCode(t, topLine+a+b+"\r\nz", impl.HtForm)
			wantCode(t, topLine+a+"x: y\r\n"+b+"\r\n0\r\n\r\n", impl.HtForm)
		}
	}
}

func TestHowManyHeads(t *testing.T) {
	for n := 0; n <= 20; n++ {
		heads := strings.Repeat("a:\r\n", n)
		want := plainReq()
		want.Heads = slices.Repeat([]impl.Head{{Name: "a"}}, n)
		for _, x := range [][2]string{
			{topLine + heads + "\r\n", ""},
			{topLine + heads + "content-length: 1\r\n\r\nz", "z"},
			{topLine + "content-length: 1\r\n" + heads + "\r\nz", "z"},
			{topLine + "transfer-encoding: chunked\r\n" + heads + "\r\n1\r\nz\r\n0\r\n\r\n", "z"},
		} {
			want.Body = x[1]
			if n <= impl.MaxHeads {
				wantReq(t, x[0], "", want)
			} else {
				wantCode(t, x[0], impl.HtHeads)
			}
		}
	}
}

func TestWhichFaultCountsFirst(t *testing.T) {
	nine := strings.Repeat("a:\r\n", 9)
	for s, want := range map[string]int{
		"get x\r\nx":                        impl.HtMore,
		topLine + "x\r\n":                   impl.HtMore,
		topLine + nine:                      impl.HtMore,
		topLine + "content-length: 999\r\n": impl.HtMore,
		"get" + strings.Repeat(" ", 500) + "\r\n\r\n":                                impl.HtHeads,
		topLine + nine + "x\r\n\r\n":                                                 impl.HtForm,
		topLine + "x\r\n" + nine + "\r\n":                                            impl.HtForm,
		"a / HTTP/1.1\r\n" + nine + "\r\n":                                           impl.HtForm,
		topLine + nine + "content-length: x\r\n\r\n":                                 impl.HtForm,
		topLine + nine + "content-length: 10000000\r\n\r\n":                          impl.HtForm,
		topLine + "content-length: 1\r\n" + nine + "content-length: 1\r\n\r\n":       impl.HtForm,
		topLine + "transfer-encoding: gzip\r\n" + nine + "content-length: 1\r\n\r\n": impl.HtForm,
		topLine + "transfer-encoding: gzip\r\nx\r\n\r\n":                             impl.HtForm,
		topLine + "content-length: 201\r\nx\r\n\r\n":                                 impl.HtForm,
		topLine + "content-length: 201\r\n" + nine + "\r\n":                          impl.HtHeads,
		topLine + nine + "content-length: 201\r\n\r\n":                               impl.HtHeads,
		topLine + nine + "content-length: 1\r\n\r\n":                                 impl.HtHeads,
		topLine + "transfer-encoding: gzip\r\n" + nine + "\r\n":                      impl.HtHeads,
		topLine + nine + "transfer-encoding: gzip\r\n\r\n":                           impl.HtHeads,
		topLine + nine + "transfer-encoding: chunked\r\n\r\nx":                       impl.HtHeads,
		topLine + "transfer-encoding: gzip\r\n\r\nx":                                 impl.HtCode,
		topLine + "content-length: 201\r\n\r\n":                                      impl.HtLarge,
		topLine + "transfer-encoding: chunked\r\n\r\nc9\r\n":                         impl.HtLarge,
		topLine + "transfer-encoding: chunked\r\n\r\nc9\r":                           impl.HtMore,
		topLine + "transfer-encoding: chunked\r\n\r\nc9\rz":                          impl.HtForm,
		topLine + "transfer-encoding: chunked\r\n\r\n1\r\nzy":                        impl.HtForm,
		topLine + "transfer-encoding: chunked\r\n\r\n1\r\nz\r\nc8":                   impl.HtMore,
		topLine + "transfer-encoding: chunked\r\n\r\n1\r\nz\r\nc8\r\n":               impl.HtLarge,
	} {
		wantCode(t, s, want)
	}
}

func TestBodiesInPieces(t *testing.T) {
	top := topLine + "transfer-encoding: chunked\r\n\r\n"
	most := strings.Repeat("z", impl.MaxBody)
	for s, body := range map[string]string{
		"0\r\n\r\n":                                       "",
		"0000\r\n\r\n":                                    "",
		"1\r\nz\r\n0\r\n\r\n":                             "z",
		"01\r\nz\r\n002\r\nyx\r\n00\r\n\r\n":              "zyx",
		"4\r\n\r\n\r\n\r\n0\r\n\r\n":                      "\r\n\r\n",
		"A\r\n0123456789\r\na\r\n0123456789\r\n0\r\n\r\n": "01234567890123456789",
		"c8\r\n" + most + "\r\n0\r\n\r\n":                 most,
		"C7\r\n" + most[1:] + "\r\n1\r\nz\r\n0\r\n\r\n":   most,
	} {
		want := impl.Req{Method: "A", Path: "/", Body: body}
		for _, tail := range []string{"", "0\r\n\r\n", "GET"} {
			wantReq(t, top+s, tail, want)
		}
		whole := []byte(top + s)
		for i := range whole {
			if r, n, code := impl.GetReq(whole[:i]); code != impl.HtMore || n != 0 || !impl.SameReq(r, impl.Req{}) {
				t.Errorf("the first %d bytes of %q are %q, %d, %d", i, whole, r, n, code)
			}
		}
	}
	for s, code := range map[string]int{
		"\r\n": impl.HtForm, "g": impl.HtForm, "1g\r\n": impl.HtForm, "-1\r\n": impl.HtForm, " 1\r\n": impl.HtForm, "1 \r\n": impl.HtForm, "1;a\r\n": impl.HtForm, "\n": impl.HtForm, "1\nz\n": impl.HtForm,
		"1234": impl.HtMore, "12345": impl.HtForm, "00000": impl.HtForm, "00001\r\nz": impl.HtForm, "ffff": impl.HtMore, "ffff\r\n": impl.HtLarge,
		"1\rz": impl.HtForm, "1\r\r\n": impl.HtForm, "1\r\nzz\r\n": impl.HtForm, "1\r\nz\rz": impl.HtForm, "1\r\nz\n": impl.HtForm, "1\r\nz\r\nx": impl.HtForm, "1\r\nz\r\n\r\n": impl.HtForm,
		"0\r\nx": impl.HtForm, "0\r\n\rx": impl.HtForm, "0\r\nx: y\r\n\r\n": impl.HtForm,
		"c9\r\n": impl.HtLarge, "c9\r\n" + most + "z\r\n0\r\n\r\n": impl.HtLarge, "c8\r\n" + most + "\r\n1\r\n": impl.HtLarge,
	} {
		wantCode(t, top+s, code)
	}
}

func TestGetChunksFromAPlace(t *testing.T) {
	b := []byte("xx3\r\nabc\r\n0\r\n\r\nyy")
	if s, n, code := impl.GetChunks(b, 2); s != "abc" || n != 15 || code != impl.HtGood {
		t.Errorf("%q, %d, %d", s, n, code)
	}
	for at, want := range map[int]int{-1: impl.HtForm, 0: impl.HtForm, len(b): impl.HtMore, len(b) + 1: impl.HtForm, len(b) - 2: impl.HtForm} {
		if s, n, code := impl.GetChunks(b, at); s != "" || n != 0 || code != want {
			t.Errorf("from %d on: %q, %d, %d", at, s, n, code)
		}
	}
	if s, n, code := impl.GetChunks(b[:5], 6); s != "" || n != 0 || code != impl.HtForm {
		t.Errorf("from behind the length on: %q, %d, %d", s, n, code)
	}
	if s, n, code := impl.GetChunks(nil, 0); s != "" || n != 0 || code != impl.HtMore {
		t.Errorf("of nothing: %q, %d, %d", s, n, code)
	}
}

// Whatever byte is turned, what is read is a request, and comes back.
func TestWhateverIsReadIsARequest(t *testing.T) {
	for _, s := range []string{
		"PUT /a HTTP/1.1\r\nIf: (<1>)\r\ncontent-length: 2\r\n\r\nzy",
		"PUT /a HTTP/1.1\r\ntransfer-encoding: chunked\r\n\r\n2\r\nzy\r\n0\r\n\r\n",
	} {
		good := 0
		for i := range s {
			for c := 0; c < 256; c++ {
				b := []byte(s)
				b[i] = byte(c)
				r, n, code := impl.GetReq(b)
				if code != impl.HtGood {
					if n != 0 || !impl.SameReq(r, impl.Req{}) {
						t.Fatalf("GetReq(%q) is %q, %d, %d", b, r, n, code)
					}
					continue
				}
				good++
				x, m, again := impl.GetReq(impl.PutReq(r))
				if !impl.ReqOk(r) || n > len(b) || again != impl.HtGood || m == 0 || !impl.SameReq(x, r) {
					t.Fatalf("GetReq(%q) is %q, %d, and comes back as %q, %d", b, r, n, x, again)
				}
			}
		}
		if good < len(s) {
			t.Errorf("only %d of %q were read", good, s)
		}
	}
}

func TestHeadEnd(t *testing.T) {
	fill := func(n int) string { return strings.Repeat("a", n) }
	for s, want := range map[string]int{
		"":                      -1,
		"a":                     -1,
		"\r\n":                  -1,
		"\r\n\r":                -1,
		"\n\r\n":                -1,
		"\r\n\r\n":              4,
		"\r\n\r\n\r\n":          4,
		"\r\r\n\r\n":            5,
		"\n\r\n\r\n":            5,
		"\r\na\r\n\r\n":         7,
		"\r\na\r\n":             -1,
		"\r\n\n\r\n":            -1,
		"\r\n\r\r\n":            -1,
		"\r\n\n":                -1,
		"\r\r\n\n":              -1,
		"\n\n":                  -1,
		"\n\r\n\r":              -1,
		"a\r\n\r\n\r\n\r\n":     5,
		"a\r\n\r\nb\r\n\r\n":    5,
		fill(395) + "\r\n\r\n":  399,
		fill(396) + "\r\n\r\n":  400,
		fill(397) + "\r\n\r\n":  -1,
		fill(398) + "\r\n\r\n":  -1,
		fill(400) + "\r\n\r\n":  -1,
		fill(900) + "\r\n\r\n":  -1,
		fill(396) + "\r\n\r\nb": 400,
		fill(400):               -1,
	} {
		if n := impl.HeadEnd([]byte(s)); n != want {
			t.Errorf("HeadEnd(%q) is %d, not %d", s, n, want)
		}
	}
	if impl.HeadEnd(nil) != -1 {
		t.Error("nothing has an end")
	}
	if impl.HeadEnd([]byte("a\r\n\r\n")[:4]) != -1 {
		t.Error("what lies behind the length was read")
	}
}

func TestReqsLeaveTheirArguments(t *testing.T) {
	heads := []impl.Head{{Name: "x", Val: "1"}, {Name: "y", Val: "2"}, {Name: "z", Val: "3"}}
	kept := slices.Clone(heads)
	r := impl.Req{Method: "PUT", Path: "/a", Heads: heads[:1], Body: "b"}
	b := impl.PutReq(r)
	impl.ReqOk(r)
	impl.SameReq(r, r)
	impl.HeadOf(r.Heads, "x")
	if !slices.Equal(heads, kept) {
		t.Errorf("an argument was written into: %q", heads)
	}
	for _, s := range []string{string(b), "A / HTTP/1.1\r\nX: y\r\nTransfer-Encoding: CHUNKED\r\n\r\n1\r\nz\r\n1\r\ny\r\n0\r\n\r\n"} {
		whole := []byte(s + "behind")
		x, _, code := impl.GetReq(whole[:len(s)])
		impl.HeadEnd(whole[:len(s)])
		if code != impl.HtGood || string(whole) != s+"behind" {
			t.Errorf("an argument was written into: %q, %d", whole, code)
		}
		again, _, _ := impl.GetReq([]byte(s))
		clear(whole)
		if !impl.SameReq(x, again) {
			t.Errorf("what was answered turned with the argument: %q", x)
		}
		again.Heads[0].Val = "turned"
		if third, _, _ := impl.GetReq([]byte(s)); !impl.SameReq(x, third) {
			t.Errorf("two answers share: %q", third)
		}
	}
}
