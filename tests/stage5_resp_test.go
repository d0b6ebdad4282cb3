package tests

import (
	"bytes"
	"go/ast"
	"go/parser"
	"go/token"
	"math"
	"regexp"
	"slices"
	"strconv"
	"strings"
	"testing"

	"loop.example/g00452/impl"
)

const (
	topAnswer = "HTTP/1.1 200\r\n"
	noBody    = "content-length: 0\r\n\r\n"
	mostOfAll = 400
)

func plainResp() impl.Resp { return impl.Resp{Code: 200} }

func withHead(h impl.Head) impl.Resp { return impl.Resp{Code: 200, Heads: []impl.Head{h}} }

// fullResp has as much of everything as a Resp may have.
func fullResp() impl.Resp {
	h := impl.Head{Name: strings.Repeat("n", 20), Val: strings.Repeat("v", 60)}
	return impl.Resp{Code: 599, Heads: slices.Repeat([]impl.Head{h}, impl.MaxHeads), Body: strings.Repeat("z", mostOfAll)}
}

func wantResp(t *testing.T, s string, behind string, want impl.Resp) {
	t.Helper()
	r, n, ok := impl.GetResp([]byte(s + behind))
	if !ok || n != len(s) || !impl.SameResp(r, want) {
		t.Errorf("GetResp(%q) is %v, %d, %v, not %v, %d, true", s+behind, r, n, ok, want, len(s))
	}
}

func wantNoResp(t *testing.T, b []byte) {
	t.Helper()
	r, n, ok := impl.GetResp(b)
	if ok || n != 0 || r.Code != 0 || len(r.Heads) != 0 || r.Body != "" {
		t.Errorf("GetResp(%q) is %v, %d, %v", b, r, n, ok)
	}
}

func TestRespOkOfCodes(t *testing.T) {
	for code := -1000; code <= 1300; code++ {
		if impl.RespOk(impl.Resp{Code: code}) != (code >= 100 && code <= 599) {
			t.Errorf("the Code %d is taken wrongly", code)
		}
	}
	for _, code := range []int{math.MinInt, math.MaxInt, -200, 200 + 1<<32, 200 + 1<<16, 1 << 40} {
		if impl.RespOk(impl.Resp{Code: code}) {
			t.Errorf("the Code %d was taken", code)
		}
	}
}

func TestRespOkOfHeads(t *testing.T) {
	for n := 0; n <= 12; n++ {
		r := plainResp()
		r.Heads = slices.Repeat([]impl.Head{{Name: "a", Val: "b"}}, n)
		if impl.RespOk(r) != (n <= impl.MaxHeads) {
			t.Errorf("%d Heads are taken wrongly", n)
		}
	}
	for _, x := range []struct {
		h  impl.Head
		ok bool
	}{
		{impl.Head{}, false},
		{impl.Head{Val: "v"}, false},
		{impl.Head{Name: "a"}, true},
		{impl.Head{Name: "lock-token", Val: "<7>"}, true},
		{impl.Head{Name: "Etag"}, false},
		{impl.Head{Name: "1a"}, false},
		{impl.Head{Name: "-a"}, false},
		{impl.Head{Name: "a b"}, false},
		{impl.Head{Name: "a:"}, false},
		{impl.Head{Name: "a\r\n"}, false},
		{impl.Head{Name: strings.Repeat("a", 20)}, true},
		{impl.Head{Name: strings.Repeat("a", 21)}, false},
		{impl.Head{Name: "content-length", Val: "0"}, false},
		{impl.Head{Name: "transfer-encoding", Val: "chunked"}, false},
		{impl.Head{Name: "content-length"}, false},
		{impl.Head{Name: "transfer-encoding"}, false},
		{impl.Head{Name: "content-lengths"}, true},
		{impl.Head{Name: "content"}, true},
		{impl.Head{Name: "a", Val: strings.Repeat("v", 60)}, true},
		{impl.Head{Name: "a", Val: strings.Repeat("v", 61)}, false},
		{impl.Head{Name: "a", Val: " "}, false},
		{impl.Head{Name: "a", Val: " v"}, false},
		{impl.Head{Name: "a", Val: "v "}, false},
		{impl.Head{Name: "a", Val: "\tv"}, false},
		{impl.Head{Name: "a", Val: "v\t"}, false},
		{impl.Head{Name: "a", Val: "v\tv"}, false},
		{impl.Head{Name: "a", Val: "v\r\nb: v"}, false},
		{impl.Head{Name: "a", Val: "\x7f"}, false},
		{impl.Head{Name: "a", Val: "\xc3\xa4"}, false},
		{impl.Head{Name: "a", Val: "v: v"}, true},
	} {
		for n := 0; n < impl.MaxHeads; n++ {
			r := plainResp()
			r.Heads = eightHeads()
			r.Heads[n] = x.h
			if impl.RespOk(r) != x.ok {
				t.Errorf("%q as Head %d is taken wrongly", x.h, n)
			}
		}
	}
}

func TestRespOkOfBodies(t *testing.T) {
	for n := 0; n <= 450; n++ {
		for _, one := range []string{"z", "\x00", "\xff", "\r"} {
			r := plainResp()
			r.Body = strings.Repeat(one, n)
			if impl.RespOk(r) != (n <= mostOfAll) {
				t.Errorf("a Body of %d bytes %q is taken wrongly", n, one)
			}
		}
	}
	r := plainResp()
	r.Body = everyByte()
	if !impl.RespOk(r) || !impl.RespOk(fullResp()) {
		t.Error("a right one was refused")
	}
}

func TestSameResp(t *testing.T) {
	make1 := func() impl.Resp {
		return impl.Resp{Code: 207, Heads: []impl.Head{{Name: "x", Val: "1"}, {Name: "y", Val: "2"}}, Body: "b"}
	}
	if !impl.SameResp(make1(), make1()) || !impl.SameResp(impl.Resp{}, impl.Resp{}) {
		t.Error("the same is not the same")
	}
	for i, turn := range []func(r *impl.Resp){
		func(r *impl.Resp) { r.Code = 208 },
		func(r *impl.Resp) { r.Code = 0 },
		func(r *impl.Resp) { r.Code = -207 },
		func(r *impl.Resp) { r.Code += 1 << 32 },
		func(r *impl.Resp) { r.Heads = nil },
		func(r *impl.Resp) { r.Heads = r.Heads[:1] },
		func(r *impl.Resp) { r.Heads = r.Heads[1:] },
		func(r *impl.Resp) { r.Heads = append(r.Heads, impl.Head{}) },
		func(r *impl.Resp) { r.Heads[0], r.Heads[1] = r.Heads[1], r.Heads[0] },
		func(r *impl.Resp) { r.Heads[0].Name = "z" },
		func(r *impl.Resp) { r.Heads[1].Name = "z" },
		func(r *impl.Resp) { r.Heads[0].Val = "2" },
		func(r *impl.Resp) { r.Heads[1].Val = "" },
		func(r *impl.Resp) { r.Body = "" },
		func(r *impl.Resp) { r.Body = "B" },
		func(r *impl.Resp) { r.Body = "b\x00" },
	} {
		r := make1()
		turn(&r)
		if impl.SameResp(make1(), r) || impl.SameResp(r, make1()) {
			t.Errorf("turn %d: %v is not the same", i, r)
		}
		if !impl.SameResp(r, r) {
			t.Errorf("turn %d: %v is the same as itself", i, r)
		}
	}
	a, b := plainResp(), plainResp()
	b.Heads = []impl.Head{}
	if !impl.SameResp(a, b) || !impl.SameResp(b, a) {
		t.Error("nil and an empty list are the same")
	}
	b.Heads = make1().Heads[:0]
	if !impl.SameResp(a, b) || !impl.SameResp(b, a) {
		t.Error("what lies behind the length was read")
	}
}

func TestPutRespByItsBytes(t *testing.T) {
	most := strings.Repeat("\xff", mostOfAll)
	for want, r := range map[string]impl.Resp{
		topAnswer + noBody:                                              plainResp(),
		"HTTP/1.1 100\r\ncontent-length: 0\r\n\r\n":                     {Code: 100},
		"HTTP/1.1 599\r\ncontent-length: 1\r\n\r\nz":                    {Code: 599, Body: "z"},
		"HTTP/1.1 204\r\nx: \r\ncontent-length: 0\r\n\r\n":              {Code: 204, Heads: []impl.Head{{Name: "x"}}},
		"HTTP/1.1 201\r\netag: \"v1\"\r\ncontent-length: 0\r\n\r\n":     {Code: 201, Heads: []impl.Head{{Name: "etag", Val: "\"v1\""}}},
		topAnswer + "b: 1 2\r\na: :\r\nb: 3\r\n" + noBody:               {Code: 200, Heads: []impl.Head{{Name: "b", Val: "1 2"}, {Name: "a", Val: ":"}, {Name: "b", Val: "3"}}},
		topAnswer + "content-length: 4\r\n\r\n\r\n\r\n":                 {Code: 200, Body: "\r\n\r\n"},
		topAnswer + "dav: 1, 2\r\ncontent-length: 10\r\n\r\n0123456789": {Code: 200, Heads: []impl.Head{{Name: "dav", Val: "1, 2"}}, Body: "0123456789"},
		topAnswer + "content-length: 400\r\n\r\n" + most:                {Code: 200, Body: most},
		topAnswer + strings.Repeat("a: \r\n", 8) + noBody:               {Code: 200, Heads: eightHeads()},
	} {
		if b := impl.PutResp(r); string(b) != want {
			t.Errorf("PutResp(%v) is %q, not %q", r, b, want)
		}
	}
}

func TestPutRespOfWideHeads(t *testing.T) {
	b := impl.PutResp(fullResp())
	want := "HTTP/1.1 599\r\n" + strings.Repeat(strings.Repeat("n", 20)+": "+strings.Repeat("v", 60)+"\r\n", 8) +
		"content-length: 400\r\n\r\n" + strings.Repeat("z", 400)
	if string(b) != want {
		t.Errorf("the widest one is %q", b)
	}
	if ahead := len(b) - 400; ahead <= impl.MaxHead {
		t.Errorf("%d bytes stand ahead of the Body", ahead)
	}
	for n := 0; n <= 60; n++ {
		r := fullResp()
		for i := range r.Heads {
			r.Heads[i].Val = strings.Repeat("v", n)
		}
		wantResp(t, string(impl.PutResp(r)), "tail", r)
	}
}

func TestPutRespRefuses(t *testing.T) {
	good := impl.Resp{Code: 200, Heads: []impl.Head{{Name: "x", Val: "y"}}, Body: "z"}
	if len(impl.PutResp(good)) == 0 {
		t.Error("a good one was refused")
	}
	for i, turn := range []func(r *impl.Resp){
		func(r *impl.Resp) { *r = impl.Resp{} },
		func(r *impl.Resp) { r.Code = 0 },
		func(r *impl.Resp) { r.Code = 99 },
		func(r *impl.Resp) { r.Code = 600 },
		func(r *impl.Resp) { r.Code = 1000 },
		func(r *impl.Resp) { r.Code = -200 },
		func(r *impl.Resp) { r.Heads = append(eightHeads(), impl.Head{Name: "a"}) },
		func(r *impl.Resp) { r.Heads = []impl.Head{{Name: "content-length", Val: "1"}} },
		func(r *impl.Resp) { r.Heads = []impl.Head{{Name: "transfer-encoding", Val: "chunked"}} },
		func(r *impl.Resp) { r.Heads = []impl.Head{{Name: "X", Val: "y"}} },
		func(r *impl.Resp) { r.Heads = []impl.Head{{Name: "", Val: "y"}} },
		func(r *impl.Resp) { r.Heads = []impl.Head{{Name: "x", Val: "y\r\nz: 1"}} },
		func(r *impl.Resp) { r.Heads = []impl.Head{{Name: "x", Val: "y "}} },
		func(r *impl.Resp) { r.Heads = []impl.Head{{Name: "x", Val: strings.Repeat("v", 61)}} },
		func(r *impl.Resp) { r.Body = strings.Repeat("z", mostOfAll+1) },
	} {
		r := good
		turn(&r)
		if b := impl.PutResp(r); b == nil || len(b) != 0 {
			t.Errorf("turn %d: PutResp(%v) is %q", i, r, b)
		}
	}
}

func TestAnswersComeBackOfTheirBytes(t *testing.T) {
	every := everyByte()
	lists := [][]impl.Head{
		nil,
		{{Name: "x"}},
		{{Name: "etag", Val: "\"v12\""}},
		{{Name: "b", Val: ":"}, {Name: "a", Val: ": 1"}, {Name: "b", Val: "1  2"}, {Name: "c", Val: "x: y: z"}},
		{{Name: "content-lengths", Val: "9"}, {Name: "x", Val: "content-length: 9"}, {Name: "transfer", Val: "chunked"}},
		{{Name: strings.Repeat("n", 20), Val: strings.Repeat("v", 60)}},
		eightHeads(),
		fullResp().Heads,
	}
	bodies := []string{"", "z", " ", "\r\n", "\r\n\r\n", "0", topAnswer + noBody, noBody, "x: y\r\n\r\n", every, every + every[:144]}
	tails := []string{"", "H", "0", "\r", "\r\n\r\n", topAnswer + noBody, "content-length: 9\r\n\r\n", "x: y\r\n", "\x00\xff", strings.Repeat("x", 1000)}
	for _, code := range []int{100, 200, 207, 304, 423, 599} {
		for _, heads := range lists {
			for _, body := range bodies {
				r := impl.Resp{Code: code, Heads: heads, Body: body}
				s := string(impl.PutResp(r))
				if s == "" {
					t.Fatalf("%v has no bytes", r)
				}
				for _, tail := range tails {
					wantResp(t, s, tail, r)
				}
			}
		}
	}
	for code := 100; code <= 599; code++ {
		r := impl.Resp{Code: code, Body: impl.NumText(code)}
		wantResp(t, "HTTP/1.1 "+strconv.Itoa(code)+"\r\ncontent-length: 3\r\n\r\n"+r.Body, "9", r)
	}
	for n := 0; n <= mostOfAll; n++ {
		r := impl.Resp{Code: 200, Body: strings.Repeat("9", n)}
		wantResp(t, topAnswer+"content-length: "+strconv.Itoa(n)+"\r\n\r\n"+r.Body, "9", r)
	}
}

func TestAnswersBehindEachOther(t *testing.T) {
	l := []impl.Resp{
		{Code: 201, Heads: []impl.Head{{Name: "etag", Val: "\"v1\""}}},
		{Code: 200, Heads: []impl.Head{{Name: "etag", Val: "\"v1\""}}, Body: "\r\n\r\n"},
		{Code: 404},
		fullResp(),
		{Code: 207, Body: topAnswer + noBody},
		{Code: 100},
	}
	var b []byte
	for _, r := range l {
		b = append(b, impl.PutResp(r)...)
	}
	for i, want := range l {
		r, n, ok := impl.GetResp(b)
		if !ok || !impl.SameResp(r, want) {
			t.Fatalf("answer %d came back as %v, %v", i, r, ok)
		}
		b = b[n:]
	}
	if len(b) != 0 {
		t.Errorf("%q is left", b)
	}
	wantNoResp(t, b)
}

func TestEachBeginningOfAnAnswerIsTooShort(t *testing.T) {
	for _, r := range []impl.Resp{
		{Code: 200},
		{Code: 200, Body: "z"},
		{Code: 207, Heads: []impl.Head{{Name: "x", Val: "y"}, {Name: "z"}}, Body: "\r\n\r\n"},
		{Code: 200, Body: topAnswer + noBody},
		{Code: 304, Heads: eightHeads()},
		fullResp(),
	} {
		b := impl.PutResp(r)
		if len(b) == 0 {
			t.Fatalf("%v has no bytes", r)
		}
		for i := range b {
			// The room behind holds all the rest: it must not be read.
			wantNoResp(t, b[:i])
			wantNoResp(t, slices.Clip(slices.Clone(b[:i])))
		}
	}
	wantNoResp(t, nil)
}

func TestFirstLinesOfAnswers(t *testing.T) {
	for _, s := range []string{
		"", " ", "HTTP/1.1", "HTTP/1.1 ", "200", " 200", "HTTP/1.1200", "HTTP/1.1  200", "HTTP/1.1\t200", " HTTP/1.1 200", "HTTP/1.1 200 ", "HTTP/1.1 200\t",
		"HTTP/1.1 200 OK", "HTTP/1.1 OK", "HTTP/1.1 200 200", "HTTP/1.1 HTTP/1.1 200",
		"HTTP/1.0 200", "HTTP/1.10 200", "HTTP/1. 200", "HTTP/2 200", "http/1.1 200", "HTTP 1.1 200", "XHTTP/1.1 200", "HTTP/1.1: 200",
		"HTTP/1.1 0", "HTTP/1.1 9", "HTTP/1.1 20", "HTTP/1.1 99", "HTTP/1.1 099", "HTTP/1.1 0200", "HTTP/1.1 00200", "HTTP/1.1 2000", "HTTP/1.1 1000", "HTTP/1.1 600", "HTTP/1.1 999",
		"HTTP/1.1 20000000", "HTTP/1.1 18446744073709551816", "HTTP/1.1 4294967496",
		"HTTP/1.1 -200", "HTTP/1.1 +200", "HTTP/1.1 20x", "HTTP/1.1 x00", "HTTP/1.1 2 0", "HTTP/1.1 0xc8", "HTTP/1.1 200.0", "HTTP/1.1 \xd9\xa2\xd9\xa0\xd9\xa0",
		"GET / HTTP/1.1", "x: y",
	} {
		wantNoResp(t, []byte(s+"\r\n"+noBody))
		wantNoResp(t, []byte(s+"\r\nx: y\r\n"+noBody))
		wantNoResp(t, []byte(s+"\r\n\r\n"))
	}
	wantNoResp(t, []byte(noBody))
	wantNoResp(t, []byte("\r\n"+topAnswer+noBody))
	wantNoResp(t, []byte("\r\n\r\n"))
}

func TestHeadLinesOfAnswers(t *testing.T) {
	v60, n20 := strings.Repeat("v", 60), strings.Repeat("n", 20)
	for s, want := range map[string]impl.Head{
		"x: y":                 {Name: "x", Val: "y"},
		"x: ":                  {Name: "x"},
		"x: :":                 {Name: "x", Val: ":"},
		"x: y: z":              {Name: "x", Val: "y: z"},
		"x: a  b":              {Name: "x", Val: "a  b"},
		"x: content-length: 0": {Name: "x", Val: "content-length: 0"},
		"x: Y":                 {Name: "x", Val: "Y"},
		n20 + ": " + v60:       {Name: n20, Val: v60},
		"content-lengths: 0":   {Name: "content-lengths", Val: "0"},
	} {
		wantResp(t, topAnswer+s+"\r\n"+noBody, "H", withHead(want))
	}
	for _, s := range []string{
		"X: y", "eTag: y", "x:y", "x:", "x:  y", "x:  ", "x:\ty", "x: \ty", "x: y ", "x: y\t", "x : y", " x: y", "\tx: y", "x", "", " ", ":", ": ", ": y", "x y: z",
		"1: y", "-x: y", "x_y: z", "x.y: z", "\xffx: y", n20 + "n: y", "x: " + v60 + "v", "x: y\tz", "x: y\x00z", "x: \x1f", "x: \x7f", "x: \x80", "x: \xc3\xa4",
		"transfer-encoding: chunked", "transfer-encoding: ", "Transfer-Encoding: chunked", "content-length: 0", "content-length: ", "Content-Length: 0", "content-length:0",
	} {
		wantNoResp(t, []byte(topAnswer+s+"\r\n"+noBody))
		wantNoResp(t, []byte(topAnswer+"a: b\r\n"+s+"\r\n"+noBody))
		wantNoResp(t, []byte(topAnswer+s+"\r\na: b\r\n"+noBody))
	}
	for n := 0; n <= 20; n++ {
		s := topAnswer + strings.Repeat("a: \r\n", n) + noBody
		if n > impl.MaxHeads {
			wantNoResp(t, []byte(s))
			continue
		}
		wantResp(t, s, "", impl.Resp{Code: 200, Heads: slices.Repeat([]impl.Head{{Name: "a"}}, n)})
	}
}

func TestLengthsOfAnswers(t *testing.T) {
	body := strings.Repeat("0", 500)
	for _, val := range []string{
		"401", "402", "500", "999", "4000", "9999999", "10000000", "99999999999999999999", "18446744073709551616",
		"00", "01", "010", "0400", "-1", "-0", "+1", "", " ", " 1", "1 ", "\t1", "1\t", "1 1", "1,1", "0x1", "1a", "a", "1.0", "1e1", "\xff", "chunked",
	} {
		wantNoResp(t, []byte(topAnswer+"content-length: "+val+"\r\n\r\n"+body))
		wantNoResp(t, []byte(topAnswer+"x: y\r\ncontent-length: "+val+"\r\n\r\n"+body))
	}
	for _, lines := range []string{
		"", "x: y\r\n", "x: 0\r\n", "content-lengths: 0\r\n", "Content-Length: 0\r\n", "CONTENT-LENGTH: 0\r\n", "content-length:0\r\n", "content-length:  0\r\n", "content-length : 0\r\n", " content-length: 0\r\n", "content-length\r\n",
		"content-length: 0\r\ncontent-length: 0\r\n", "content-length: 1\r\ncontent-length: 1\r\n", "content-length: 0\r\ncontent-length: 1\r\n", "content-length: 0\r\nx: y\r\ncontent-length: 0\r\n",
		"content-length: 0\r\nx: y\r\n", "content-length: 1\r\nx: y\r\n", "content-length: 9\r\nx: y\r\n",
		"transfer-encoding: chunked\r\n", "transfer-encoding: chunked\r\ncontent-length: 0\r\n", "content-length: 0\r\ntransfer-encoding: chunked\r\n",
		"content-length: 0", "content-length: 0\r", "content-length: 0\n", "content-length: 0\n\r",
	} {
		for _, behind := range []string{"", "0", body, noBody} {
			wantNoResp(t, []byte(topAnswer+lines+"\r\n"+behind))
		}
	}
	// What is told counts, not what is there.
	wantResp(t, topAnswer+"content-length: 3\r\n\r\n000", body, impl.Resp{Code: 200, Body: "000"})
	wantResp(t, topAnswer+noBody, body, plainResp())
	wantResp(t, topAnswer+noBody, "content-length: 0\r\n\r\n", plainResp())
	for n := 1; n <= mostOfAll; n++ {
		wantNoResp(t, []byte(topAnswer+"content-length: "+strconv.Itoa(n)+"\r\n\r\n"+body[:n-1]))
	}
}

func TestHalfALinesEndOfAnswers(t *testing.T) {
	for _, s := range []string{
		"HTTP/1.1 200\r" + noBody,
		"HTTP/1.1 200\n" + noBody,
		"HTTP/1.1 200\n\r" + noBody,
		"HTTP/1.1 200\r\r\n" + noBody,
		"HTTP/1.1 200\n\r\n" + noBody,
		"HTTP/1.1 200\r\n\r" + noBody,
		"HTTP/1.1 200\r\n\n" + noBody,
		"HTTP/1.1 200\r\n\r\n" + noBody,
		"HTTP/1.1\r\n200\r\n" + noBody,
		"HTTP/1.1 20\r0\r\n" + noBody,
		"HTTP/1.1 20\n0\r\n" + noBody,
		topAnswer + "x: y\r" + noBody,
		topAnswer + "x: y\n" + noBody,
		topAnswer + "x: y\r\r\n" + noBody,
		topAnswer + "x: y\n\r\n" + noBody,
		topAnswer + "x: y\rz\r\n" + noBody,
		topAnswer + "x: y\nz\r\n" + noBody,
		topAnswer + "x: y\nz: 1\r\n" + noBody,
		topAnswer + "x\r: y\r\n" + noBody,
		topAnswer + "x\n: y\r\n" + noBody,
		topAnswer + "x\r\ny: z\r\n" + noBody,
		topAnswer + "x:\r\ny\r\n" + noBody,
		topAnswer + "x: y\r\n\r\n" + noBody,
		topAnswer + "content-length: 0\r\n\r",
		topAnswer + "content-length: 0\r\n\n",
		topAnswer + "content-length: 0\r\r\n",
		topAnswer + "content-length: 0\n\r\n",
		topAnswer + "content-length: 0\n\n",
		topAnswer + "content-length: 0\r\n\r\r\n",
		topAnswer + "content-length: 0\r\r\n\r\n",
		topAnswer + "content-length: 0\n\r\n\r\n",
		topAnswer + "content-length: 1\r\n\nzz",
		topAnswer + "content-length: 1\r\nzz",
		topAnswer + "content-\r\nlength: 0\r\n\r\n",
		topAnswer + "content-length:\r\n 0\r\n\r\n",
	} {
		wantNoResp(t, []byte(s))
		wantNoResp(t, []byte(s+"\r\n\r\n"))
	}
}

// answerForm is that of what PutResp tells ahead of a Body, but for the two
// Names that no Head has.
var answerForm = regexp.MustCompile(`\AHTTP/1\.1 ([1-5][0-9][0-9])\r\n((?:[a-z][a-z0-9-]{0,19}: (?:[!-~](?:[ -~]{0,58}[!-~])?)?\r\n){0,8}?)content-length: (0|[1-9][0-9]{0,2})\r\n\r\n`)

func readByForm(s string) (impl.Resp, int, bool) {
	m := answerForm.FindStringSubmatch(s)
	if m == nil {
		return impl.Resp{}, 0, false
	}
	r := impl.Resp{}
	r.Code, _ = strconv.Atoi(m[1])
	for line := range strings.SplitAfterSeq(m[2], "\r\n") {
		name, val, _ := strings.Cut(strings.TrimSuffix(line, "\r\n"), ": ")
		if name == "content-length" || name == "transfer-encoding" {
			return impl.Resp{}, 0, false
		}
		if line != "" {
			r.Heads = append(r.Heads, impl.Head{Name: name, Val: val})
		}
	}
	n, _ := strconv.Atoi(m[3])
	if n > mostOfAll || n > len(s)-len(m[0]) {
		return impl.Resp{}, 0, false
	}
	r.Body = s[len(m[0]) : len(m[0])+n]
	return r, len(m[0]) + n, true
}

func wantAsByForm(t *testing.T, s string) bool {
	t.Helper()
	want, n, ok := readByForm(s)
	r, m, good := impl.GetResp([]byte(s))
	if good != ok || m != n || !impl.SameResp(r, want) {
		t.Fatalf("GetResp(%q) is %v, %d, %v, not %v, %d, %v", s, r, m, good, want, n, ok)
	}
	if good && (!impl.RespOk(r) || string(impl.PutResp(r)) != s[:m]) {
		t.Fatalf("%q has the answer %v, but it has other bytes", s, r)
	}
	return good
}

func TestAnswersOfWhateverIsTurned(t *testing.T) {
	counts := map[bool]int{}
	for _, s := range []string{
		topAnswer + noBody,
		"HTTP/1.1 599\r\nx: y\r\ncontent-length: 2\r\n\r\n\r\n",
		"HTTP/1.1 100\r\nx: y z\r\na-1: \r\ncontent-length: 12\r\n\r\nHTTP/1.1 200\r\n",
		topAnswer + strings.Repeat("a: \r\n", 8) + "content-length: 1\r\n\r\nzy",
		topAnswer + "content-lengths: 1\r\n" + noBody + "tail",
		topAnswer + "transfer-encodin: 1\r\n" + noBody,
		topAnswer + strings.Repeat("n", 20) + ": " + strings.Repeat("v", 60) + "\r\n" + noBody,
		topAnswer + "content-length: 399\r\n\r\n" + strings.Repeat("z", 400),
		topAnswer + "content-length: 401\r\n\r\n" + strings.Repeat("z", 401),
	} {
		for i := range min(len(s), 130) {
			counts[wantAsByForm(t, s[:i]+s[i+1:])]++
			counts[wantAsByForm(t, s[:i]+s[i:i+1]+s[i:])]++
			for c := 0; c < 256; c++ {
				one := string([]byte{byte(c)})
				counts[wantAsByForm(t, s[:i]+one+s[i+1:])]++
				counts[wantAsByForm(t, s[:i]+one+s[i:])]++
			}
		}
	}
	if counts[true] < 1000 || counts[false] < 1000 {
		t.Errorf("%d are answers, and %d are none", counts[true], counts[false])
	}
}

func TestAnswersOfLinesInEachOrder(t *testing.T) {
	lines := []string{"HTTP/1.1 200\r\n", "x: y\r\n", "content-length: 0\r\n", "content-length: 2\r\n", "\r\n", "\r", "\n"}
	texts := []string{""}
	good := 0
	for range 6 {
		var longer []string
		for _, s := range texts {
			if wantAsByForm(t, s) {
				good++
			}
			for _, line := range lines {
				longer = append(longer, s+line)
			}
		}
		texts = longer
	}
	if good == 0 {
		t.Error("no text is an answer")
	}
}

func TestRespsLeaveTheirArguments(t *testing.T) {
	heads := []impl.Head{{Name: "x", Val: "1"}, {Name: "y", Val: "2"}, {Name: "content-length"}}
	kept := slices.Clone(heads)
	r := impl.Resp{Code: 200, Heads: heads[:1], Body: "abc"}
	const want = topAnswer + "x: 1\r\ncontent-length: 3\r\n\r\nabc"
	a, b := impl.PutResp(r), impl.PutResp(r)
	clear(a[:cap(a)])
	if string(b) != want || string(impl.PutResp(r)) != want {
		t.Errorf("two answers share, or what lies behind the length was read: %q", b)
	}
	if r.Heads = heads[:2]; !impl.RespOk(r) || !impl.SameResp(r, impl.Resp{Code: 200, Heads: kept[:2], Body: "abc"}) {
		t.Error("what lies behind the length was read")
	}
	if !slices.Equal(heads, kept) {
		t.Errorf("an argument was written into: %q", heads)
	}
	whole := []byte(want + "behind")
	x, _, _ := impl.GetResp(whole[:len(want)])
	y, _, _ := impl.GetResp(whole[:len(want)])
	if string(whole) != want+"behind" {
		t.Errorf("an argument was written into: %q", whole)
	}
	clear(whole)
	x.Heads[0] = impl.Head{}
	if !impl.SameResp(y, impl.Resp{Code: 200, Heads: kept[:1], Body: "abc"}) {
		t.Errorf("what was answered turned with the argument: %v", y)
	}
	if !bytes.Equal(impl.PutResp(y), []byte(want)) {
		t.Error("what came back has other bytes")
	}
}

func TestCodesAreConstantsWithIota(t *testing.T) {
	f, err := parser.ParseFile(token.NewFileSet(), "../impl/l05_resp.go", nil, 0)
	if err != nil {
		t.Fatal(err)
	}
	counted := map[string]bool{}
	for _, d := range f.Decls {
		if g, ok := d.(*ast.GenDecl); ok && g.Tok == token.CONST && names(g)["iota"] {
			for _, s := range g.Specs {
				for _, name := range s.(*ast.ValueSpec).Names {
					counted[name.Name] = true
				}
			}
		}
	}
	used := 0
	for _, d := range f.Decls {
		if fn, ok := d.(*ast.FuncDecl); ok {
			for name := range names(fn) {
				if counted[name] {
					used++
				}
			}
		}
	}
	if used == 0 {
		t.Error("no code in l05_resp.go is a constant with iota")
	}
}

func names(n ast.Node) map[string]bool {
	all := map[string]bool{}
	ast.Inspect(n, func(n ast.Node) bool {
		if name, ok := n.(*ast.Ident); ok {
			all[name.Name] = true
		}
		return true
	})
	return all
}
