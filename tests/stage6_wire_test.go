package tests

import (
	"bytes"
	"go/ast"
	"go/parser"
	"go/token"
	"math"
	"math/rand/v2"
	"slices"
	"strings"
	"testing"

	"loop.example/g00452/impl"
)

const inPieces = topLine + "transfer-encoding: chunked\r\n\r\n"

// A stream is bytes that come on a wire, and what is to be read of them.
type stream struct {
	s    string
	reqs []impl.Req
	buf  string
	bad  int
}

// with is a stream of which more bytes come, all of them one request.
func (x stream) with(s string, r impl.Req) stream {
	return stream{s: x.s + s, reqs: append(slices.Clone(x.reqs), r)}
}

// short is a stream of which more bytes come, which are not yet a request.
func (x stream) short(s string) stream { return stream{x.s + s, x.reqs, s, 0} }

// spoilt is a stream of which more bytes come, which are bad.
func (x stream) spoilt(s string, code int) stream { return stream{x.s + s, x.reqs, "", code} }

func wantStream(t *testing.T, how string, w impl.Wire, l []impl.Req, x stream) {
	t.Helper()
	if !slices.EqualFunc(l, x.reqs, impl.SameReq) {
		t.Fatalf("%s: of %q the requests %q are read, not %q", how, x.s, l, x.reqs)
	}
	if string(w.Buf) != x.buf || w.Bad != x.bad {
		t.Fatalf("%s: of %q are left %q, %d, not %q, %d", how, x.s, w.Buf, w.Bad, x.buf, x.bad)
	}
}

// cutAt cuts s at ascending places; where two are alike the piece between is
// empty.
func cutAt(s string, places ...int) [][]byte {
	l := [][]byte{}
	from := 0
	for _, to := range places {
		l = append(l, []byte(s[from:to]))
		from = to
	}
	return append(l, []byte(s[from:]))
}

func byteByByte(s string) [][]byte {
	l := [][]byte{}
	for i := range len(s) {
		l = append(l, []byte(s[i:i+1]))
	}
	return l
}

func feedEach(l [][]byte) (impl.Wire, []impl.Req) {
	var w impl.Wire
	var all, more []impl.Req
	for _, b := range l {
		w, more = impl.Feed(w, b)
		all = append(all, more...)
	}
	return w, all
}

func wantOfPieces(t *testing.T, l [][]byte, x stream) {
	t.Helper()
	w, reqs := impl.FeedAll(l)
	wantStream(t, "FeedAll", w, reqs, x)
	w, reqs = feedEach(l)
	wantStream(t, "Feed of each", w, reqs, x)
	if s := string(impl.Joined(l)); s != x.s {
		t.Fatalf("Joined is %q, not %q", s, x.s)
	}
}

// wantHowever asks for what is read at once, byte by byte, of each cut in
// two, and of the first part where it stands in Buf already.
func wantHowever(t *testing.T, x stream) {
	t.Helper()
	wantOfPieces(t, [][]byte{[]byte(x.s)}, x)
	wantOfPieces(t, byteByByte(x.s), x)
	for i := 0; i <= len(x.s); i++ {
		wantOfPieces(t, cutAt(x.s, i), x)
		w, l := impl.Feed(impl.Wire{Buf: []byte(x.s[:i])}, []byte(x.s[i:]))
		wantStream(t, "Feed of a wire", w, l, x)
	}
}

type goodPart struct {
	s string
	r impl.Req
}

func goodParts() []goodPart {
	every := everyByte()
	get := impl.Req{Method: "GET", Path: "/b"}
	put := impl.Req{Method: "PUT", Path: "/a", Body: "one"}
	like := impl.Req{Method: "PUT", Path: "/a", Heads: []impl.Head{{Name: "x", Val: "1 2"}, {Name: "y"}}, Body: "\r\n\r\nGET / HTTP/1.1\r\n\r\n"}
	large := impl.Req{Method: "PUT", Path: "/c", Heads: eightHeads(), Body: every[:impl.MaxBody]}
	wide := wideReq(impl.MaxHead, "z")
	return []goodPart{
		{string(impl.PutReq(get)), get},
		{string(impl.PutReq(put)), put},
		{string(impl.PutReq(like)), like},
		{string(impl.PutReq(large)), large},
		{string(impl.PutReq(wide)), wide},
		{string(impl.PutChunked(get, nil)), get},
		{string(impl.PutChunked(put, []int{1})), put},
		{string(impl.PutChunked(like, []int{2, 16})), like},
		{string(impl.PutChunked(large, []int{10, 100})), large},
		{"A / HTTP/1.1\r\nX-Y:v \r\nContent-Length: 0\r\n\r\n", impl.Req{Method: "A", Path: "/", Heads: []impl.Head{{Name: "x-y", Val: "v"}}}},
		{topLine + "Transfer-Encoding:\tCHUNKED \r\n\r\n000A\r\n0123456789\r\n0000\r\n\r\n", impl.Req{Method: "A", Path: "/", Body: "0123456789"}},
	}
}

type badPart struct {
	s    string
	code int
}

// badParts are each bad by their last byte: without it more could come.
func badParts() []badPart {
	most := strings.Repeat("z", impl.MaxBody)
	return []badPart{
		{"\r\n\r\n", impl.HtForm},
		{"bad\r\n\r\n", impl.HtForm},
		{"a / HTTP/1.1\r\n\r\n", impl.HtForm},
		{"A / HTTP/1.0\r\n\r\n", impl.HtForm},
		{"\r\n" + topLine + "\r\n", impl.HtForm},
		{topLine + "x\r\n\r\n", impl.HtForm},
		{topLine + "content-length: x\r\n\r\n", impl.HtForm},
		{topLine + "content-length: 1\r\ncontent-length: 1\r\n\r\n", impl.HtForm},
		{inPieces + "g", impl.HtForm},
		{inPieces + "\r", impl.HtForm},
		{inPieces + "00001", impl.HtForm},
		{inPieces + "1\rz", impl.HtForm},
		{inPieces + "1\r\nzy", impl.HtForm},
		{inPieces + "1\r\nz\r\nx", impl.HtForm},
		{inPieces + "0\r\nx", impl.HtForm},
		{inPieces + "0\r\n\rx", impl.HtForm},
		{topLine + "content-length: 201\r\n\r\n", impl.HtLarge},
		{topLine + "content-length: 9999999\r\n\r\n", impl.HtLarge},
		{inPieces + "c9\r\n", impl.HtLarge},
		{inPieces + "c8\r\n" + most + "\r\n1\r\n", impl.HtLarge},
		{topLine + strings.Repeat("a: \r\n", impl.MaxHeads+1) + "\r\n", impl.HtHeads},
		{strings.Repeat("x", impl.MaxHead+1), impl.HtHeads},
		{strings.TrimSuffix(string(impl.PutReq(wideReq(impl.MaxHead, ""))), "\r\n\r\n") + "v\r\n\r\n", impl.HtHeads},
		{topLine + "transfer-encoding: gzip\r\n\r\n", impl.HtCode},
	}
}

func TestNothingOnAWire(t *testing.T) {
	for _, buf := range [][]byte{nil, {}, []byte(topLine + "\r\n")[:0]} {
		for _, b := range [][]byte{nil, {}, []byte(topLine + "\r\n")[:0]} {
			w, l := impl.Feed(impl.Wire{Buf: buf}, b)
			wantStream(t, "nothing", w, l, stream{})
		}
	}
}

func TestEachRequestHoweverItIsCut(t *testing.T) {
	for _, g := range goodParts() {
		x := stream{}.with(g.s, g.r)
		wantHowever(t, x)
		for i := range len(g.s) {
			w, l := impl.Feed(impl.Wire{}, []byte(g.s[:i]))
			wantStream(t, "a part", w, l, stream{}.short(g.s[:i]))
			for _, none := range [][]byte{nil, {}} {
				w, l = impl.Feed(w, none)
				wantStream(t, "a part, and nothing", w, l, stream{}.short(g.s[:i]))
			}
			w, l = impl.Feed(w, []byte(g.s[i:]))
			wantStream(t, "the other part", w, l, x)
		}
	}
}

func TestRequestsBehindEachOtherHoweverTheyAreCut(t *testing.T) {
	parts := goodParts()
	for _, a := range parts {
		for _, b := range parts {
			x := stream{}.with(a.s, a.r).with(b.s, b.r)
			wantHowever(t, x)
			for i := range len(b.s) {
				w, l := impl.Feed(impl.Wire{}, []byte(a.s+b.s[:i]))
				wantStream(t, "one and a part", w, l, stream{}.with(a.s, a.r).short(b.s[:i]))
			}
		}
	}
	for i := range parts {
		var x stream
		for _, g := range slices.Concat(parts[i:], parts[:i]) {
			x = x.with(g.s, g.r)
		}
		wantHowever(t, x)
	}
}

// The places where a cut is most likely to be read wrongly.
func TestCutsByTheirPlaces(t *testing.T) {
	told := stream{}.with(topLine+"content-length: 4\r\n\r\n\r\n\r\n", impl.Req{Method: "A", Path: "/", Body: "\r\n\r\n"})
	pieces := stream{}.with(inPieces+"0a\r\n0123456789\r\n00\r\n\r\n", impl.Req{Method: "A", Path: "/", Body: "0123456789"})
	next := topLine + "\r\n"
	for _, c := range []struct {
		x    stream
		left string
	}{
		{told, "A"},
		{told, "A / HTTP/1.1"},
		{told, "A / HTTP/1.1\r"},
		{told, topLine},
		{told, topLine + "content-length: 4\r"},
		{told, topLine + "content-length: 4\r\n"},
		{told, topLine + "content-length: 4\r\n\r"},
		{told, topLine + "content-length: 4\r\n\r\n"},
		{told, topLine + "content-length: 4\r\n\r\n\r\n"},
		{told, topLine + "content-length: 4\r\n\r\n\r\n\r"},
		{pieces, inPieces[:len(inPieces)-1]},
		{pieces, inPieces},
		{pieces, inPieces + "0"},
		{pieces, inPieces + "0a"},
		{pieces, inPieces + "0a\r"},
		{pieces, inPieces + "0a\r\n"},
		{pieces, inPieces + "0a\r\n012345"},
		{pieces, inPieces + "0a\r\n0123456789"},
		{pieces, inPieces + "0a\r\n0123456789\r"},
		{pieces, inPieces + "0a\r\n0123456789\r\n"},
		{pieces, inPieces + "0a\r\n0123456789\r\n0"},
		{pieces, inPieces + "0a\r\n0123456789\r\n00\r"},
		{pieces, inPieces + "0a\r\n0123456789\r\n00\r\n"},
		{pieces, inPieces + "0a\r\n0123456789\r\n00\r\n\r"},
	} {
		w, l := impl.Feed(impl.Wire{}, []byte(next+c.left))
		wantStream(t, "ahead of the cut", w, l, stream{}.with(next, plainReq()).short(c.left))
		w, l = impl.Feed(w, []byte(c.x.s[len(c.left):]+next+"A"))
		wantStream(t, "behind the cut", w, l, c.x.with(next, plainReq()).short("A"))
	}
}

func TestBadBytes(t *testing.T) {
	seen := map[int]bool{}
	good := goodParts()
	for i, bad := range badParts() {
		seen[bad.code] = true
		last := len(bad.s) - 1
		var x stream
		for _, g := range []goodPart{good[i%len(good)], good[(i+3)%len(good)]} {
			wantHowever(t, x.spoilt(bad.s, bad.code))
			w, l := impl.Feed(impl.Wire{}, []byte(x.s+bad.s[:last]))
			wantStream(t, "ahead of the last byte", w, l, x.short(bad.s[:last]))
			w, l = impl.Feed(w, []byte(bad.s[last:]))
			wantStream(t, "the last byte", w, l, stream{s: bad.s, bad: bad.code})
			x = x.with(g.s, g.r)
		}
	}
	for _, code := range []int{impl.HtForm, impl.HtLarge, impl.HtHeads, impl.HtCode} {
		if !seen[code] {
			t.Errorf("nothing has the code %d", code)
		}
	}
}

func tailsOfBad() []string {
	tails := []string{"", "\x00", "\n", "\r\n\r\n", "A", topLine, topLine + "\r\n", lastChunk + topLine + "\r\n", strings.Repeat("x", 1000)}
	for _, bad := range badParts() {
		tails = append(tails, bad.s)
	}
	return tails
}

func TestBytesBehindWhatIsBad(t *testing.T) {
	put := goodParts()[1]
	x := stream{}.with(put.s, put.r)
	for _, bad := range badParts() {
		for _, tail := range tailsOfBad() {
			y := x.spoilt(bad.s+tail, bad.code)
			wantOfPieces(t, [][]byte{[]byte(y.s)}, y)
			wantOfPieces(t, cutAt(y.s, len(x.s)), y)
			wantOfPieces(t, cutAt(y.s, len(x.s)+len(bad.s)-1), y)
			wantOfPieces(t, cutAt(y.s, len(x.s)+len(bad.s)), y)
			wantOfPieces(t, cutAt(y.s, len(x.s), len(x.s)+len(bad.s), len(y.s), len(y.s)), y)
			wantOfPieces(t, byteByByte(y.s), y)
		}
	}
}

func TestABadWireStaysAsItIs(t *testing.T) {
	texts := append(tailsOfBad(), topLine[:5], topLine+"\r\n"+topLine+"\r\nA")
	for _, bad := range []int{impl.HtMore, impl.HtForm, impl.HtLarge, impl.HtHeads, impl.HtCode, 2, 200, -1, -400, math.MaxInt, math.MinInt} {
		for _, buf := range texts {
			for _, s := range texts {
				w, l := impl.Feed(impl.Wire{Buf: []byte(buf), Bad: bad}, []byte(s))
				wantStream(t, "a bad wire", w, l, stream{s: s, buf: buf, bad: bad})
			}
			w, l := impl.Feed(impl.Wire{Buf: []byte(buf), Bad: bad}, nil)
			wantStream(t, "a bad wire, and nothing", w, l, stream{buf: buf, bad: bad})
		}
		w, l := impl.Feed(impl.Wire{Bad: bad}, []byte(topLine+"\r\n"))
		wantStream(t, "a bad wire without a Buf", w, l, stream{bad: bad})
	}
}

func TestNoPiecesAndEmptyOnes(t *testing.T) {
	for _, l := range [][][]byte{nil, {}, {nil}, {{}}, {nil, {}, nil}, make([][]byte, 50)} {
		wantOfPieces(t, l, stream{})
	}
	for _, g := range goodParts() {
		x := stream{}.with(g.s, g.r).short("A /")
		l := [][]byte{nil, {}}
		for _, b := range byteByByte(x.s) {
			l = append(l, b, nil, []byte{})
		}
		wantOfPieces(t, l, x)
		wantOfPieces(t, [][]byte{nil, []byte(x.s), {}}, x)
	}
}

func TestAllCutsInThree(t *testing.T) {
	get, put := plainReq(), impl.Req{Method: "A", Path: "/", Body: "\r\n"}
	for _, x := range []stream{
		stream{}.with(topLine+"\r\n", get).with(topLine+"content-length: 2\r\n\r\n\r\n", put).short("A"),
		stream{}.with(inPieces+"1\r\n\r\r\n1\r\n\n\r\n0\r\n\r\n", put).with(topLine+"\r\n", get),
		stream{}.with(topLine+"\r\n", get).spoilt(inPieces+"0\r\n0\r\n\r\n"+topLine+"\r\n", impl.HtForm),
		stream{}.with(topLine+"\r\n", get).spoilt(inPieces+"fff\r\n"+topLine+"\r\n", impl.HtLarge),
	} {
		for i := 0; i <= len(x.s); i++ {
			for k := i; k <= len(x.s); k++ {
				wantOfPieces(t, cutAt(x.s, i, k), x)
			}
		}
	}
}

// drawStream lays drawn parts behind each other, and cuts the last one off,
// lets something bad come, or neither.
func drawStream(draw *rand.Rand) stream {
	good, bad := goodParts(), badParts()
	var x stream
	for range draw.IntN(8) {
		g := good[draw.IntN(len(good))]
		x = x.with(g.s, g.r)
	}
	switch draw.IntN(3) {
	case 0:
		g := good[draw.IntN(len(good))]
		x = x.short(g.s[:draw.IntN(len(g.s))])
	case 1:
		b, tails := bad[draw.IntN(len(bad))], tailsOfBad()
		x = x.spoilt(b.s+tails[draw.IntN(len(tails))], b.code)
	}
	return x
}

func drawCuts(draw *rand.Rand, s string) [][]byte {
	places := []int{}
	for range draw.IntN(20) {
		places = append(places, draw.IntN(len(s)+1))
	}
	slices.Sort(places)
	return cutAt(s, places...)
}

func TestDrawnCuts(t *testing.T) {
	draw := rand.New(rand.NewPCG(6, 6))
	for range 400 {
		x := drawStream(draw)
		for range 10 {
			wantOfPieces(t, drawCuts(draw, x.s), x)
		}
	}
}

// readAtOnce goes by GetReq of the whole bytes that are left.
func readAtOnce(s string) stream {
	x := stream{s: s}
	for at := 0; ; {
		r, n, code := impl.GetReq([]byte(s[at:]))
		switch code {
		case impl.HtGood:
			x.reqs = append(x.reqs, r)
			at += n
		case impl.HtMore:
			x.buf = s[at:]
			return x
		default:
			x.bad = code
			return x
		}
	}
}

func TestWhateverIsTurnedIsReadTheSameHoweverItIsCut(t *testing.T) {
	bads := map[int]int{}
	for _, s := range []string{
		topLine + "\r\n" + topLine + "content-length: 12\r\n\r\n\r\n\r\nA / HTTP" + topLine + "\r\n",
		inPieces + "1\r\nz\r\n0a\r\n0123456789\r\n0\r\n\r\n" + topLine + "\r\n",
		topLine + strings.Repeat("a: \r\n", 8) + "content-length: 0\r\n\r\n" + inPieces + lastChunk,
	} {
		for i := range len(s) {
			turned := []string{s[:i], s[:i] + s[i+1:], s[:i] + s[i:i+1] + s[i:]}
			for _, c := range []byte("\x00\t\n\r 09:AGaclz\xff") {
				one := string([]byte{c})
				turned = append(turned, s[:i]+one+s[i+1:], s[:i]+one+s[i:])
			}
			for _, s := range turned {
				x := readAtOnce(s)
				bads[x.bad]++
				wantOfPieces(t, [][]byte{[]byte(s)}, x)
				wantOfPieces(t, byteByByte(s), x)
				wantOfPieces(t, cutAt(s, i, min(i+1, len(s))), x)
			}
		}
	}
	for _, code := range []int{0, impl.HtForm, impl.HtLarge, impl.HtHeads, impl.HtCode} {
		if bads[code] == 0 {
			t.Errorf("no wire has the code %d", code)
		}
	}
}

// After each byte the wire is as if these had come at once: nothing is put
// off, and nothing is told too early.
func TestEachBeginningIsAsAtOnce(t *testing.T) {
	draw := rand.New(rand.NewPCG(6, 7))
	for range 60 {
		s := drawStream(draw).s
		var w impl.Wire
		var all, more []impl.Req
		for i, b := range byteByByte(s) {
			w, more = impl.Feed(w, b)
			all = append(all, more...)
			wantStream(t, "a beginning", w, all, readAtOnce(s[:i+1]))
		}
	}
}

func TestManyRequestsAtOnce(t *testing.T) {
	var x stream
	for _, g := range goodParts() {
		x.s += strings.Repeat(g.s, 300)
		x.reqs = append(x.reqs, slices.Repeat([]impl.Req{g.r}, 300)...)
	}
	wantOfPieces(t, [][]byte{[]byte(x.s)}, x)
	wantOfPieces(t, byteByByte(x.s), x)
	wantOfPieces(t, cutAt(x.s, len(x.s)/3, len(x.s)/2), x)
}

func TestJoined(t *testing.T) {
	for _, x := range []struct {
		l    [][]byte
		want string
	}{
		{nil, ""},
		{[][]byte{}, ""},
		{[][]byte{nil}, ""},
		{[][]byte{{}, nil, {}}, ""},
		{[][]byte{[]byte("a")}, "a"},
		{[][]byte{[]byte("a"), []byte("b")}, "ab"},
		{[][]byte{[]byte("b"), nil, []byte("a"), {}}, "ba"},
		{[][]byte{{}, []byte("\r\n"), []byte("\x00\xff"), []byte("\r\n")}, "\r\n\x00\xff\r\n"},
		{byteByByte(everyByte()), everyByte()},
		{[][]byte{[]byte("abc")[:1], []byte("def")[1:2]}, "ae"},
	} {
		if b := impl.Joined(x.l); string(b) != x.want {
			t.Errorf("Joined(%q) is %q, not %q", x.l, b, x.want)
		}
	}
}

func TestJoinedIsNewMemory(t *testing.T) {
	for _, n := range []int{1, 2, 3} {
		room := []byte("abcdef")
		l := slices.Repeat([][]byte{nil}, n-1)
		l = append(l, room[:3], []byte("unread"))[:n]
		a, b := impl.Joined(l), impl.Joined(l)
		if string(append(a, "xyz"...)) != "abcxyz" || string(room) != "abcdef" {
			t.Errorf("an argument was written into: %q", room)
		}
		clear(a[:cap(a)])
		if string(room) != "abcdef" || string(b) != "abc" {
			t.Errorf("what was answered shares: %q, %q", room, b)
		}
		clear(room)
		if string(b) != "abc" {
			t.Errorf("what was answered turned with the argument: %q", b)
		}
	}
}

func TestWiresLeaveTheirArguments(t *testing.T) {
	const lines = "A / HTTP/1.1\r\nx: 1\r\ny: 2\r\ncontent-length: 2\r\n\r\n"
	want := impl.Req{Method: "A", Path: "/", Heads: []impl.Head{{Name: "x", Val: "1"}, {Name: "y", Val: "2"}}, Body: "zy"}
	const s = lines + "zy" + lines + "zyA / HT"
	for _, i := range []int{0, 1, len(lines), len(lines) + 1, len(lines) + 2, len(s) - 3, len(s)} {
		// Whole requests lie in the room behind both.
		buf, b := []byte(s[:i]+s), []byte(s[i:]+s)
		given := impl.Wire{Buf: buf[:i]}
		w, l := impl.Feed(given, b[:len(s)-i])
		if string(buf) != s[:i]+s || string(b) != s[i:]+s || len(given.Buf) != i || given.Bad != 0 {
			t.Fatalf("an argument was written into: %q, %q", buf, b)
		}
		clear(buf)
		clear(b)
		wantStream(t, "the arguments are turned", w, l, stream{s, []impl.Req{want, want}, "A / HT", 0})
		clear(l[0].Heads[:cap(l[0].Heads)])
		clear(w.Buf[:cap(w.Buf)])
		if !impl.SameReq(l[1], want) || !bytes.Equal(buf, make([]byte, len(buf))) {
			t.Errorf("two lists of one answer share, or one with an argument: %q", l[1])
		}
	}
}

func TestWhatWasReadIsNotHandedOut(t *testing.T) {
	const s = topLine + "\r\n"
	w, _ := impl.Feed(impl.Wire{Buf: []byte(s)}, []byte(s+"A"))
	if room := w.Buf[:cap(w.Buf)]; len(bytes.Trim(room[1:], "\x00")) != 0 {
		t.Errorf("behind the length lies %q", room)
	}
	w, l := impl.Feed(impl.Wire{Buf: []byte(s)}, []byte("\r\n\r\n"+s))
	wantStream(t, "bad", w, l, stream{s, []impl.Req{plainReq()}, "", impl.HtForm})
	if room := w.Buf[:cap(w.Buf)]; len(bytes.Trim(room, "\x00")) != 0 {
		t.Errorf("behind what is bad lies %q", room)
	}
}

func TestAWireIsFedTwice(t *testing.T) {
	room := append([]byte(topLine), "room"...)
	for _, bad := range []int{0, impl.HtForm} {
		w := impl.Wire{Buf: room[:len(topLine)], Bad: bad}
		a, _ := impl.Feed(w, []byte("x:"))
		b, _ := impl.Feed(w, []byte("y:"))
		c, _ := impl.Feed(a, []byte("z"))
		if string(room) != topLine+"room" {
			t.Fatalf("an argument was written into: %q", room)
		}
		if bad != 0 {
			clear(a.Buf)
			wantStream(t, "a bad wire", b, nil, stream{buf: topLine, bad: bad})
			wantStream(t, "the wire behind a bad one", c, nil, stream{buf: topLine, bad: bad})
			continue
		}
		wantStream(t, "the first", a, nil, stream{buf: topLine + "x:"})
		wantStream(t, "the second", b, nil, stream{buf: topLine + "y:"})
		wantStream(t, "behind the first", c, nil, stream{buf: topLine + "x:z"})
	}
}

func TestPiecesAreLeftAsTheyAre(t *testing.T) {
	const s = topLine + "x: 1\r\n\r\n"
	room := []byte(s + s + "A" + s)
	kept := bytes.Clone(room)
	l := [][]byte{room[:10], room[10:len(s)], room[len(s) : 2*len(s)+1], []byte("\r\n\r\n")}
	w, reqs := impl.FeedAll(l[:3])
	joined := impl.Joined(l[:3])
	if !bytes.Equal(room, kept) || len(l[0]) != 10 || len(l[2]) != len(s)+1 {
		t.Fatalf("an argument was written into: %q", room)
	}
	clear(room)
	want := impl.Req{Method: "A", Path: "/", Heads: []impl.Head{{Name: "x", Val: "1"}}}
	wantStream(t, "the pieces are turned", w, reqs, stream{s, []impl.Req{want, want}, "A", 0})
	if string(joined) != s+s+"A" {
		t.Errorf("what was Joined turned with the pieces: %q", joined)
	}
}

func TestAWireEmbedsItsBuffer(t *testing.T) {
	f, err := parser.ParseFile(token.NewFileSet(), "../impl/l06_wire.go", nil, 0)
	if err != nil {
		t.Fatal(err)
	}
	methods := methodsByType(f)
	promoted := map[string]bool{}
	ast.Inspect(f, func(n ast.Node) bool {
		x, ok := n.(*ast.StructType)
		if !ok {
			return true
		}
		for _, field := range x.Fields.List {
			if name, ok := field.Type.(*ast.Ident); ok && len(field.Names) == 0 {
				for _, m := range methods[name.Name] {
					promoted[m] = true
				}
			}
		}
		return true
	})
	used := 0
	ast.Inspect(f, func(n ast.Node) bool {
		if x, ok := n.(*ast.SelectorExpr); ok && promoted[x.Sel.Name] {
			used++
		}
		return true
	})
	if used == 0 {
		t.Error("no method of an embedded buffer is used in l06_wire.go")
	}
}

func methodsByType(f *ast.File) map[string][]string {
	all := map[string][]string{}
	for _, d := range f.Decls {
		x, ok := d.(*ast.FuncDecl)
		if !ok || x.Recv == nil {
			continue
		}
		on := x.Recv.List[0].Type
		if p, ok := on.(*ast.StarExpr); ok {
			on = p.X
		}
		if name, ok := on.(*ast.Ident); ok {
			all[name.Name] = append(all[name.Name], x.Name.Name)
		}
	}
	return all
}
