package tests

import (
	"bytes"
	"go/ast"
	"go/parser"
	"go/token"
	"math"
	"slices"
	"strings"
	"testing"

	"loop.example/g00452/impl"
)

const lastChunk = "0\r\n\r\n"

func everyByte() string {
	b := make([]byte, 256)
	for c := range b {
		b[c] = byte(c)
	}
	return string(b)
}

// wantChunks asks for what is read of s, whatever stands ahead of it and
// behind it, and in the room behind the length.
func wantChunks(t *testing.T, s string, body string) {
	t.Helper()
	for _, lead := range []string{"", "x", "1\r\nz\r\n", strings.Repeat("\r\n", 300)} {
		for _, tail := range []string{"", "0", "\r\n", lastChunk, "GET / HTTP/1.1\r\n\r\n", strings.Repeat("x", 300)} {
			b := []byte(lead + s + tail)
			got, n, code := impl.GetChunks(b, len(lead))
			if got != body || n != len(lead)+len(s) || code != impl.HtGood {
				t.Errorf("GetChunks(%q, %d) is %q, %d, %d, not %q, %d, %d", b, len(lead), got, n, code, body, len(lead)+len(s), impl.HtGood)
			}
		}
	}
}

// wantNoChunks asks for the code, and for nothing and 0 beside it.
func wantNoChunks(t *testing.T, s string, want int) {
	t.Helper()
	for _, lead := range []string{"", "xyz", lastChunk} {
		// What lies in the room behind would make much of it whole.
		whole := []byte(lead + s + "\r\nz\r\n" + lastChunk)
		b := whole[:len(lead)+len(s)]
		if got, n, code := impl.GetChunks(b, len(lead)); got != "" || n != 0 || code != want {
			t.Errorf("GetChunks(%q, %d) is %q, %d, %d, not nothing, 0, %d", b, len(lead), got, n, code, want)
		}
	}
}

func wantEachBeginningToLack(t *testing.T, s string) {
	t.Helper()
	b := []byte(s)
	for i := range b {
		if got, n, code := impl.GetChunks(b[:i], 0); got != "" || n != 0 || code != impl.HtMore {
			t.Errorf("the first %d bytes of %q are %q, %d, %d", i, s, got, n, code)
		}
	}
}

func TestPutChunksByItsBytes(t *testing.T) {
	const two, three, six = "2\r\nab\r\n", "3\r\nabc\r\n", "6\r\nabcdef\r\n"
	for _, x := range []struct {
		body  string
		sizes []int
		want  string
	}{
		{"", nil, lastChunk},
		{"", []int{}, lastChunk},
		{"", []int{0}, lastChunk},
		{"", []int{1}, lastChunk},
		{"", []int{3, 0, -2, 5}, lastChunk},
		{"abcdef", nil, six + lastChunk},
		{"abcdef", []int{}, six + lastChunk},
		{"abcdef", []int{0}, six + lastChunk},
		{"abcdef", []int{-1}, six + lastChunk},
		{"abcdef", []int{0, -1, math.MinInt}, six + lastChunk},
		{"abcdef", []int{6}, six + lastChunk},
		{"abcdef", []int{7}, six + lastChunk},
		{"abcdef", []int{math.MaxInt}, six + lastChunk},
		{"abcdef", []int{math.MaxInt, math.MaxInt}, six + lastChunk},
		{"abcdef", []int{6, 1, 2}, six + lastChunk},
		{"abcdef", []int{9, 9, 0, -9}, six + lastChunk},
		{"abcdef", []int{5}, "5\r\nabcde\r\n1\r\nf\r\n" + lastChunk},
		{"abcdef", []int{1}, "1\r\na\r\n5\r\nbcdef\r\n" + lastChunk},
		{"abcdef", []int{3}, three + "3\r\ndef\r\n" + lastChunk},
		{"abcdef", []int{3, 3}, three + "3\r\ndef\r\n" + lastChunk},
		{"abcdef", []int{3, 2}, three + "2\r\nde\r\n1\r\nf\r\n" + lastChunk},
		{"abcdef", []int{3, 4}, three + "3\r\ndef\r\n" + lastChunk},
		{"abcdef", []int{3, 3, 3}, three + "3\r\ndef\r\n" + lastChunk},
		{"abcdef", []int{0, 2, -5, 0, 3, -1}, two + "3\r\ncde\r\n1\r\nf\r\n" + lastChunk},
		{"abcdef", []int{2, 4}, two + "4\r\ncdef\r\n" + lastChunk},
		{"abcdef", []int{2, math.MinInt, math.MaxInt, 1}, two + "4\r\ncdef\r\n" + lastChunk},
		{"\r\n0\r\n\r\n", []int{1}, "1\r\n\r\r\n6\r\n\n0\r\n\r\n\r\n" + lastChunk},
		{"\x00\xff", []int{1}, "1\r\n\x00\r\n1\r\n\xff\r\n" + lastChunk},
	} {
		if b := impl.PutChunks(x.body, x.sizes); string(b) != x.want {
			t.Errorf("PutChunks(%q, %d) is %q, not %q", x.body, x.sizes, b, x.want)
		}
	}
}

func TestPutChunksTellsItsSizesInSmallLetters(t *testing.T) {
	for n, digits := range map[int]string{1: "1", 9: "9", 10: "a", 15: "f", 16: "10", 100: "64", 171: "ab", 199: "c7", 200: "c8", 201: "c9", 255: "ff", 256: "100", 4095: "fff", 4096: "1000", 65535: "ffff", 65536: "10000"} {
		piece := strings.Repeat("z", n)
		want := digits + "\r\n" + piece + "\r\n" + lastChunk
		if b := impl.PutChunks(piece, nil); string(b) != want {
			t.Errorf("%d bytes at last are told as %.12q", n, b)
		}
		if b := impl.PutChunks(piece, []int{n}); string(b) != want {
			t.Errorf("a size of %d is told as %.12q", n, b)
		}
		if b := impl.PutChunks(piece+"y", []int{n}); string(b) != digits+"\r\n"+piece+"\r\n1\r\ny\r\n"+lastChunk {
			t.Errorf("a size of %d, and one byte more, is told as %.12q", n, b)
		}
	}
}

func TestPutChunksByteByByte(t *testing.T) {
	body := everyByte()[:impl.MaxBody]
	var want strings.Builder
	for i := range body {
		want.WriteString("1\r\n" + body[i:i+1] + "\r\n")
	}
	want.WriteString(lastChunk)
	for _, n := range []int{len(body) - 1, len(body), len(body) + 1} {
		if b := impl.PutChunks(body, slices.Repeat([]int{1}, n)); string(b) != want.String() {
			t.Errorf("%d sizes of 1: %q", n, b)
		}
	}
	wantChunks(t, want.String(), body)
	wantEachBeginningToLack(t, want.String())
}

func TestBodiesComeBackOfWhateverPieces(t *testing.T) {
	every := everyByte()
	bodies := []string{"", "z", "\r\n", lastChunk, "1\r\nz\r\n" + lastChunk, "0123456789abcdef", every[:impl.MaxBody], every[256-impl.MaxBody:], strings.Repeat("\r\n", impl.MaxBody/2)}
	lists := [][]int{nil, {0}, {-3}, {1}, {2, 3}, {10}, {16, 10}, {100}, {100, 100}, {199}, {200}, {201}, {1, 0, 2, -1, 3, 4, 5}, {math.MaxInt}, {math.MinInt, 7}, slices.Repeat([]int{3}, 70)}
	for _, body := range bodies {
		for _, sizes := range lists {
			s := string(impl.PutChunks(body, sizes))
			wantChunks(t, s, body)
			wantEachBeginningToLack(t, s)
		}
	}
}

// Each list of up to three sizes, around those that just take all.
func TestBodiesComeBackOfAllFewSizes(t *testing.T) {
	const body = "\r\na0"
	for a := -1; a <= 5; a++ {
		for b := -1; b <= 5; b++ {
			for c := -1; c <= 5; c++ {
				s := impl.PutChunks(body, []int{a, b, c})
				got, n, code := impl.GetChunks(s, 0)
				if got != body || n != len(s) || code != impl.HtGood {
					t.Errorf("of the sizes %d, %d, %d: %q, which is %q, %d, %d", a, b, c, s, got, n, code)
				}
			}
		}
	}
}

func TestBodiesOfEachLengthComeBack(t *testing.T) {
	for n := 0; n <= 300; n++ {
		body := strings.Repeat("z", n)
		for _, sizes := range [][]int{nil, {100}, {199}, {1, 99, 100}, slices.Repeat([]int{7}, 50)} {
			s := string(impl.PutChunks(body, sizes))
			if n > impl.MaxBody {
				wantNoChunks(t, s, impl.HtLarge)
			} else {
				wantChunks(t, s, body)
			}
		}
	}
}

func TestASizeThatIsNotAllThere(t *testing.T) {
	for _, s := range []string{"", "0", "1", "9", "a", "f", "A", "F", "00", "10", "c8", "c9", "fF", "000", "fff", "0000", "0001", "00c9", "1234", "ffff", "FFFF"} {
		wantNoChunks(t, s, impl.HtMore)
		wantNoChunks(t, "1\r\nz\r\n"+s, impl.HtMore)
		if s != "" {
			wantNoChunks(t, s+"\r", impl.HtMore)
			wantNoChunks(t, "1\r\nz\r\n"+s+"\r", impl.HtMore)
		}
	}
}

func TestSizesThatAreNone(t *testing.T) {
	for _, s := range []string{
		"g", "G", "x", "-", "+", " ", "\t", "\n", ":", ";", "/", "@", "`", ".", "_", "\x00", "\xff", "z",
		"-1", "+1", " 1", "1 ", "1\t", "\t1", "0x1", "1_0", "1;a", "1g", "g1", "123g", "\n1", "1\n", "\x001", "\xc3\xa9",
		"00000", "00001", "10000", "12345", "fffff", "FFFFF", "c8;a", "000c8", "00000000000000000001", strings.Repeat("f", 40), strings.Repeat("0", 500),
	} {
		for _, tail := range []string{"", "\r", "\r\n", "\r\nz\r\n" + lastChunk, "\rz"} {
			wantNoChunks(t, s+tail, impl.HtForm)
			wantNoChunks(t, "1\r\nz\r\n"+s+tail, impl.HtForm)
		}
	}
	for _, s := range []string{"\r", "\r\n", "\r\r", "\rz", "\r\n\r\n", "\r\n" + lastChunk} {
		wantNoChunks(t, s, impl.HtForm)
		wantNoChunks(t, "1\r\nz\r\n"+s, impl.HtForm)
	}
}

func TestSizesOfEachForm(t *testing.T) {
	ten := "0123456789"
	for _, size := range []string{"a", "A", "0a", "0A", "00a", "00A", "000a", "000A"} {
		wantChunks(t, size+"\r\n"+ten+"\r\n"+lastChunk, ten)
	}
	for _, size := range []string{"ab", "AB", "aB", "Ab", "0aB", "00Ab"} {
		wantChunks(t, size+"\r\n"+strings.Repeat("z", 171)+"\r\n"+lastChunk, strings.Repeat("z", 171))
	}
	for _, last := range []string{"0", "00", "000", "0000"} {
		wantChunks(t, last+"\r\n\r\n", "")
		wantChunks(t, "2\r\nzy\r\n"+last+"\r\n\r\n", "zy")
		wantEachBeginningToLack(t, "2\r\nzy\r\n"+last+"\r\n\r\n")
	}
	for n := 1; n <= impl.MaxBody; n++ {
		piece := strings.Repeat("z", n)
		wantChunks(t, strings.ToUpper(impl.Hex(n))+"\r\n"+piece+"\r\n"+lastChunk, piece)
	}
}

func TestLinesEndsOfPieces(t *testing.T) {
	for c := 0; c < 256; c++ {
		one := string([]byte{byte(c)})
		if c != '\n' {
			for _, s := range []string{"1\r" + one, "0\r" + one, "1\r\nz\r" + one, "1\r\nz\r\n0\r" + one, "0\r\n\r" + one} {
				wantNoChunks(t, s, impl.HtForm)
				wantNoChunks(t, s+"\r\n"+lastChunk, impl.HtForm)
			}
		}
		if c != '\r' {
			for _, s := range []string{"1\r\nz" + one, "2\r\nzy" + one, "0\r\n" + one, "1\r\nz\r\n0\r\n" + one} {
				wantNoChunks(t, s, impl.HtForm)
				wantNoChunks(t, s+"\n"+lastChunk, impl.HtForm)
				wantNoChunks(t, s+"\r\n"+lastChunk, impl.HtForm)
			}
		}
	}
	for _, s := range []string{"1\r\n", "1\r\nz", "1\r\nz\r", "1\r\nz\r\n", "2\r\n\r", "2\r\n\r\n", "2\r\n\r\n\r", "0\r\n", "0\r\n\r"} {
		wantNoChunks(t, s, impl.HtMore)
	}
	for _, s := range []string{"1\r\nzy\r\n" + lastChunk, "2\r\nz\r\n" + lastChunk, "1\r\n\r\n" + lastChunk, "0\r\nx: y\r\n\r\n", "1\r\nz" + lastChunk} {
		wantNoChunks(t, s, impl.HtForm)
	}
}

func TestTheMostThatPiecesMayHave(t *testing.T) {
	most := strings.Repeat("z", impl.MaxBody)
	ones := strings.Repeat("1\r\nz\r\n", impl.MaxBody)
	for _, s := range []string{"c8\r\n" + most + "\r\n", "00C8\r\n" + most + "\r\n", "c7\r\n" + most[1:] + "\r\n1\r\nz\r\n", "1\r\nz\r\nc7\r\n" + most[1:] + "\r\n", "64\r\n" + most[:100] + "\r\n64\r\n" + most[100:] + "\r\n", ones} {
		wantChunks(t, s+lastChunk, most)
		wantEachBeginningToLack(t, s+lastChunk)
		for _, more := range []string{"1\r\n", "2\r\n", "1\r\nz", "1\r\nz\r\n" + lastChunk, "c8\r\n", "ffff\r\n", "0001\r\nxyz"} {
			wantNoChunks(t, s+more, impl.HtLarge)
		}
		for _, more := range []string{"1", "1\r", "c9", "ffff\r"} {
			wantNoChunks(t, s+more, impl.HtMore)
		}
	}
	for _, s := range []string{"c9\r\n", "00c9\r\n", "100\r\n", "FFFF\r\n", "1\r\nz\r\nc8\r\n", "64\r\n" + most[:100] + "\r\n65\r\n", strings.Repeat("1\r\nz\r\n", impl.MaxBody-1) + "2\r\n"} {
		for _, tail := range []string{"", "z", "\r\n", most, most + "z", most + "z\r\n" + lastChunk, most + most + "\r\n" + lastChunk} {
			wantNoChunks(t, s+tail, impl.HtLarge)
		}
	}
}

func TestTheFirstPlaceCounts(t *testing.T) {
	most := strings.Repeat("z", impl.MaxBody)
	for s, want := range map[string]int{
		"c9\r":                                 impl.HtMore,
		"c9\rz":                                impl.HtForm,
		"c9z\r\n":                              impl.HtForm,
		"c9\r\nz":                              impl.HtLarge,
		"c9\r\n" + most + "z\rz":               impl.HtLarge,
		"c9\r\n" + most + "zzz":                impl.HtLarge,
		"c8\r\n" + most[1:]:                    impl.HtMore,
		"c8\r\n" + most[1:] + "\r\n1\r\n":      impl.HtForm,
		"c8\r\n" + most + "\rz1\r\n":           impl.HtForm,
		"c8\r\n" + most + "z\n1\r\n":           impl.HtForm,
		"c8\r\n" + most + "\r\n1\rz":           impl.HtForm,
		"c8\r\n" + most + "\r\ng\r\nc9\r\n":    impl.HtForm,
		"c8\r\n" + most + "\r\n1\r\nzzz":       impl.HtLarge,
		"c8\r\n" + most + "\r\n0\r\nx":         impl.HtForm,
		"1\r\nzyc9\r\n":                        impl.HtForm,
		"1\r\nz\r\ng\r\n":                      impl.HtForm,
		"1\r\nz\r\nc9\r\ng":                    impl.HtLarge,
		"0\r\nc9\r\n":                          impl.HtForm,
		"g\r\nc9\r\n":                          impl.HtForm,
		"\r\nc9\r\n":                           impl.HtForm,
		"12345\r":                              impl.HtForm,
		"1\rz\r\nc9\r\n":                       impl.HtForm,
		"2\r\nz":                               impl.HtMore,
		"2\r\n\rz":                             impl.HtMore,
		"2\r\n\rzx":                            impl.HtForm,
		"1\r\nz\r\nc8":                         impl.HtMore,
		"1\r\nz\r\nc8\r\n":                     impl.HtLarge,
		"64\r\n" + most[:100] + "\r\n64\r\n":   impl.HtMore,
		"64\r\n" + most[:100] + "z\r\n65\r\n":  impl.HtForm,
		"64\r\n" + most[:100] + "\r\n0065\r\n": impl.HtLarge,
	} {
		wantNoChunks(t, s, want)
	}
}

func TestPlacesOfChunks(t *testing.T) {
	b := []byte("xx3\r\nabc\r\n1\r\nd\r\n0\r\n\r\nyy")
	whole := append(slices.Clone(b), lastChunk...)
	end := len(b) - 2
	for at, want := range map[int]int{
		math.MinInt: impl.HtForm, -len(b): impl.HtForm, -2: impl.HtForm, -1: impl.HtForm, 0: impl.HtForm, 1: impl.HtForm,
		len(b) - 2: impl.HtForm, len(b) - 1: impl.HtForm, len(b): impl.HtMore, len(b) + 1: impl.HtForm, len(b) + 2: impl.HtForm, math.MaxInt: impl.HtForm,
	} {
		for _, l := range [][]byte{b, whole[:len(b)]} {
			if s, n, code := impl.GetChunks(l, at); s != "" || n != 0 || code != want {
				t.Errorf("from %d on: %q, %d, %d, not %d", at, s, n, code, want)
			}
		}
	}
	for at, want := range map[int]string{2: "abcd", 10: "d", 16: ""} {
		if s, n, code := impl.GetChunks(b, at); s != want || n != end || code != impl.HtGood {
			t.Errorf("from %d on: %q, %d, %d", at, s, n, code)
		}
	}
	for at, want := range map[int]int{-1: impl.HtForm, 0: impl.HtMore, 1: impl.HtForm, math.MaxInt: impl.HtForm} {
		for _, l := range [][]byte{nil, {}, whole[:0]} {
			if s, n, code := impl.GetChunks(l, at); s != "" || n != 0 || code != want {
				t.Errorf("of nothing, from %d on: %q, %d, %d, not %d", at, s, n, code, want)
			}
		}
	}
}

// A chunkReader reads byte by byte, and so knows nothing of what comes later.
type chunkReader struct {
	step   func(r *chunkReader, c byte) int
	digits string
	left   int
	body   []byte
}

func stepSize(r *chunkReader, c byte) int {
	switch {
	case c == 13 && r.digits != "":
		r.step = stepSizeEnd
	case strings.IndexByte("0123456789abcdefABCDEF", c) >= 0 && len(r.digits) < 4:
		r.digits += string([]byte{c})
	default:
		return impl.HtForm
	}
	return impl.HtMore
}

func stepSizeEnd(r *chunkReader, c byte) int {
	if c != 10 {
		return impl.HtForm
	}
	r.left = 0
	for _, d := range strings.ToLower(r.digits) {
		r.left = r.left*16 + strings.IndexRune("0123456789abcdef", d)
	}
	if len(r.body)+r.left > 200 {
		return impl.HtLarge
	}
	r.step = stepData
	if r.left == 0 {
		r.step = stepLastEnd
	}
	return impl.HtMore
}

func stepData(r *chunkReader, c byte) int {
	r.body = append(r.body, c)
	if r.left--; r.left == 0 {
		r.step = stepDataEnd
	}
	return impl.HtMore
}

func stepDataEnd(r *chunkReader, c byte) int {
	if c != "\r\n"[r.left] {
		return impl.HtForm
	}
	if r.left++; r.left == 2 {
		*r = chunkReader{step: stepSize, body: r.body}
	}
	return impl.HtMore
}

func stepLastEnd(r *chunkReader, c byte) int {
	if c != "\r\n"[r.left] {
		return impl.HtForm
	}
	if r.left++; r.left == 2 {
		return impl.HtGood
	}
	return impl.HtMore
}

func readByteByByte(s string) (string, int, int) {
	r := chunkReader{step: stepSize}
	for i := range len(s) {
		switch code := r.step(&r, s[i]); code {
		case impl.HtMore:
		case impl.HtGood:
			return string(r.body), i + 1, code
		default:
			return "", 0, code
		}
	}
	return "", 0, impl.HtMore
}

func wantAsByteByByte(t *testing.T, s string) int {
	t.Helper()
	body, n, code := readByteByByte(s)
	if b, m, c := impl.GetChunks([]byte(s), 0); b != body || m != n || c != code {
		t.Fatalf("GetChunks(%q, 0) is %q, %d, %d, not %q, %d, %d", s, b, m, c, body, n, code)
	}
	return code
}

func TestChunksOfAllShortTexts(t *testing.T) {
	const bytesOfAll = "01fg\r\n"
	counts := map[int]int{}
	texts := []string{""}
	for range 8 {
		var longer []string
		for _, s := range texts {
			counts[wantAsByteByByte(t, s)]++
			for i := range len(bytesOfAll) {
				longer = append(longer, s+bytesOfAll[i:i+1])
			}
		}
		texts = longer
	}
	for _, code := range []int{impl.HtGood, impl.HtMore, impl.HtForm, impl.HtLarge} {
		if counts[code] == 0 {
			t.Errorf("no text has the code %d", code)
		}
	}
}

func TestChunksOfWhateverIsTurned(t *testing.T) {
	for _, s := range []string{
		"2\r\nzy\r\n1\r\nx\r\n" + lastChunk,
		"000A\r\n0123456789\r\n00\r\n\r\ntail",
		"c7\r\n" + strings.Repeat("z", 199) + "\r\n1\r\nz\r\n" + lastChunk,
		"64\r\n" + strings.Repeat("1\r\nz\r", 20) + "\r\n64\r\n" + strings.Repeat("0", 100) + "\r\n" + lastChunk,
	} {
		for i := range len(s) {
			wantAsByteByByte(t, s[:i]+s[i+1:])
			for c := 0; c < 256; c++ {
				one := string([]byte{byte(c)})
				wantAsByteByByte(t, s[:i]+one+s[i+1:])
				wantAsByteByByte(t, s[:i]+one+s[i:])
				wantAsByteByByte(t, s[:i]+one)
			}
		}
	}
}

func TestPutChunkedByItsBytes(t *testing.T) {
	const told = "transfer-encoding: chunked\r\n\r\n"
	heads := []impl.Head{{Name: "if", Val: "(<1>)"}, {Name: "x"}, {Name: "if", Val: "2"}}
	const lines = "if: (<1>)\r\nx: \r\nif: 2\r\n"
	for _, x := range []struct {
		r     impl.Req
		sizes []int
		want  string
	}{
		{plainReq(), nil, topLine + told + lastChunk},
		{plainReq(), []int{1, 2}, topLine + told + lastChunk},
		{impl.Req{Method: "GET", Path: "/a", Heads: heads}, nil, "GET /a HTTP/1.1\r\n" + lines + told + lastChunk},
		{impl.Req{Method: "PUT", Path: "/a", Body: "abc"}, nil, "PUT /a HTTP/1.1\r\n" + told + "3\r\nabc\r\n" + lastChunk},
		{impl.Req{Method: "PUT", Path: "/a", Body: "abc"}, []int{0, -1}, "PUT /a HTTP/1.1\r\n" + told + "3\r\nabc\r\n" + lastChunk},
		{impl.Req{Method: "PUT", Path: "/a", Body: "abc"}, []int{1}, "PUT /a HTTP/1.1\r\n" + told + "1\r\na\r\n2\r\nbc\r\n" + lastChunk},
		{impl.Req{Method: "PUT", Path: "/a", Heads: heads, Body: "abc"}, []int{1, 1, 1, 1}, "PUT /a HTTP/1.1\r\n" + lines + told + "1\r\na\r\n1\r\nb\r\n1\r\nc\r\n" + lastChunk},
		{impl.Req{Method: "A", Path: "/", Heads: eightHeads(), Body: "\r\n\r\n"}, []int{9}, topLine + strings.Repeat("a: \r\n", 8) + told + "4\r\n\r\n\r\n\r\n" + lastChunk},
	} {
		if b := impl.PutChunked(x.r, x.sizes); string(b) != x.want {
			t.Errorf("PutChunked(%q, %d) is %q, not %q", x.r, x.sizes, b, x.want)
		}
	}
}

func TestPutChunkedRefuses(t *testing.T) {
	good := impl.Req{Method: "PUT", Path: "/a", Heads: []impl.Head{{Name: "x", Val: "y"}}, Body: "z"}
	if len(impl.PutChunked(good, nil)) == 0 {
		t.Error("a good one was refused")
	}
	for i, turn := range []func(r *impl.Req){
		func(r *impl.Req) { *r = impl.Req{} },
		func(r *impl.Req) { r.Method = "" },
		func(r *impl.Req) { r.Method = "put" },
		func(r *impl.Req) { r.Method = "ABCDEFGHIJ" },
		func(r *impl.Req) { r.Path = "" },
		func(r *impl.Req) { r.Path = "/a b" },
		func(r *impl.Req) { r.Path = strings.Repeat("a", 81) },
		func(r *impl.Req) { r.Heads = append(eightHeads(), impl.Head{Name: "a"}) },
		func(r *impl.Req) { r.Heads = []impl.Head{{Name: "content-length", Val: "1"}} },
		func(r *impl.Req) { r.Heads = []impl.Head{{Name: "transfer-encoding", Val: "chunked"}} },
		func(r *impl.Req) { r.Heads = []impl.Head{{Name: "X", Val: "y"}} },
		func(r *impl.Req) { r.Heads = []impl.Head{{Name: "x", Val: "y "}} },
		func(r *impl.Req) { r.Heads = []impl.Head{{Name: "x", Val: strings.Repeat("v", 61)}} },
		func(r *impl.Req) { r.Body = strings.Repeat("z", impl.MaxBody+1) },
	} {
		r := good
		turn(&r)
		for _, sizes := range [][]int{nil, {1}, {100, 100}} {
			if b := impl.PutChunked(r, sizes); len(b) != 0 {
				t.Errorf("turn %d: PutChunked(%q, %d) is %q", i, r, sizes, b)
			}
		}
	}
}

func TestPutChunkedOfWideHeads(t *testing.T) {
	const told = "transfer-encoding: chunked\r\n"
	for _, body := range []string{"", "z", strings.Repeat("z", impl.MaxBody)} {
		for n := 390; n <= 410; n++ {
			r := wideReq(n-len(told), "")
			r.Body = body
			if !impl.ReqOk(r) {
				t.Fatalf("%q is no request", r)
			}
			b := impl.PutChunked(r, []int{7, 100})
			if n > impl.MaxHead {
				if len(b) != 0 {
					t.Errorf("%d bytes ahead of the body are too many: %q", n, b)
				}
				continue
			}
			if impl.HeadEnd(b) != n || !bytes.Equal(b[n:], impl.PutChunks(body, []int{7, 100})) {
				t.Errorf("of %d bytes and a body of %d: %q", n, len(body), b)
			}
			wantReq(t, string(b), "", r)
			wantReq(t, string(b), "tail", r)
		}
	}
}

func TestRequestsComeBackOfTheirPieces(t *testing.T) {
	every := everyByte()
	for _, heads := range [][]impl.Head{nil, {{Name: "x"}}, {{Name: "b", Val: ":"}, {Name: "a", Val: "1 2"}, {Name: "b", Val: "3"}}, eightHeads()} {
		for _, body := range []string{"", "z", "\r\n\r\n", lastChunk, every[:200], every[56:]} {
			for _, sizes := range [][]int{nil, {0}, {1}, {16, -1, 10}, {100}, {199}, {200}, {201}, slices.Repeat([]int{1}, 200)} {
				r := impl.Req{Method: "PUT", Path: "/a", Heads: heads, Body: body}
				b := impl.PutChunked(r, sizes)
				for _, tail := range []string{"", "GET", lastChunk, "\r\n"} {
					wantReq(t, string(b), tail, r)
				}
				for i := range b {
					if x, n, code := impl.GetReq(b[:i]); code != impl.HtMore || n != 0 || !impl.SameReq(x, impl.Req{}) {
						t.Fatalf("the first %d bytes of %q are %q, %d, %d", i, b, x, n, code)
					}
				}
			}
		}
	}
}

func TestChunksLeaveTheirArguments(t *testing.T) {
	sizes := []int{2, -1, 0, 3, 9, 9}
	heads := []impl.Head{{Name: "x", Val: "1"}, {Name: "y", Val: "2"}}
	keptSizes, keptHeads := slices.Clone(sizes), slices.Clone(heads)
	r := impl.Req{Method: "PUT", Path: "/a", Heads: heads[:1], Body: "abcdef"}
	for _, put := range []func() []byte{
		func() []byte { return impl.PutChunks("abcdef", sizes[:3]) },
		func() []byte { return impl.PutChunked(r, sizes[:3]) },
		func() []byte { return impl.PutChunks("", nil) },
	} {
		a, b := put(), put()
		if !bytes.Equal(a, b) {
			t.Errorf("%q, and then %q", a, b)
		}
		clear(a[:cap(a)])
		if c := put(); !bytes.Equal(b, c) {
			t.Errorf("two answers share: %q", c)
		}
	}
	if !slices.Equal(sizes, keptSizes) || !slices.Equal(heads, keptHeads) {
		t.Errorf("an argument was written into: %d, %q", sizes, heads)
	}
	if b := impl.PutChunks("abcdef", sizes[:1]); string(b) != "2\r\nab\r\n4\r\ncdef\r\n"+lastChunk {
		t.Errorf("what lies behind the length was read: %q", b)
	}
	s := "2\r\nab\r\n4\r\ncdef\r\n" + lastChunk
	whole := []byte(s + "behind")
	body, _, _ := impl.GetChunks(whole[:len(s)], 0)
	if string(whole) != s+"behind" {
		t.Errorf("an argument was written into: %q", whole)
	}
	clear(whole)
	if body != "abcdef" {
		t.Errorf("what was answered turned with the argument: %q", body)
	}
}

func TestPiecesComeOutOfAnIterator(t *testing.T) {
	f, err := parser.ParseFile(token.NewFileSet(), "../impl/l04_chunk.go", nil, 0)
	if err != nil {
		t.Fatal(err)
	}
	ranges := 0
	ast.Inspect(f, func(n ast.Node) bool {
		if x, ok := n.(*ast.RangeStmt); ok {
			if call, ok := x.X.(*ast.CallExpr); ok && givesIterator(f, call) {
				ranges++
			}
		}
		return true
	})
	if ranges < 2 {
		t.Errorf("%d ranges over a function in l04_chunk.go: pieces are put and got by one each", ranges)
	}
}

// givesIterator tells whether what is called answers an iter.Seq.
func givesIterator(f *ast.File, call *ast.CallExpr) bool {
	name, ok := call.Fun.(*ast.Ident)
	if !ok {
		return false
	}
	for _, d := range f.Decls {
		x, ok := d.(*ast.FuncDecl)
		if !ok || x.Name.Name != name.Name || x.Type.Results == nil || len(x.Type.Results.List) != 1 {
			continue
		}
		if i, ok := x.Type.Results.List[0].Type.(*ast.IndexExpr); ok {
			s, ok := i.X.(*ast.SelectorExpr)
			return ok && s.Sel.Name == "Seq"
		}
	}
	return false
}
