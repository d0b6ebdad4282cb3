package tests

import (
	"go/ast"
	"go/parser"
	"go/token"
	"math"
	"strings"
	"testing"

	"loop.example/g00452/impl"
)

func TestPlainOfEachByte(t *testing.T) {
	if !impl.Plain("") {
		t.Error("no byte at all is plain")
	}
	for c := 0; c < 256; c++ {
		want := c >= 32 && c <= 126
		one := string([]byte{byte(c)})
		for _, s := range []string{one, one + "a", "a" + one, "a" + one + "~"} {
			if impl.Plain(s) != want {
				t.Errorf("Plain(%q) is not %v", s, want)
			}
		}
	}
}

func TestSmallNameLengths(t *testing.T) {
	for n := 0; n <= 40; n++ {
		want := n >= 1 && n <= 20
		if impl.SmallName(strings.Repeat("a", n)) != want {
			t.Errorf("%d letters: not %v", n, want)
		}
		if n > 0 && impl.SmallName("z"+strings.Repeat("9", n-1)) != want {
			t.Errorf("a letter and %d digits: not %v", n-1, want)
		}
		if n > 0 && impl.SmallName("m"+strings.Repeat("-", n-1)) != want {
			t.Errorf("a letter and %d hyphens: not %v", n-1, want)
		}
	}
}

func TestSmallNameOfEachByte(t *testing.T) {
	for c := 0; c < 256; c++ {
		one := string([]byte{byte(c)})
		small := c >= 'a' && c <= 'z'
		behind := small || c >= '0' && c <= '9' || c == '-'
		if impl.SmallName(one) != small || impl.SmallName(one+"bc") != small {
			t.Errorf("%q ahead: not %v", one, small)
		}
		for _, s := range []string{"a" + one, "a" + one + "b", "a0-" + one} {
			if impl.SmallName(s) != behind {
				t.Errorf("SmallName(%q) is not %v", s, behind)
			}
		}
	}
	for _, s := range []string{"1a", "-a", "Aa", "aB", "a b", " a", "a ", "é"} {
		if impl.SmallName(s) {
			t.Errorf("%q is no small name", s)
		}
	}
}

func TestLowerOfEachByte(t *testing.T) {
	for c := 0; c < 256; c++ {
		want := byte(c)
		if c >= 'A' && c <= 'Z' {
			want = byte(c + 32)
		}
		s := string([]byte{'Q', byte(c), 'z'})
		if x := impl.Lower(s); x != string([]byte{'q', want, 'z'}) {
			t.Errorf("Lower(%q) is %q", s, x)
		}
	}
	for s, want := range map[string]string{
		"":                     "",
		"AZaz":                 "azaz",
		"@AZ[`az{":             "@az[`az{",
		"Content-Length: 12":   "content-length: 12",
		"\u00c9\u0130\u212a":   "\u00c9\u0130\u212a",
		"\xff\xc3A":            "\xff\xc3a",
		strings.Repeat("A", 9): strings.Repeat("a", 9),
	} {
		if x := impl.Lower(s); x != want {
			t.Errorf("Lower(%q) is %q", s, x)
		}
	}
}

func TestTrim(t *testing.T) {
	for s, want := range map[string]string{
		"":                 "",
		" ":                "",
		"\t":               "",
		" \t \t":           "",
		"a":                "a",
		" a":               "a",
		"a\t":              "a",
		"\t a \t":          "a",
		" a \t b ":         "a \t b",
		"a b":              "a b",
		"\n a \r":          "\n a \r",
		" \n ":             "\n",
		"\x00 ":            "\x00",
		"\u00a0a\u2003":    "\u00a0a\u2003",
		" \xff\t":          "\xff",
		"  two  words\t\t": "two  words",
	} {
		if x := impl.Trim(s); x != want {
			t.Errorf("Trim(%q) is %q", s, x)
		}
	}
}

func TestTrimOfEachByte(t *testing.T) {
	for c := 0; c < 256; c++ {
		one := string([]byte{byte(c)})
		want := one
		if c == 32 || c == 9 {
			want = ""
		}
		if x := impl.Trim(one); x != want {
			t.Errorf("Trim(%q) is %q", one, x)
		}
		if x := impl.Trim("\t " + one + " \t"); x != want {
			t.Errorf("Trim of blanks around %q is %q", one, x)
		}
		if x := impl.Trim("a" + one + "b"); x != "a"+one+"b" {
			t.Errorf("Trim of %q in the middle is %q", one, x)
		}
	}
}

func TestNumText(t *testing.T) {
	for n, want := range map[int]string{
		math.MinInt: "0",
		-10:         "0",
		-1:          "0",
		0:           "0",
		1:           "1",
		9:           "9",
		10:          "10",
		100:         "100",
		9999999:     "9999999",
		10000000:    "10000000",
		math.MaxInt: "9223372036854775807",
	} {
		if x := impl.NumText(n); x != want {
			t.Errorf("NumText(%d) is %q", n, x)
		}
	}
}

func TestNumbersComeBackOfTheirDigits(t *testing.T) {
	try := func(n int) {
		s := impl.NumText(n)
		if x, ok := impl.ParseNum(s, 9999999); !ok || x != n {
			t.Fatalf("%d came back of %q as %d, %v", n, s, x, ok)
		}
		if x, ok := impl.ParseNum(s, n); !ok || x != n {
			t.Fatalf("%d, exactly most, came back as %d, %v", n, x, ok)
		}
		if x, ok := impl.ParseNum(s, n-1); ok || x != 0 {
			t.Fatalf("%d, one above most, came back as %d, %v", n, x, ok)
		}
		if x, ok := impl.ParseNum("0"+s, 9999999); ok || x != 0 {
			t.Fatalf("%q with a nought ahead came back as %d, %v", s, x, ok)
		}
	}
	for n := 0; n <= 12000; n++ {
		try(n)
	}
	for n := 12001; n < 9999999; n += 9973 {
		try(n)
	}
	try(9999999)
}

func TestParseNumTakes(t *testing.T) {
	for _, x := range []struct {
		s    string
		most int
		want int
	}{
		{"0", 0, 0},
		{"7", 7, 7},
		{"10", 10, 10},
		{"100", 9999, 100},
		{"9999", 9999, 9999},
		{"1000000", 9999999, 1000000},
		{"9999999", 9999999, 9999999},
		{"9999999", math.MaxInt, 9999999},
	} {
		if n, ok := impl.ParseNum(x.s, x.most); !ok || n != x.want {
			t.Errorf("ParseNum(%q, %d) is %d, %v", x.s, x.most, n, ok)
		}
	}
}

func TestParseNumRefuses(t *testing.T) {
	for _, s := range []string{
		"", "00", "01", "007", "0000000", "00000000", "0100",
		"10000000", "12345678", "99999999", "9223372036854775807", "9223372036854775808", strings.Repeat("9", 40),
		"-1", "-0", "-", "+1", "+0", "+", " 1", "1 ", "1\t", "1\n", "1 2",
		"x", "a", "1a", "a1", "0x1", "0b1", "0o7", "1_0", "1e3", "1.0", "1,0", "/", ":", "\x00", "\u0661", "\xff",
	} {
		if n, ok := impl.ParseNum(s, math.MaxInt); ok || n != 0 {
			t.Errorf("ParseNum(%q) is %d, %v", s, n, ok)
		}
	}
	for _, x := range []struct {
		s    string
		most int
	}{{"0", -1}, {"0", math.MinInt}, {"1", 0}, {"101", 100}, {"10000", 9999}, {"9999999", 9999998}, {"5", -5}} {
		if n, ok := impl.ParseNum(x.s, x.most); ok || n != 0 {
			t.Errorf("ParseNum(%q, %d) is %d, %v", x.s, x.most, n, ok)
		}
	}
}

func TestParseNumOfEachByte(t *testing.T) {
	for c := 0; c < 256; c++ {
		one := string([]byte{byte(c)})
		is := c >= '0' && c <= '9'
		n, ok := impl.ParseNum(one, 9)
		if ok != is || is && n != c-'0' || !is && n != 0 {
			t.Errorf("ParseNum(%q) is %d, %v", one, n, ok)
		}
		n, ok = impl.ParseNum("1"+one+"2", 999)
		if ok != is || is && n != 102+10*(c-'0') || !is && n != 0 {
			t.Errorf("ParseNum(%q) is %d, %v", "1"+one+"2", n, ok)
		}
	}
}

func TestHex(t *testing.T) {
	for n, want := range map[int]string{
		math.MinInt: "0",
		-255:        "0",
		-1:          "0",
		0:           "0",
		9:           "9",
		10:          "a",
		15:          "f",
		16:          "10",
		200:         "c8",
		255:         "ff",
		0xabcdef:    "abcdef",
		65535:       "ffff",
		65536:       "10000",
		math.MaxInt: "7fffffffffffffff",
	} {
		if x := impl.Hex(n); x != want {
			t.Errorf("Hex(%d) is %q", n, x)
		}
	}
}

func TestNumbersComeBackOfTheirHexDigits(t *testing.T) {
	for n := 0; n <= 0xffff; n++ {
		s := impl.Hex(n)
		for len(s) <= 4 {
			for _, form := range []string{s, strings.ToUpper(s)} {
				if x, ok := impl.ParseHex(form); !ok || x != n {
					t.Fatalf("%d came back of %q as %d, %v", n, form, x, ok)
				}
			}
			s = "0" + s
		}
		if x, ok := impl.ParseHex(s); ok || x != 0 {
			t.Fatalf("%q of 5 digits came back as %d, %v", s, x, ok)
		}
	}
}

func TestParseHexTakes(t *testing.T) {
	for s, want := range map[string]int{
		"0": 0, "0000": 0, "f": 15, "F": 15, "0a": 10, "00fF": 255, "000f": 15, "aB": 171, "C8": 200, "9999": 39321, "ffff": 65535, "FFFF": 65535, "AbCd": 43981,
	} {
		if n, ok := impl.ParseHex(s); !ok || n != want {
			t.Errorf("ParseHex(%q) is %d, %v", s, n, ok)
		}
	}
}

func TestParseHexRefuses(t *testing.T) {
	for _, s := range []string{
		"", "00000", "10000", "fffff", "0000f", strings.Repeat("f", 40),
		"g", "G", "fg", "gf", "-1", "+1", "-f", "-", "+", "0x1", "0X1", "x", "_", "1_0", " 1", "1 ", "f\r", "\n", "f.", "1;a", "\x00", "\u0661", "\xff",
	} {
		if n, ok := impl.ParseHex(s); ok || n != 0 {
			t.Errorf("ParseHex(%q) is %d, %v", s, n, ok)
		}
	}
}

func TestParseHexOfEachByte(t *testing.T) {
	for c := 0; c < 256; c++ {
		one := string([]byte{byte(c)})
		want := strings.Index("0123456789abcdef", strings.ToLower(one))
		n, ok := impl.ParseHex(one)
		if ok != (want >= 0) || n != max(want, 0) {
			t.Errorf("ParseHex(%q) is %d, %v", one, n, ok)
		}
	}
}

func TestKindsOfBytesAreToldByVariadics(t *testing.T) {
	f, err := parser.ParseFile(token.NewFileSet(), "../impl/l01_small.go", nil, 0)
	if err != nil {
		t.Fatal(err)
	}
	variadics := 0
	for _, d := range f.Decls {
		if x, ok := d.(*ast.FuncDecl); ok {
			for _, p := range x.Type.Params.List {
				if _, ok := p.Type.(*ast.Ellipsis); ok {
					variadics++
				}
			}
		}
	}
	if variadics == 0 {
		t.Error("no variadic function in l01_small.go")
	}
}
