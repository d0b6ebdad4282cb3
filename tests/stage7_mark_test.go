package tests

import (
	"go/ast"
	"go/parser"
	"go/token"
	"math"
	"math/rand/v2"
	"regexp"
	"slices"
	"strconv"
	"strings"
	"testing"
	"unsafe"

	"loop.example/g00452/impl"
)

const (
	mostPieces = 60
	mostSpace  = 20
	mostLetter = 20
)

func openPiece(name string) impl.Piece { return impl.Piece{K: impl.XOpen, Name: name} }

func closePiece(name string) impl.Piece { return impl.Piece{K: impl.XClose, Name: name} }

func emptyPiece(name string) impl.Piece { return impl.Piece{K: impl.XEmpty, Name: name} }

func textPiece(s string) impl.Piece { return impl.Piece{K: impl.XText, S: s} }

func inSpace(p impl.Piece, ns string) impl.Piece {
	p.Has, p.Ns = true, ns
	return p
}

func wantUnescaped(t *testing.T, s string, want string) {
	t.Helper()
	if x, ok := impl.Unescape(s); !ok || x != want {
		t.Errorf("Unescape(%q) is %q, %v, not %q", s, x, ok, want)
	}
}

func wantNotUnescaped(t *testing.T, s string) {
	t.Helper()
	if x, ok := impl.Unescape(s); ok || x != "" {
		t.Errorf("Unescape(%q) is %q, %v, not nothing and false", s, x, ok)
	}
}

func wantPieces(t *testing.T, s string, want ...impl.Piece) {
	t.Helper()
	if l, ok := impl.Pieces(s); !ok || !slices.Equal(l, want) {
		t.Errorf("Pieces(%q) is %#v, %v, not %#v", s, l, ok, want)
	}
}

func wantNoPieces(t *testing.T, s string) {
	t.Helper()
	if l, ok := impl.Pieces(s); ok || len(l) != 0 {
		t.Errorf("Pieces(%q) is %#v, %v, not nothing and false", s, l, ok)
	}
}

func TestKindsOfPieces(t *testing.T) {
	if impl.XOpen != 1 || impl.XClose != 2 || impl.XEmpty != 3 || impl.XText != 4 {
		t.Error("the kinds are not those of the document")
	}
}

func TestEscape(t *testing.T) {
	for s, want := range map[string]string{
		"":                  "",
		" ":                 " ",
		"a b":               "a b",
		"&":                 "&amp;",
		"<":                 "&lt;",
		">":                 "&gt;",
		"\"":                "&quot;",
		"'":                 "'",
		"&<>\"'":            "&amp;&lt;&gt;&quot;'",
		"\"'><&":            "&quot;'&gt;&lt;&amp;",
		"&&&":               "&amp;&amp;&amp;",
		"<<>>":              "&lt;&lt;&gt;&gt;",
		"\"\"":              "&quot;&quot;",
		"<a b=\"c\">":       "&lt;a b=&quot;c&quot;&gt;",
		"&amp;":             "&amp;amp;",
		"&lt;&gt;&quot;":    "&amp;lt;&amp;gt;&amp;quot;",
		"&#65;&apos;":       "&amp;#65;&amp;apos;",
		"&amp;amp;":         "&amp;amp;amp;",
		";#amp":             ";#amp",
		"\x00\n\r\t\x7f":    "\x00\n\r\t\x7f",
		"\xff<\xc3&\xe2":    "\xff&lt;\xc3&amp;\xe2",
		"\u00e9<\U0001f4da": "\u00e9&lt;\U0001f4da",
	} {
		if x := impl.Escape(s); x != want {
			t.Errorf("Escape(%q) is %q, not %q", s, x, want)
		}
	}
}

func TestEscapeOfEachByte(t *testing.T) {
	told := map[int]string{'&': "&amp;", '<': "&lt;", '>': "&gt;", '"': "&quot;"}
	for c := range 256 {
		one := string([]byte{byte(c)})
		want, ok := told[c]
		if !ok {
			want = one
		}
		for _, ends := range []string{"", "a", "&", one} {
			side := impl.Escape(ends)
			if x := impl.Escape(ends + one + ends); x != side+want+side {
				t.Errorf("Escape(%q) is %q, not %q", ends+one+ends, x, side+want+side)
			}
		}
	}
}

func TestTextsComeBackEscaped(t *testing.T) {
	draw := rand.New(rand.NewPCG(7, 1))
	texts := []string{"", everyByte(), strings.Repeat(everyByte(), 9), "&amp;", "&#65;", "]]>", "<!-- -->"}
	words := []string{"&", "<", ">", "\"", "'", ";", "#", "amp", "lt", "65", " ", "a", "\x00", "\xff", "\u00e9"}
	for range 3000 {
		s := ""
		for range draw.IntN(12) {
			s += words[draw.IntN(len(words))]
		}
		texts = append(texts, s)
	}
	for a := range 256 {
		for _, b := range "&<>\"'a;" {
			texts = append(texts, string([]byte{byte(a), byte(b)}), string([]byte{byte(b), byte(a)}))
		}
	}
	for _, s := range texts {
		once := impl.Escape(s)
		if strings.ContainsAny(once, "<>\"") {
			t.Fatalf("Escape(%q) is %q: not all are escaped", s, once)
		}
		wantUnescaped(t, once, s)
		wantUnescaped(t, impl.Escape(once), once)
	}
}

func TestUnescapeTakes(t *testing.T) {
	for s, want := range map[string]string{
		"":                              "",
		"a":                             "a",
		"&amp;":                         "&",
		"&lt;":                          "<",
		"&gt;":                          ">",
		"&quot;":                        "\"",
		"&apos;":                        "'",
		"&amp;&lt;&gt;&quot;&apos;":     "&<>\"'",
		"a&amp;b&lt;c":                  "a&b<c",
		"&amp;&amp;":                    "&&",
		"&#32;":                         " ",
		"&#33;":                         "!",
		"&#65;":                         "A",
		"&#99;":                         "c",
		"&#100;":                        "d",
		"&#126;":                        "~",
		"&#38;":                         "&",
		"&#60;":                         "<",
		"&#62;":                         ">",
		"&#34;":                         "\"",
		"&#65;&#66;":                    "AB",
		"&amp;lt;":                      "&lt;",
		"&amp;amp;":                     "&amp;",
		"&amp;#65;":                     "&#65;",
		"&#38;lt;":                      "&lt;",
		"&#38;#38;":                     "&#38;",
		"&amp;amp;amp;":                 "&amp;amp;",
		">":                             ">",
		"\"":                            "\"",
		"'":                             "'",
		">>\"\"":                        ">>\"\"",
		"a>b\"c":                        "a>b\"c",
		";":                             ";",
		"amp;":                          "amp;",
		"#65;":                          "#65;",
		"&amp;;":                        "&;",
		"&lt;;&gt;":                     "<;>",
		"\x00\n\r\t\x7f\xff":            "\x00\n\r\t\x7f\xff",
		"\u00e9&amp;\U0001f4da":         "\u00e9&\U0001f4da",
		strings.Repeat("&#126;", 1000):  strings.Repeat("~", 1000),
		strings.Repeat("a&apos;", 1000): strings.Repeat("a'", 1000),
	} {
		wantUnescaped(t, s, want)
	}
}

func TestUnescapeRefuses(t *testing.T) {
	for _, s := range []string{
		"&", "&;", "& ;", "&&", "&a", "&x;", "&amp", "&lt", "&gt", "&quot", "&apos", "&#65", "&#", "&#;",
		"& amp;", "&amp ;", "&am;", "&ampp;", "&amp,", "&amp:", "&a mp;", "&apo;", "&nbsp;", "&copy;", "&l;", "&t;",
		"&AMP;", "&Amp;", "&LT;", "&GT;", "&QUOT;", "&APOS;", "&aMP;",
		"&#31;", "&#127;", "&#0;", "&#9;", "&#10;", "&#13;", "&#128;", "&#160;", "&#255;", "&#256;", "&#288;", "&#321;", "&#382;", "&#512;",
		"&#065;", "&#0065;", "&#00;", "&#032;", "&#0126;", "&#00000065;", "&#000000;",
		"&#+65;", "&#-65;", "&# 65;", "&#65 ;", "&#\t65;", "&#6 5;", "&#6_5;", "&#65.0;", "&#6e1;",
		"&#x41;", "&#X41;", "&#x;", "&#a;", "&##65;", "&65;", "&#65#;", "&#6&#53;", "&#\u0661;",
		"&#9999999;", "&#10000000;", "&#99999999;", "&#18446744073709551681;", "&#4294967361;", "&#" + strings.Repeat("1", 400) + ";",
		"&amp&amp;", "&&amp;", "&amp;&", "&lt;&gt", "&#65;&#", "&<amp;", "&amp<;", "&am&amp;p;",
		"<", "a<", "<a", "a<b", "&lt;<", "<&lt;", "<>", "\x00<", "\xff&",
	} {
		for _, ends := range []string{"", "a", "&amp;", ">"} {
			wantNotUnescaped(t, ends+s)
			if strings.Contains(s, ";") || strings.Contains(s, "<") {
				wantNotUnescaped(t, s+ends)
			}
		}
	}
}

func TestUnescapeOfEachNumber(t *testing.T) {
	for n := range 1200 {
		s := "&#" + strconv.Itoa(n) + ";"
		if n < 32 || n > 126 {
			wantNotUnescaped(t, s)
			wantNotUnescaped(t, "a"+s+"b")
			continue
		}
		one := string(rune(n))
		wantUnescaped(t, s, one)
		wantUnescaped(t, "a"+s+"b", "a"+one+"b")
		wantUnescaped(t, s+s, one+one)
		wantNotUnescaped(t, "&#0"+s[2:])
		wantNotUnescaped(t, s[:len(s)-1])
	}
}

func TestUnescapeOfEachByte(t *testing.T) {
	for c := range 256 {
		one := string([]byte{byte(c)})
		if c == '<' || c == '&' {
			wantNotUnescaped(t, one)
			wantNotUnescaped(t, "a"+one)
		} else {
			wantUnescaped(t, one, one)
			wantUnescaped(t, one+"&amp;"+one, one+"&"+one)
			wantNotUnescaped(t, "&"+one)
			wantNotUnescaped(t, "&"+one+"amp;")
		}
		if c != ';' {
			wantNotUnescaped(t, "&amp"+one)
			wantNotUnescaped(t, "&#65"+one)
		}
		if c < '1' || c > '9' {
			wantNotUnescaped(t, "&#"+one+"65;")
		}
	}
}

func TestNothingHasNoPieces(t *testing.T) {
	wantPieces(t, "")
}

func TestEachMark(t *testing.T) {
	const names = "a,b,z,a1,a-,a-b,a--b,x9-y8,prop,href,xmlns,twenty-letters-long0"
	for name := range strings.SplitSeq(names, ",") {
		wantPieces(t, "<"+name+">", openPiece(name))
		wantPieces(t, "</"+name+">", closePiece(name))
		wantPieces(t, "<"+name+"/>", emptyPiece(name))
		wantPieces(t, "<"+name+" xmlns=\"DAV:\">", inSpace(openPiece(name), "DAV:"))
		wantPieces(t, "<"+name+" xmlns=\"DAV:\"/>", inSpace(emptyPiece(name), "DAV:"))
		wantPieces(t, "<"+name+" xmlns=\"\">", inSpace(openPiece(name), ""))
		wantPieces(t, "<"+name+" xmlns=\"\"/>", inSpace(emptyPiece(name), ""))
		wantPieces(t, "<"+name+"></"+name+"><"+name+"/>", openPiece(name), closePiece(name), emptyPiece(name))
	}
}

// eachForm gives a mark of each kind around a name.
func eachForm(name string) []string {
	return []string{
		"<" + name + ">", "</" + name + ">", "<" + name + "/>",
		"<" + name + " xmlns=\"u\">", "<" + name + " xmlns=\"u\"/>", "<" + name + " xmlns=\"\">", "<" + name + " xmlns=\"\"/>",
	}
}

func TestNamesOfMarksByTheirLength(t *testing.T) {
	for n := range 3 * mostLetter {
		name := strings.Repeat("n", n)
		for _, s := range eachForm(name) {
			if n == 0 || n > mostLetter {
				wantNoPieces(t, s)
				wantNoPieces(t, "x"+s)
				continue
			}
			if l, ok := impl.Pieces(s); !ok || len(l) != 1 || l[0].Name != name {
				t.Errorf("Pieces(%q) is %#v, %v", s, l, ok)
			}
		}
	}
}

func TestNamesOfMarksByTheirBytes(t *testing.T) {
	for c := range 256 {
		if c == '/' || c == '>' {
			continue // a mark may end with these
		}
		one := string([]byte{byte(c)})
		small := c >= 'a' && c <= 'z'
		within := small || c >= '0' && c <= '9' || c == '-'
		for name, ok := range map[string]bool{one: small, one + "b": small, "a" + one: within, "a" + one + "b": within, "nineteen-letters-lo" + one: within} {
			for _, s := range eachForm(name) {
				if !ok {
					wantNoPieces(t, s)
				} else if l, ok := impl.Pieces(s); !ok || len(l) != 1 || l[0].Name != name {
					t.Errorf("Pieces(%q) is %#v, %v", s, l, ok)
				}
			}
		}
	}
}

func TestNamesThatAreNoSmallNames(t *testing.T) {
	for _, name := range []string{"", "A", "Ab", "aB", "1", "1a", "-", "-a", "a_b", "a.b", "a:b", "D:prop", "a!", "!a", "?a", "!--", "a\u00e9", "\u00e9", "a/b", "a'", "a\"", "a=", "a&amp;", "&#97;", "twenty-one-letters-00"} {
		for _, s := range eachForm(name) {
			wantNoPieces(t, s)
			wantNoPieces(t, "<a>"+s+"</a>")
		}
	}
}

func TestBlanksWithinMarks(t *testing.T) {
	for _, s := range []string{
		"<a >", "<a  >", "<a />", "<a / >", "<a/ >", "< a>", "< a/>", "<  a>", "< >", "<  >", "< /a>", "</ a>", "</a >", "</ a >", "< / a>", "</ >",
		"<a xmlns=\"u\" >", "<a xmlns=\"u\" />", "<a xmlns=\"u\"/ >", "< a xmlns=\"u\">",
		"<a  xmlns=\"u\">", "<a   xmlns=\"u\"/>", "<axmlns=\"u\">", "<axmlns=\"u\"/>", "<a\txmlns=\"u\">", "<a\nxmlns=\"u\">",
		"<a xmlns =\"u\">", "<a xmlns= \"u\">", "<a xmlns = \"u\">", "<a x mlns=\"u\">", "<a b>", "<a b/>", "</a b>",
	} {
		wantNoPieces(t, s)
		wantNoPieces(t, s+"<a>")
		wantNoPieces(t, "text"+s)
	}
}

func TestSpacesThatAreNamed(t *testing.T) {
	for told, ns := range map[string]string{
		"":                                     "",
		" ":                                    " ",
		"  ":                                   "  ",
		"u":                                    "u",
		"DAV:":                                 "DAV:",
		" u ":                                  " u ",
		"0":                                    "0",
		"'":                                    "'",
		">":                                    ">",
		"/>":                                   "/>",
		"a>b":                                  "a>b",
		"&gt;":                                 ">",
		"&lt;":                                 "<",
		"&quot;":                               "\"",
		"&quot;&quot;":                         "\"\"",
		"&amp;":                                "&",
		"&apos;":                               "'",
		"&amp;lt;":                             "&lt;",
		"&#32;":                                " ",
		"&#34;":                                "\"",
		"&#126;":                               "~",
		"xmlns=":                               "xmlns=",
		"http://a.b/c?d=e#f":                   "http://a.b/c?d=e#f",
		strings.Repeat("u", mostSpace):         strings.Repeat("u", mostSpace),
		strings.Repeat(" ", mostSpace):         strings.Repeat(" ", mostSpace),
		strings.Repeat("&quot;", mostSpace):    strings.Repeat("\"", mostSpace),
		strings.Repeat("&#126;", mostSpace):    strings.Repeat("~", mostSpace),
		"uuuuuuuuuuuuuuuuuu" + "&lt;" + "&lt;": "uuuuuuuuuuuuuuuuuu<<",
	} {
		wantPieces(t, "<a xmlns=\""+told+"\">", inSpace(openPiece("a"), ns))
		wantPieces(t, "<a xmlns=\""+told+"\"/>", inSpace(emptyPiece("a"), ns))
		wantPieces(t, "<a xmlns=\""+told+"\">u</a>", inSpace(openPiece("a"), ns), textPiece("u"), closePiece("a"))
		wantPieces(t, "<a xmlns=\""+told+"\"><b xmlns=\"\"/><b/>", inSpace(openPiece("a"), ns), inSpace(emptyPiece("b"), ""), emptyPiece("b"))
		wantNoPieces(t, "</a xmlns=\""+told+"\">")
		wantNoPieces(t, "<a xmlns=\""+told+"\"")
		wantNoPieces(t, "<a xmlns=\""+told+">")
		wantNoPieces(t, "<a xmlns="+told+"\">")
		wantNoPieces(t, "<a xmlns='"+told+"'>")
	}
}

func TestSpacesByTheirLength(t *testing.T) {
	for n := range 3 * mostSpace {
		for told, one := range map[string]string{"u": "u", " ": " ", ">": ">", "&amp;": "&", "&quot;": "\"", "&#65;": "A", "&#126;": "~"} {
			s := strings.Repeat(told, n)
			if n <= mostSpace {
				wantPieces(t, "<a xmlns=\""+s+"\">", inSpace(openPiece("a"), strings.Repeat(one, n)))
				wantPieces(t, "<a xmlns=\""+s+"\"/>", inSpace(emptyPiece("a"), strings.Repeat(one, n)))
				continue
			}
			wantNoPieces(t, "<a xmlns=\""+s+"\">")
			wantNoPieces(t, "<a xmlns=\""+s+"\"/>")
		}
	}
}

func TestSpacesThatAreNone(t *testing.T) {
	for _, ns := range []string{"&", "&;", "&x;", "&amp", "&AMP;", "&#31;", "&#127;", "&#065;", "&#;", "&#-65;", "<", "a<b", "<b/>", "</a>", "&lt", "&quot", "u&", "&u", strings.Repeat("u", mostSpace+1), strings.Repeat("&lt;", mostSpace+1), strings.Repeat("u", mostSpace) + "&lt;"} {
		for _, end := range []string{">", "/>"} {
			wantNoPieces(t, "<a xmlns=\""+ns+"\""+end)
			wantNoPieces(t, "<b><a xmlns=\""+ns+"\""+end+"</b>")
		}
	}
}

func TestWordsInThePlaceOfASpace(t *testing.T) {
	for _, word := range []string{
		"b=\"u\"", "xmln=\"u\"", "xmlnss=\"u\"", "xmlns:d=\"u\"", "xmlns:=\"u\"", "XMLNS=\"u\"", "Xmlns=\"u\"", "ns=\"u\"", "xmlns", "xmlns=", "xmlns=\"", "xmlns\"u\"", "xmlns:\"u\"", "xmlns=u", "xmlns='u'", "xmlns=\"u'", "xmlns==\"u\"", "xmlns=&quot;u&quot;", "&#120;mlns=\"u\"", "=\"u\"", "\"u\"",
		"xmlns=\"u\" xmlns=\"u\"", "xmlns=\"u\" xmlns=\"\"", "xmlns=\"\" xmlns=\"u\"", "xmlns=\"u\"xmlns=\"u\"", "xmlns=\"u\" b=\"c\"", "b=\"c\" xmlns=\"u\"", "xmlns=\"u\"b", "xmlns=\"u\"\"", "xmlns=\"\"\"", "xmlns=\"u\"v\"", "xmlns=\"u\";",
	} {
		wantNoPieces(t, "<a "+word+">")
		wantNoPieces(t, "<a "+word+"/>")
		wantNoPieces(t, "</a "+word+">")
		wantNoPieces(t, "<a "+word)
	}
}

func TestMarksThatAreNotClosed(t *testing.T) {
	for _, s := range []string{"<a>", "</a>", "<a/>", "<a xmlns=\"u\">", "<a xmlns=\"u\"/>", "<a xmlns=\"\">", "<a xmlns=\"\"/>", "<ab-c9>", "</ab-c9>", "<a xmlns=\"&quot;\">"} {
		for i := 1; i < len(s); i++ {
			wantNoPieces(t, s[:i])
			wantNoPieces(t, "a"+s[:i])
			wantNoPieces(t, "<b/>"+s[:i])
			wantNoPieces(t, s[:i]+"<b>")
			wantNoPieces(t, s[:i]+"<b/>")
			wantNoPieces(t, s[:i]+"</b>")
		}
	}
	for _, s := range []string{"<", "</", "</>", "<>", "</a/>", "<//a>", "<a//>", "<a/b>", "<a/", "<a/x>", "<<a>", "<a<b>>", "<<", "</a/", "<a></", "<?xml?>", "<!-- a -->", "<![CDATA[a]]>", "<!a>"} {
		wantNoPieces(t, s)
	}
}

func TestTextsAroundMarks(t *testing.T) {
	for told, s := range map[string]string{
		"a": "a", " ": " ", "   ": "   ", ">": ">", ">>": ">>", "/>": "/>", "a>b": "a>b", "\"": "\"", "'": "'", "/a>": "/a>", "xmlns=\"u\"": "xmlns=\"u\"",
		"&amp;": "&", "&lt;": "<", "&gt;": ">", "&quot;": "\"", "&apos;": "'", "&#32;": " ", "&#60;": "<", "&lt;a&gt;": "<a>", "&lt;a/>": "<a/>", "&amp;lt;": "&lt;", "x &amp; y": "x & y",
		strings.Repeat("long", 1000): strings.Repeat("long", 1000), strings.Repeat("&amp;", 1000): strings.Repeat("&", 1000),
	} {
		text := textPiece(s)
		wantPieces(t, told, text)
		wantPieces(t, told+told, textPiece(s+s))
		wantPieces(t, told+"<a>", text, openPiece("a"))
		wantPieces(t, "<a>"+told, openPiece("a"), text)
		wantPieces(t, "<a/>"+told, emptyPiece("a"), text)
		wantPieces(t, "</a>"+told, closePiece("a"), text)
		wantPieces(t, "<a xmlns=\"\">"+told+"</b>", inSpace(openPiece("a"), ""), text, closePiece("b"))
		wantPieces(t, told+"<a>"+told+"</a>"+told, text, openPiece("a"), text, closePiece("a"), text)
		wantPieces(t, "</b>"+told+"<b/>"+told+"<c xmlns=\"u\"/>", closePiece("b"), text, emptyPiece("b"), text, inSpace(emptyPiece("c"), "u"))
	}
}

func TestTextsThatAreNotUnescaped(t *testing.T) {
	for _, s := range []string{"&", "&;", "&x;", "&amp", "&AMP;", "&#31;", "&#127;", "&#065;", "&#;", "a&", "&a", "a & b", "&#65", "&&amp;"} {
		wantNoPieces(t, s)
		wantNoPieces(t, s+"<a/>")
		wantNoPieces(t, "<a/>"+s)
		wantNoPieces(t, "<a>"+s+"</a>")
		wantNoPieces(t, "<a/>b<a/>"+s+"<a/>")
	}
	// What an escape begins within a text is not ended behind a mark.
	wantNoPieces(t, "&am<a/>p;")
	wantNoPieces(t, "&<a/>amp;")
	wantNoPieces(t, "&amp<a/>;")
}

func TestBytesThatAreNotPlain(t *testing.T) {
	for c := range 256 {
		if c >= 32 && c <= 126 {
			continue
		}
		one := string([]byte{byte(c)})
		for _, s := range []string{
			one, "a" + one, one + "a", one + "<a>", "<a>" + one, "<a/>" + one + "<a/>", "<a>b" + one + "c</a>",
			"<" + one + ">", "<a" + one + ">", "<" + one + "a>", "</a" + one + ">", "</" + one + "a>", "<a" + one + "/>", "<a/" + one + ">",
			"<a xmlns=\"" + one + "\">", "<a xmlns=\"u" + one + "\"/>", "<a" + one + "xmlns=\"u\">", "<a xmlns=\"u\"" + one + ">", "<a xmlns=" + one + "\"u\">",
			strings.Repeat("<a/>", mostPieces-1) + one,
		} {
			wantNoPieces(t, s)
		}
	}
}

func TestHowManyPieces(t *testing.T) {
	for told, p := range map[string]impl.Piece{
		"<a>": openPiece("a"), "</a>": closePiece("a"), "<a/>": emptyPiece("a"), "<a xmlns=\"\">": inSpace(openPiece("a"), ""), "<a xmlns=\"u\"/>": inSpace(emptyPiece("a"), "u"),
	} {
		for n := range 2*mostPieces + 2 {
			if n > mostPieces {
				wantNoPieces(t, strings.Repeat(told, n))
				continue
			}
			wantPieces(t, strings.Repeat(told, n), slices.Repeat([]impl.Piece{p}, n)...)
		}
		most := slices.Repeat([]impl.Piece{p}, mostPieces-1)
		wantPieces(t, strings.Repeat(told, mostPieces-1)+"x", append(slices.Clone(most), textPiece("x"))...)
		wantPieces(t, "x"+strings.Repeat(told, mostPieces-1), append([]impl.Piece{textPiece("x")}, most...)...)
		wantNoPieces(t, strings.Repeat(told, mostPieces)+"x")
		wantNoPieces(t, "x"+strings.Repeat(told, mostPieces))
		half := slices.Repeat([]impl.Piece{textPiece("x"), p}, mostPieces/2)
		wantPieces(t, strings.Repeat("x"+told, mostPieces/2), half...)
		wantNoPieces(t, strings.Repeat("x"+told, mostPieces/2)+"x")
		wantNoPieces(t, strings.Repeat(told, 10000))
		wantNoPieces(t, strings.Repeat(told, mostPieces-1)+"<")
	}
}

func TestMarksNeedNotFit(t *testing.T) {
	wantPieces(t, "</a><b>", closePiece("a"), openPiece("b"))
	wantPieces(t, "<a><b></a></b>", openPiece("a"), openPiece("b"), closePiece("a"), closePiece("b"))
	wantPieces(t, "<a xmlns=\"u\"></b>", inSpace(openPiece("a"), "u"), closePiece("b"))
}

func TestPieceTextOfEachKind(t *testing.T) {
	for _, x := range []struct {
		p    impl.Piece
		want string
	}{
		{openPiece("a"), "<a>"},
		{closePiece("a"), "</a>"},
		{emptyPiece("a"), "<a/>"},
		{textPiece("a"), "a"},
		{textPiece(" "), " "},
		{textPiece(""), ""},
		{textPiece("<a>&\"'"), "&lt;a&gt;&amp;&quot;'"},
		{textPiece("&amp;"), "&amp;amp;"},
		{textPiece("\x00\xff"), "\x00\xff"},
		{inSpace(openPiece("a"), "u"), "<a xmlns=\"u\">"},
		{inSpace(emptyPiece("a"), "u"), "<a xmlns=\"u\"/>"},
		{inSpace(openPiece("a"), ""), "<a xmlns=\"\">"},
		{inSpace(emptyPiece("a"), ""), "<a xmlns=\"\"/>"},
		{inSpace(openPiece("a"), " "), "<a xmlns=\" \">"},
		{inSpace(openPiece("a"), "<&>\"'"), "<a xmlns=\"&lt;&amp;&gt;&quot;'\">"},
		{inSpace(emptyPiece("a"), "&lt;"), "<a xmlns=\"&amp;lt;\"/>"},
		{inSpace(closePiece("a"), "u"), "</a>"},
		{inSpace(closePiece("a"), ""), "</a>"},
		{impl.Piece{K: impl.XOpen, Name: "a", Ns: "u"}, "<a>"},
		{impl.Piece{K: impl.XEmpty, Name: "a", Ns: "u"}, "<a/>"},
		{impl.Piece{K: impl.XClose, Name: "a", Ns: "u"}, "</a>"},
		{impl.Piece{K: impl.XOpen, Name: "a", S: "text"}, "<a>"},
		{impl.Piece{K: impl.XClose, Name: "a", S: "text"}, "</a>"},
		{impl.Piece{K: impl.XEmpty, Name: "a", S: "text", Has: true}, "<a xmlns=\"\"/>"},
		{impl.Piece{K: impl.XText, Name: "a", Ns: "u", Has: true, S: "b>"}, "b&gt;"},
		{impl.Piece{K: impl.XText, Name: "a", Ns: "u", Has: true}, ""},
		{inSpace(openPiece("a"), strings.Repeat("u", mostSpace+1)), "<a xmlns=\"" + strings.Repeat("u", mostSpace+1) + "\">"},
		{impl.Piece{}, ""},
	} {
		if s := impl.PieceText(x.p); s != x.want {
			t.Errorf("PieceText(%#v) is %q, not %q", x.p, s, x.want)
		}
	}
}

func TestPieceTextOfAKindThatIsNone(t *testing.T) {
	for _, k := range []int{0, 5, 6, -1, -4, 100, 256 + impl.XOpen, math.MaxInt, math.MinInt, math.MinInt + impl.XClose} {
		for s, want := range map[string]string{"": "", "a": "a", "<&>\"'": "&lt;&amp;&gt;&quot;'", "\n": "\n"} {
			for _, has := range []bool{false, true} {
				p := impl.Piece{K: k, Name: "n", Ns: "u", Has: has, S: s}
				if x := impl.PieceText(p); x != want {
					t.Errorf("PieceText(%#v) is %q, not %q", p, x, want)
				}
			}
		}
	}
}

func drawPlain(draw *rand.Rand, least int, most int) string {
	b := make([]byte, least+draw.IntN(most-least+1))
	for i := range b {
		b[i] = byte(32 + draw.IntN(95))
		if draw.IntN(3) == 0 {
			b[i] = "&<>\"' ;"[draw.IntN(7)]
		}
	}
	return string(b)
}

func drawSmallName(draw *rand.Rand) string {
	const letters = "abcdefghijklmnopqrstuvwxyz"
	b := make([]byte, 1+draw.IntN(mostLetter))
	for i := range b {
		b[i] = (letters + "0123456789-")[draw.IntN(37)]
	}
	b[0] = letters[draw.IntN(26)]
	return string(b)
}

// drawPiece draws no text where one stands ahead: both would be one text.
func drawPiece(draw *rand.Rand, behindText bool) impl.Piece {
	k := 1 + draw.IntN(4)
	if behindText && k == impl.XText {
		k = impl.XClose
	}
	if k == impl.XText {
		return textPiece(drawPlain(draw, 1, 30))
	}
	p := impl.Piece{K: k, Name: drawSmallName(draw)}
	if k == impl.XClose || draw.IntN(2) == 0 {
		return p
	}
	if draw.IntN(3) == 0 {
		return inSpace(p, "")
	}
	return inSpace(p, drawPlain(draw, 0, mostSpace))
}

func drawPieces(draw *rand.Rand) []impl.Piece {
	l := []impl.Piece{}
	n := draw.IntN(mostPieces + 1)
	if draw.IntN(3) == 0 {
		n = mostPieces
	}
	for i := range n {
		l = append(l, drawPiece(draw, i > 0 && l[i-1].K == impl.XText))
	}
	return l
}

func textOfPieces(l []impl.Piece) string {
	s := ""
	for _, p := range l {
		s += impl.PieceText(p)
	}
	return s
}

func TestPiecesComeBackOfTheirTexts(t *testing.T) {
	draw := rand.New(rand.NewPCG(7, 2))
	spaces := 0
	for range 3000 {
		l := drawPieces(draw)
		s := textOfPieces(l)
		wantPieces(t, s, l...)
		for _, p := range l {
			if p.Has && p.Ns == "" {
				spaces++
			}
		}
		if len(l) == mostPieces {
			wantNoPieces(t, s+"<a/>")
			wantNoPieces(t, "<a/>"+s)
		}
	}
	if spaces == 0 {
		t.Error("no space of no letters was drawn")
	}
}

// The form of a mark as a pattern: a reading that the program's is held
// against.
var (
	closeForm = regexp.MustCompile(`\A</([a-z][a-z0-9-]{0,19})>`)
	openForm  = regexp.MustCompile(`\A<([a-z][a-z0-9-]{0,19})( xmlns="([^"]*)")?(/?)>`)
	textForm  = regexp.MustCompile(`\A[^<]+`)
	wordForm  = regexp.MustCompile(`&(?:amp|lt|gt|quot|apos|#(?:3[2-9]|[4-9][0-9]|1[01][0-9]|12[0-6]));`)
)

func unescapeByForm(s string) (string, bool) {
	if strings.ContainsAny(wordForm.ReplaceAllString(s, ""), "&<") {
		return "", false
	}
	return wordForm.ReplaceAllStringFunc(s, func(word string) string {
		word = strings.Trim(word, "&;")
		if n, err := strconv.Atoi(strings.TrimPrefix(word, "#")); err == nil {
			return string(rune(n))
		}
		return map[string]string{"amp": "&", "lt": "<", "gt": ">", "quot": "\"", "apos": "'"}[word]
	}), true
}

func pieceByForm(s string) (impl.Piece, int, bool) {
	if m := closeForm.FindStringSubmatch(s); m != nil {
		return closePiece(m[1]), len(m[0]), true
	}
	if m := openForm.FindStringSubmatch(s); m != nil {
		p := openPiece(m[1])
		if m[4] != "" {
			p = emptyPiece(m[1])
		}
		if m[2] == "" {
			return p, len(m[0]), true
		}
		ns, ok := unescapeByForm(m[3])
		return inSpace(p, ns), len(m[0]), ok && len(ns) <= mostSpace
	}
	told := textForm.FindString(s)
	text, ok := unescapeByForm(told)
	return textPiece(text), len(told), ok && told != ""
}

func piecesByForm(s string) ([]impl.Piece, bool) {
	l := []impl.Piece{}
	if strings.ContainsFunc(s, func(r rune) bool { return r < 32 || r > 126 }) {
		return nil, false
	}
	for s != "" {
		p, n, ok := pieceByForm(s)
		if !ok {
			return nil, false
		}
		l = append(l, p)
		s = s[n:]
	}
	return l, len(l) <= mostPieces
}

// wantPiecesAsByForm tells whether there are pieces.
func wantPiecesAsByForm(t *testing.T, s string) bool {
	t.Helper()
	l, ok := piecesByForm(s)
	if ok {
		wantPieces(t, s, l...)
	} else {
		wantNoPieces(t, s)
	}
	return ok
}

func TestPiecesOfWhateverIsTurned(t *testing.T) {
	seen := map[bool]int{}
	for _, s := range []string{
		"<a xmlns=\"u&lt;\">x&amp;<b/></a> ",
		"&#65;<ab-c xmlns=\"\"/>&quot;</d9><e/>&apos;",
		"<prop xmlns=\"DAV:\"><x xmlns=\"&#34;\">a > b</x></prop>",
		" </a>&gt;<b xmlns=\"twenty-bytes-of-text\"/>",
	} {
		for i := range len(s) {
			turned := []string{s[:i], s[i:], s[:i] + s[i+1:], s[:i] + s[i:i+1] + s[i:]}
			for c := range 256 {
				one := string([]byte{byte(c)})
				turned = append(turned, s[:i]+one+s[i+1:], s[:i]+one+s[i:])
			}
			for k := i; k <= len(s); k++ {
				turned = append(turned, s[i:k], s[:i]+s[k:])
			}
			for _, s := range turned {
				seen[wantPiecesAsByForm(t, s)]++
			}
		}
	}
	if seen[false] == 0 || seen[true] == 0 {
		t.Errorf("of %d there are pieces, of %d there are none", seen[true], seen[false])
	}
}

func TestPiecesOfDrawnWords(t *testing.T) {
	draw := rand.New(rand.NewPCG(7, 3))
	words := []string{"<", "</", ">", "/>", "a", "b9", "-", "A", " ", " xmlns=\"", "xmlns=\"", "\"", "u", "&lt;", "&amp;", "&quot;", "&#65;", "&", ";", "#", "text", "<a>", "</a>", "<a/>", "<a xmlns=\"\">", "<a xmlns=\"u\"/>"}
	seen := map[bool]int{}
	for range 60000 {
		s := ""
		for range 1 + draw.IntN(9) {
			s += words[draw.IntN(len(words))]
		}
		seen[wantPiecesAsByForm(t, s)]++
		l, _ := impl.Pieces(s)
		wantPieces(t, textOfPieces(l), l...)
	}
	if seen[false] < 1000 || seen[true] < 1000 {
		t.Errorf("of %d there are pieces, of %d there are none", seen[true], seen[false])
	}
}

func shareMemory(a string, b string) bool {
	if a == "" || b == "" {
		return false
	}
	from, at := uintptr(unsafe.Pointer(unsafe.StringData(a))), uintptr(unsafe.Pointer(unsafe.StringData(b)))
	return at < from+uintptr(len(a)) && from < at+uintptr(len(b))
}

func TestMarkedTextsAreNewMemory(t *testing.T) {
	for _, made := range []string{"plain text without marks", "<name xmlns=\"space\">text</name><name/>", "a long text<name xmlns=\"\"/>"} {
		s := strings.Clone(made)
		l, ok := impl.Pieces(s)
		if !ok {
			t.Fatalf("Pieces(%q) is false", s)
		}
		answers := []string{impl.Escape(s)}
		for _, p := range l {
			answers = append(answers, p.Name, p.Ns, p.S)
		}
		for _, x := range answers {
			if shareMemory(s, x) {
				t.Errorf("%q shares memory with the argument", x)
			}
		}
		k, _ := impl.Pieces(s)
		clear(l[:cap(l)])
		if again, _ := piecesByForm(s); !slices.Equal(k, again) {
			t.Errorf("two answers share: %#v", k)
		}
	}
	s := strings.Clone("plain text")
	x, _ := impl.Unescape(s)
	if shareMemory(s, x) || shareMemory(s, impl.PieceText(textPiece(s))) || shareMemory(s, impl.PieceText(impl.Piece{S: s})) {
		t.Error("what was answered shares memory with the argument")
	}
}

func TestWhatIsRefusedLeavesNothingBehind(t *testing.T) {
	const s = "<a xmlns=\"\">b</a>"
	for _, bad := range []string{"<", "b<a", "&", "\n", "<a xmlns=\"u", strings.Repeat("<a/>", mostPieces+1)} {
		wantNoPieces(t, bad)
		wantPieces(t, s, inSpace(openPiece("a"), ""), textPiece("b"), closePiece("a"))
		wantNotUnescaped(t, "a&")
		wantUnescaped(t, "a&gt;", "a>")
	}
}

func TestAMarkIsAnInterfaceToldByATypeSwitch(t *testing.T) {
	f, err := parser.ParseFile(token.NewFileSet(), "../impl/l07_mark.go", nil, 0)
	if err != nil {
		t.Fatal(err)
	}
	faces, kinds := 0, map[string]bool{}
	ast.Inspect(f, func(n ast.Node) bool {
		switch x := n.(type) {
		case *ast.InterfaceType:
			faces += x.Methods.NumFields()
		case *ast.TypeSwitchStmt:
			for _, s := range x.Body.List {
				for _, e := range s.(*ast.CaseClause).List {
					if name, ok := e.(*ast.Ident); ok {
						kinds[name.Name] = true
					}
				}
			}
		}
		return true
	})
	methods := methodsByType(f)
	for kind := range kinds {
		if len(methods[kind]) == 0 {
			t.Errorf("the kind %s has no method", kind)
		}
	}
	if faces == 0 || len(kinds) != 4 {
		t.Errorf("l07_mark.go has %d methods of interfaces, and its type switch %d kinds", faces, len(kinds))
	}
}
