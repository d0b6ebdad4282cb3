package tests

import (
	"go/ast"
	"go/parser"
	"go/token"
	"math"
	"math/rand/v2"
	"regexp"
	"slices"
	"strconv"
	"strings"
	"testing"

	"loop.example/g00452/impl"
)

const (
	mostLists = 4
	mostConds = 4
)

func tokenCond(n int) impl.Cond { return impl.Cond{Token: n} }

// tagCond is of what stands between the ends of its Tag.
func tagCond(inner string) impl.Cond { return impl.Cond{Tag: quoted(inner)} }

func notCond(c impl.Cond) impl.Cond {
	c.Not = true
	return c
}

func condList(conds ...impl.Cond) []impl.Cond { return conds }

func someLists(lists ...[]impl.Cond) [][]impl.Cond { return lists }

func sameLists(a [][]impl.Cond, b [][]impl.Cond) bool {
	return slices.EqualFunc(a, b, slices.Equal[[]impl.Cond])
}

func deepLists(l [][]impl.Cond) [][]impl.Cond {
	next := [][]impl.Cond{}
	for _, conds := range l {
		next = append(next, slices.Clone(conds))
	}
	return next
}

// wantIf asks, too, for the way back: promise 14.
func wantIf(t *testing.T, s string, want ...[]impl.Cond) {
	t.Helper()
	l, ok := impl.ParseIf(s)
	if !ok || !sameLists(l, want) {
		t.Errorf("ParseIf(%q) is %+v, %v, not %+v", s, l, ok, want)
	}
	text := impl.IfText(want)
	if again, ok := impl.ParseIf(text); !ok || !sameLists(again, want) {
		t.Errorf("IfText(%+v) is %q, of which comes %+v, %v", want, text, again, ok)
	}
}

func wantNoIf(t *testing.T, s string) {
	t.Helper()
	if l, ok := impl.ParseIf(s); ok || len(l) != 0 {
		t.Errorf("ParseIf(%q) is %+v, %v, not nothing and false", s, l, ok)
	}
}

func wantIfWhere(t *testing.T, where bool, s string, want ...[]impl.Cond) {
	t.Helper()
	if where {
		wantIf(t, s, want...)
	} else {
		wantNoIf(t, s)
	}
}

func TestParseIf(t *testing.T) {
	for s, want := range map[string][][]impl.Cond{
		"(<5>)":                    {{tokenCond(5)}},
		"(Not <5>)":                {{notCond(tokenCond(5))}},
		`(["v1"])`:                 {{tagCond("v1")}},
		`(Not ["v1"])`:             {{notCond(tagCond("v1"))}},
		`(<5> ["v1"])`:             {{tokenCond(5), tagCond("v1")}},
		`(["v1"] <5>)`:             {{tagCond("v1"), tokenCond(5)}},
		`(<5> Not ["v1"])`:         {{tokenCond(5), notCond(tagCond("v1"))}},
		`(Not <5> ["v1"])`:         {{notCond(tokenCond(5)), tagCond("v1")}},
		"(<5> <5>)":                {{tokenCond(5), tokenCond(5)}},
		"(<5> Not <5>)":            {{tokenCond(5), notCond(tokenCond(5))}},
		"(<1> <2> <3> <4>)":        {{tokenCond(1), tokenCond(2), tokenCond(3), tokenCond(4)}},
		"(<5>)(<6>)":               {{tokenCond(5)}, {tokenCond(6)}},
		"(<6>)(<5>)":               {{tokenCond(6)}, {tokenCond(5)}},
		"(<5>) (<6>)":              {{tokenCond(5)}, {tokenCond(6)}},
		"(<5>)   (<6>)(<7>)":       {{tokenCond(5)}, {tokenCond(6)}, {tokenCond(7)}},
		"(<5>)(<5>)":               {{tokenCond(5)}, {tokenCond(5)}},
		`(["a"] <1>)  (Not ["b"])`: {{tagCond("a"), tokenCond(1)}, {notCond(tagCond("b"))}},
		// What stands in a mark is of no other use.
		`(["] ["])`:           {{tagCond("] [")}},
		`(["(<5>)"])`:         {{tagCond("(<5>)")}},
		`([")("])`:            {{tagCond(")(")}},
		`([") ("] <5>)`:       {{tagCond(") ("), tokenCond(5)}},
		`(["Not "])`:          {{tagCond("Not ")}},
		`(Not ["Not <5>"])`:   {{notCond(tagCond("Not <5>"))}},
		`(["]"] ["["])`:       {{tagCond("]"), tagCond("[")}},
		`(["])"])(["("])`:     {{tagCond("])")}, {tagCond("(")}},
		`([" "])`:             {{tagCond(" ")}},
		`(["  a  "])`:         {{tagCond("  a  ")}},
		`([","] ["\"])`:       {{tagCond(","), tagCond(`\`)}},
		`(["*"] ["W/"])`:      {{tagCond("*"), tagCond("W/")}},
		`(["&quot;"])`:        {{tagCond("&quot;")}},
		`(["tenbytes-x"])`:    {{tagCond("tenbytes-x")}},
		`(["5"] <5> ["<5>"])`: {{tagCond("5"), tokenCond(5), tagCond("<5>")}},
	} {
		wantIf(t, s, want...)
	}
}

func TestParseIfRefuses(t *testing.T) {
	for _, s := range []string{
		"", " ", "  ", "\t", "\n", "\x00", "x", "5", "Not", "Not ", "*",
		// Lists of nothing, and what is in no list.
		"()", "( )", "()()", "(<5>)()", "()(<5>)", "(<5>) ()", "<5>", "Not <5>", `["v1"]`, `"v1"`, "<5> <6>", "(<5>) <6>", "<6> (<5>)", `(<5>)["v1"]`, "(<5>) Not (<6>)", "Not (<5>)", "(Not)", "(Not )", "(Not <5> Not)", "(Not <5> Not )",
		// What is not opened, not closed, or within another.
		"(", ")", "(<", "(<5", "(<5>", "(<5> ", "(<5> <6>", "(<5> <6", "<5>)", "5>)", ")(<5>", "((<5>))", "((<5>)", "(<5>))", "(<5>(<6>))", "(<5> (<6>))", "(<5>)(", "(<5>)(<6>", "(<5>)(<6", "(<5>) (", "(<5>)<6>)", "(<5>(<6>)", "(5)", "(5>)", "(<5)", "(<5<6>)", "(<5>>)", "(<<5>)", "(<<5>>)", "(><5>)", "(<>)", "(< >)",
		`([`, `(["`, `(["v`, `(["v1`, `(["v1"`, `(["v1"]`, `["v1"])`, `("v1"])`, `(["v1")`, `(["v1])`, `([v1"])`, `([v1])`, `("v1")`, `(v1)`, `([["v1"]])`, `(["v1"]])`, `([["v1"])`, `([])`, `([ ])`, `(["])`, `([""])`, `(["""])`, `([""""])`, `(["v1""])`, `([""v1"])`, `(["v"1"])`, `(["a""b"])`, `(["a"] ["b])`, `(["a] ["b"])`, `(["a"]["b"])`, `(["a" "b"])`, `(["a","b"])`, `(["a"],["b"])`, `(['v1'])`, `(["v1'])`,
		// Blanks where there are none.
		" (<5>)", "(<5>) ", " (<5>) ", "( <5>)", "(<5> )", "( <5> )", "(<5>  <6>)", "(<5><6>)", "(<5>  )", "(  <5>)", "(< 5>)", "(<5 >)", "(< 5 >)", "(<5> <6> )", "(<5>) ( <6>)", "(<5>) (<6> )", "(<5>) (<6>) ", "  (<5>)", "(<5>)  ", "(<5>)(<6>)   ", `([ "v1"])`, `(["v1" ])`, `([ "v1" ])`, `( ["v1"])`, `(["v1"] )`, `(["a"]  ["b"])`, `(<5>  ["a"])`, `(["a"]<5>)`, `(<5>["a"])`, "(<1 2>)", "(<1> 2)", "(<5> Not  <6>)", "(<5>  Not <6>)", "(<5>Not <6>)",
		// Not.
		"(Not<5>)", "(Not  <5>)", "(Not   <5>)", "(Not Not <5>)", "(NotNot <5>)", "(Not Not Not <5>)", "(not <5>)", "(NOT <5>)", "(nOT <5>)", "(NOt <5>)", "(No <5>)", "(N <5>)", "(Nott <5>)", "(ot <5>)", "(! <5>)", "(!<5>)", "( Not <5>)", "(<5> Not)", "(<Not 5>)", "(<5 Not>)", "(Not\t<5>)", "(Not\n<5>)", "(Not\x00<5>)", "(Not-<5>)", `(Not["a"])`, `(Not  ["a"])`, `(Not Not ["a"])`, `(not ["a"])`, `([Not "a"])`, `(Not "a")`, "(Not 5)", "(Not (<5>))", "(Not <5> Not Not <6>)", "(Not <5>)(Not Not <6>)", "(Not <5>)(not <6>)",
		// Numbers that are none.
		"(<0>)", "(<00>)", "(<01>)", "(<001>)", "(<09999>)", "(<10000>)", "(<10001>)", "(<99999>)", "(<9999999>)", "(<10000000>)", "(<18446744073709551617>)", "(<4294967297>)", "(<-1>)", "(<+1>)", "(<-0>)", "(<1.>)", "(<1.0>)", "(<1e1>)", "(<0x1>)", "(<1_0>)", "(<a>)", "(<f>)", "(<five>)", "(<\u0665>)", "(<\uff15>)", "(<5\u00a0>)", "(<5\x00>)", "(<5> <0>)", "(<0> <5>)", "(<5>)(<0>)", "(Not <0>)", `(<"v1">)`, `(["v1"] <v1>)`, "(<opaquelocktoken:5>)",
		// Marks that are none.
		`(["elevenbytes"])`, `(["           "])`, `(["]]]]]]]]]]]"])`, `(<5> ["elevenbytes"])`, `(["a"] ["elevenbytes"])`, "([\"\t\"])", "([\"a\n\"])", "([\"\x00\"])", "([\"\x7f\"])", "([\"\x1f\"])", "([\"\u00e9\"])", "([\"\xff\"])", "([\"a\u00a0\"])", `(W/["a"])`, `([W/"a"])`, `([*])`, `(*)`, `([5])`, `([<5>])`, `(<["a"]>)`, `(<5 ["a"]>)`,
		// Too many.
		"(<1> <2> <3> <4> <5>)", "(<1>)(<2>)(<3>)(<4>)(<5>)", "(<1>) (<2>) (<3>) (<4>) (<5>)", "(<1>)(<1> <2> <3> <4> <5>)", "(<1> <2> <3> <4> )", "(<1>)(<2>)(<3>)(<4>) ", "(<1>)(<2>)(<3>)(<4>)(", "(<1>)(<2>)(<3>)(<4>)x",
		// Other bytes than blanks between, ahead and behind.
		"(<5>),(<6>)", "(<5>), (<6>)", "(<5>)\t(<6>)", "(<5>) \t (<6>)", "(<5>)\n(<6>)", "(<5>)\r\n(<6>)", "(<5>)x(<6>)", "(<5>) x (<6>)", "(<5>)\u00a0(<6>)", "(<5>)\x00(<6>)", "(<5>)\u3000(<6>)", "(<5>,<6>)", "(<5>, <6>)", "(<5>\t<6>)", "(<5>\n<6>)", "(<5>;<6>)", "(<5>\u00a0<6>)", "(<5>x<6>)", "(<5> x <6>)", "(<5> x)", "(x <5>)", "(x<5>)", "(<5>x)", "(<5>)x", "(<5>) x", "x(<5>)", "x (<5>)", "\t(<5>)", "(<5>)\t", "(<5>)\n", "\ufeff(<5>)", "</a> (<5>)", "[<5>]", "{<5>}", "\uff08<5>\uff09",
	} {
		wantNoIf(t, s)
	}
}

func TestHowManyListsOfConds(t *testing.T) {
	for n := range 40 {
		for text, conds := range map[string][]impl.Cond{"(<5>)": {tokenCond(5)}, `(Not ["v1"])`: {notCond(tagCond("v1"))}, `(<1> <2> ["a"] Not <9999>)`: {tokenCond(1), tokenCond(2), tagCond("a"), notCond(tokenCond(9999))}} {
			for _, gap := range []string{"", " ", "  ", "   ", strings.Repeat(" ", 500)} {
				s := strings.Join(slices.Repeat([]string{text}, n), gap)
				wantIfWhere(t, n >= 1 && n <= mostLists, s, slices.Repeat([][]impl.Cond{conds}, n)...)
				if gap != "" {
					wantNoIf(t, s+gap)
					wantNoIf(t, gap+s)
				}
				wantNoIf(t, s+gap+"()")
				wantNoIf(t, "()"+gap+s)
				wantNoIf(t, s+gap+"(")
				wantNoIf(t, s+gap+"x")
			}
		}
	}
}

func TestHowManyConds(t *testing.T) {
	for n := range 40 {
		for text, c := range map[string]impl.Cond{"<5>": tokenCond(5), "Not <9999>": notCond(tokenCond(9999)), `["tenbytes-x"]`: tagCond("tenbytes-x"), `Not [" "]`: notCond(tagCond(" "))} {
			inner, conds := strings.Join(slices.Repeat([]string{text}, n), " "), slices.Repeat(condList(c), n)
			good := n >= 1 && n <= mostConds
			wantIfWhere(t, good, "("+inner+")", conds)
			wantIfWhere(t, good, "(<1>) ("+inner+")", condList(tokenCond(1)), conds)
			wantIfWhere(t, good, "("+inner+")(<1>)", conds, condList(tokenCond(1)))
			wantIfWhere(t, good, "(<1>)(<2>)(<3>)("+inner+")", condList(tokenCond(1)), condList(tokenCond(2)), condList(tokenCond(3)), conds)
			for _, s := range []string{"( " + inner + ")", "(" + inner + " )", "(" + inner, inner + ")", inner} {
				wantNoIf(t, s)
			}
			if n > 1 {
				for _, gap := range []string{"", "  ", "   ", "\t", ",", ", "} {
					wantNoIf(t, "("+strings.Join(slices.Repeat([]string{text}, n), gap)+")")
				}
			}
		}
	}
	// Four lists of four each are the most there can be.
	full := "(" + strings.Repeat(`Not ["tenbytes-x"] `, 3) + "<9999>)"
	conds := condList(notCond(tagCond("tenbytes-x")), notCond(tagCond("tenbytes-x")), notCond(tagCond("tenbytes-x")), tokenCond(9999))
	wantIf(t, full+full+full+full, conds, conds, conds, conds)
	wantNoIf(t, full+full+full+full+full)
	if s := impl.IfText(someLists(conds, conds, conds, conds)); s != strings.Join(slices.Repeat([]string{full}, 4), " ") {
		t.Errorf("IfText is %q", s)
	}
}

func TestEachByteBesideConds(t *testing.T) {
	two := someLists(condList(tokenCond(5), tagCond("v1")), condList(notCond(tokenCond(6))))
	for c := range 256 {
		one := string([]byte{byte(c)})
		blank := c == 32
		// Between lists any blanks, between Conds and behind Not one alone.
		wantIfWhere(t, blank, `(<5> ["v1"])`+one+`(Not <6>)`, two...)
		wantIfWhere(t, blank, `(<5> ["v1"]) `+one+` (Not <6>)`, two...)
		wantIfWhere(t, blank, `(<5>`+one+`["v1"]) (Not <6>)`, two...)
		wantIfWhere(t, blank, `(<5> ["v1"]) (Not`+one+`<6>)`, two...)
		for _, s := range []string{
			one, one + one, one + `(<5> ["v1"]) (Not <6>)`, `(<5> ["v1"]) (Not <6>)` + one, `(` + one + `<5> ["v1"]) (Not <6>)`, `(<5>` + one + ` ["v1"]) (Not <6>)`, `(<5> ` + one + `["v1"]) (Not <6>)`,
			`(<5> [` + one + `"v1"]) (Not <6>)`, `(<5> ["v1"` + one + `]) (Not <6>)`, `(<5> ["v1"]` + one + `) (Not <6>)`, `(<5> ["v1"]) (` + one + `Not <6>)`, `(<5> ["v1"]) (Not` + one + ` <6>)`, `(<5> ["v1"]) (Not ` + one + `<6>)`, `(<5> ["v1"]) (Not <6>` + one + `)`, `(` + one + `)`, `(<5>)(` + one + `)`,
			`(<` + one + `5>x)`, `(<5` + one + `>x)`,
		} {
			wantNoIf(t, s)
		}
		// In the place of each byte that the form names.
		wantIfWhere(t, c == '(', one+"<5>)", condList(tokenCond(5)))
		wantIfWhere(t, c == '<', "("+one+"5>)", condList(tokenCond(5)))
		wantIfWhere(t, c == '>', "(<5"+one+")", condList(tokenCond(5)))
		wantIfWhere(t, c == ')', "(<5>"+one, condList(tokenCond(5)))
		wantIfWhere(t, c == '[', "("+one+"\"a\"])", condList(tagCond("a")))
		wantIfWhere(t, c == '"', "(["+one+"a\"])", condList(tagCond("a")))
		wantIfWhere(t, c == '"', "([\"a"+one+"])", condList(tagCond("a")))
		wantIfWhere(t, c == ']', "([\"a\""+one+")", condList(tagCond("a")))
		wantIfWhere(t, c == 'N', "("+one+"ot <5>)", condList(notCond(tokenCond(5))))
		wantIfWhere(t, c == 'o', "(N"+one+"t <5>)", condList(notCond(tokenCond(5))))
		wantIfWhere(t, c == 't', "(No"+one+" <5>)", condList(notCond(tokenCond(5))))
	}
}

func TestNumbersOfConds(t *testing.T) {
	for n := -20; n <= mostToken+20; n++ {
		num := strconv.Itoa(n)
		good := n >= 1 && n <= mostToken
		wantIfWhere(t, good, "(<"+num+">)", condList(tokenCond(n)))
		wantIfWhere(t, good, `(["a"] Not <`+num+">)", condList(tagCond("a"), notCond(tokenCond(n))))
		for _, other := range []string{"0" + num, "00" + num, "+" + num, "-" + num, " " + num, num + " ", num + ".", "#" + num, num + "\x00"} {
			wantNoIf(t, "(<"+other+">)")
		}
	}
	for n := range 300 {
		wantIfWhere(t, n >= 1 && n <= 4, "(<"+strings.Repeat("9", n)+">)", condList(tokenCond([]int{0, 9, 99, 999, 9999}[min(n, 4)])))
		wantIfWhere(t, n < 4, "(<1"+strings.Repeat("0", n)+">)", condList(tokenCond([]int{1, 10, 100, 1000, 0}[min(n, 4)])))
		wantNoIf(t, "(<"+strings.Repeat("0", n)+">)")
		if n > 0 {
			wantNoIf(t, "(<"+strings.Repeat("0", n)+"1>)")
		}
	}
	for c := range 256 {
		one := string([]byte{byte(c)})
		figure := c >= '0' && c <= '9'
		wantIfWhere(t, figure && c != '0', "(<"+one+">)", condList(tokenCond(c-'0')))
		wantIfWhere(t, figure, "(<7"+one+">)", condList(tokenCond(70+c-'0')))
		wantIfWhere(t, figure && c != '0', "(<"+one+"7>)", condList(tokenCond(10*(c-'0')+7)))
	}
}

func TestMarksOfConds(t *testing.T) {
	for n := range 300 {
		for _, c := range []string{"a", " ", "~", "!", ",", "]", "[", ")", "(", "<", "*"} {
			inner := strings.Repeat(c, n)
			mark := "[" + quoted(inner) + "]"
			good := n >= 1 && n <= mostTag
			wantIfWhere(t, good, "("+mark+")", condList(tagCond(inner)))
			wantIfWhere(t, good, "(Not "+mark+")", condList(notCond(tagCond(inner))))
			wantIfWhere(t, good, "(<5> "+mark+" "+mark+") (Not "+mark+" <6>)", condList(tokenCond(5), tagCond(inner), tagCond(inner)), condList(notCond(tagCond(inner)), tokenCond(6)))
		}
	}
	// The bytes count, not the letters.
	wantNoIf(t, `(["`+strings.Repeat("\u00e9", mostTag/2)+`"])`)
	for c := range 256 {
		one := string([]byte{byte(c)})
		for _, inner := range []string{one, one + "a", "a" + one, "a" + one + "b", one + one, strings.Repeat("a", mostTag-1) + one, one + strings.Repeat("a", mostTag-1)} {
			good := c >= 32 && c <= 126 && c != '"'
			wantIfWhere(t, good, "(["+quoted(inner)+"])", condList(tagCond(inner)))
			wantIfWhere(t, good, "(<5>)(Not ["+quoted(inner)+"] <6>)", condList(tokenCond(5)), condList(notCond(tagCond(inner)), tokenCond(6)))
		}
	}
	for _, ver := range []int{0, 1, 12, 99999, 100000, 999999999} {
		wantIf(t, "(["+impl.TagText(ver)+"])", condList(impl.Cond{Tag: impl.TagText(ver)}))
	}
	wantNoIf(t, "(["+impl.TagText(1000000000)+"])")
}

// The form of lists as a pattern: a reading that the program's is held
// against.
const (
	condPattern = `(?:Not )?(?:<[1-9][0-9]{0,3}>|\["[ !#-~]{1,10}"\])`
	listPattern = `\(` + condPattern + `(?: ` + condPattern + `){0,3}\)`
)

var (
	condForm = regexp.MustCompile(condPattern)
	listForm = regexp.MustCompile(listPattern)
	ifForm   = regexp.MustCompile(`\A` + listPattern + `(?: *` + listPattern + `){0,3}\z`)
)

func condByForm(s string) impl.Cond {
	s, not := strings.CutPrefix(s, "Not ")
	if s[0] == '[' {
		return impl.Cond{Not: not, Tag: s[1 : len(s)-1]}
	}
	n, _ := strconv.Atoi(s[1 : len(s)-1])
	return impl.Cond{Not: not, Token: n}
}

func ifByForm(s string) ([][]impl.Cond, bool) {
	if !ifForm.MatchString(s) {
		return nil, false
	}
	l := [][]impl.Cond{}
	for _, list := range listForm.FindAllString(s, -1) {
		conds := []impl.Cond{}
		for _, c := range condForm.FindAllString(list, -1) {
			conds = append(conds, condByForm(c))
		}
		l = append(l, conds)
	}
	return l, true
}

// wantIfAsByForm tells whether there are lists.
func wantIfAsByForm(t *testing.T, s string) bool {
	t.Helper()
	l, ok := ifByForm(s)
	wantIfWhere(t, ok, s, l...)
	if !ok {
		return false
	}
	// The text comes back, too, but for the blanks between lists.
	if text := impl.IfText(l); text != strings.Join(listForm.FindAllString(s, -1), " ") {
		t.Errorf("IfText(%+v) is %q, of %q", l, text, s)
	}
	return true
}

// goodIfs are texts from which others are made.
func goodIfs() []string {
	return []string{
		"(<5>)", `(["v1"])`, "(Not <5>)", `(Not ["v1"])`, `(<5> Not ["v1"])  (Not <7>)(["x"])`, "(<1> <12> <123> <1234>)", "(<1>)(<2>) (<3>)  (<4>)", `(["tenbytes-x"] Not <9999>)`, `([") ("] ["] ["])(["(<5>)"])`, `(Not <10> Not [" "] Not <100>) (["Not "])`,
	}
}

func TestIfsOfChangedTexts(t *testing.T) {
	seen := map[bool]int{}
	for _, s := range goodIfs() {
		if !wantIfAsByForm(t, s) {
			t.Errorf("%q is none", s)
		}
		for at := range len(s) + 1 {
			// A beginning, and an end.
			seen[wantIfAsByForm(t, s[:at])]++
			seen[wantIfAsByForm(t, s[at:])]++
			for c := range 256 {
				one := string([]byte{byte(c)})
				seen[wantIfAsByForm(t, s[:at]+one+s[at:])]++
				if at < len(s) {
					seen[wantIfAsByForm(t, s[:at]+one+s[at+1:])]++
				}
			}
			for to := at; to <= len(s); to++ {
				seen[wantIfAsByForm(t, s[:at]+s[to:])]++
				seen[wantIfAsByForm(t, s[:to]+s[at:])]++
			}
		}
	}
	if seen[true] < 1000 || seen[false] < 10000 {
		t.Errorf("of %d there are lists, of %d there are none", seen[true], seen[false])
	}
}

func TestIfsOfAllShortTexts(t *testing.T) {
	seen := map[bool]int{}
	for _, words := range [][]string{
		{"(", ")", "<", ">", "5", " "},
		{"(", ")", "<5>", "Not", " ", "[\"a\"]"},
		{"([\"", "\"])", "\"] [\"", "a", " ", "]"},
		{"(<1>)", " ", "(Not <2>)", "(", "[\"a\"])"},
	} {
		for _, l := range allListsOf(words, 6) {
			seen[wantIfAsByForm(t, strings.Join(l, ""))]++
		}
	}
	if seen[true] < 500 || seen[false] < 10000 {
		t.Errorf("of %d there are lists, of %d there are none", seen[true], seen[false])
	}
}

func TestIfsOfDrawnTexts(t *testing.T) {
	draw := rand.New(rand.NewPCG(14, 1))
	words := []string{"(", ")", ") (", ")(", " ", " ", "Not ", "Not ", "<5>", "<9999>", "<1> ", "<0>", "<10000>", `["v1"]`, `["tenbytes-x"]`, `["elevenbytes"]`, `[""]`, `[" "] `, "\t", "x", "\""}
	seen := map[bool]int{}
	for range 60000 {
		s := "("
		for range draw.IntN(9) {
			s += words[draw.IntN(len(words))]
		}
		if draw.IntN(4) > 0 {
			s += ")"
		}
		seen[wantIfAsByForm(t, s)]++
	}
	if seen[true] < 1000 || seen[false] < 1000 {
		t.Errorf("of %d there are lists, of %d there are none", seen[true], seen[false])
	}
}

func TestLongTextsOfLists(t *testing.T) {
	for _, n := range []int{1000, 100000} {
		b := strings.Repeat(" ", n)
		wantIf(t, "(<5>)"+b+"(<6>)"+b+"(<7>)"+b+"(<8>)", condList(tokenCond(5)), condList(tokenCond(6)), condList(tokenCond(7)), condList(tokenCond(8)))
		for _, s := range []string{b, b + "(<5>)", "(<5>)" + b, "(" + b + "<5>)", "(<5>" + b + ")", "(<5>" + b + "<6>)", "(Not" + b + "<5>)", "(<5>)" + b + "x", "(<" + b + "5>)", "([\"" + b + "\"])"} {
			wantNoIf(t, s)
		}
		for _, one := range []string{"(", ")", "<", "<5>", "(<5>)", "(<5>) ", "(<5> ", "Not ", "(Not ", `["`, `["v1"] `, "\"", "5", "\x00"} {
			wantNoIf(t, strings.Repeat(one, n))
			wantNoIf(t, "("+strings.Repeat(one, n)+")")
		}
	}
}

func wantIfText(t *testing.T, want string, l ...[]impl.Cond) {
	t.Helper()
	kept := deepLists(l)
	if s := impl.IfText(l); s != want {
		t.Errorf("IfText(%+v) is %q, not %q", l, s, want)
	}
	if !sameLists(l, kept) {
		t.Errorf("IfText turns its argument: %+v", l)
	}
	if want == "" {
		return
	}
	if again, ok := impl.ParseIf(want); !ok || !sameLists(again, kept) {
		t.Errorf("ParseIf(%q) is %+v, %v, not %+v", want, again, ok, l)
	}
}

func TestIfText(t *testing.T) {
	one := condList(tokenCond(5))
	wantIfText(t, "(<5>)", one)
	wantIfText(t, "(Not <5>)", condList(notCond(tokenCond(5))))
	wantIfText(t, `(["v1"])`, condList(tagCond("v1")))
	wantIfText(t, `(Not ["v1"])`, condList(notCond(tagCond("v1"))))
	wantIfText(t, "(<1> <9999>)", condList(tokenCond(1), tokenCond(9999)))
	wantIfText(t, `(<5> Not ["v1"] ["v2"] Not <6>)`, condList(tokenCond(5), notCond(tagCond("v1")), tagCond("v2"), notCond(tokenCond(6))))
	wantIfText(t, "(<5>) (<5>)", one, one)
	wantIfText(t, `(Not <7>) (["x"])`, condList(notCond(tokenCond(7))), condList(tagCond("x")))
	wantIfText(t, "(<5>) (<5>) (<5>) (<5>)", one, one, one, one)
	wantIfText(t, "(<5> <5> <5> <5>)", slices.Repeat(one, 4))
	wantIfText(t, `(["tenbytes-x"])`, condList(tagCond("tenbytes-x")))
	wantIfText(t, `([") ("] [" "])`, condList(tagCond(") ("), tagCond(" ")))
	wantIfText(t, `(["a"])`, condList(tagCond("a")))
}

// wrongConds name nothing, both, or what is none.
func wrongConds() []impl.Cond {
	l := []impl.Cond{{}}
	for _, n := range []int{-1, -5, -mostToken, mostToken + 1, mostToken + 2, 99999, 1 << 32, 1<<32 + 5, 1<<16 + 5, math.MaxInt, math.MinInt, math.MinInt + 1} {
		l = append(l, tokenCond(n), impl.Cond{Token: n, Tag: quoted("v1")})
	}
	for _, tag := range []string{
		`"`, `""`, `"""`, `""""`, "a", "v1", `"v1`, `v1"`, `v1""`, `""v1`, `"v"1"`, `""v1""`, ` "v1"`, `"v1" `, `"v1" "v2"`, `"v1","v2"`, `"v1""v2"`, `["v1"]`, `"v1"]`, `["v1"`, "*", " ", `W/"v1"`, `'v1'`, "<5>", `"elevenbytes"`, `"           "`, quoted(strings.Repeat("a", 100)), quoted(strings.Repeat("\u00e9", 5)),
		"\"\t\"", "\"a\n\"", "\"\x00\"", "\"\x1f\"", "\"\x7f\"", "\"\x80\"", "\"\xff\"", "\"\u00e9\"", "\x00", "\u201ca\u201d", `"v1"` + "\x00", `"v1"` + "\n", `"a"] <5>) (["b"`,
	} {
		l = append(l, impl.Cond{Tag: tag}, impl.Cond{Token: 5, Tag: tag})
	}
	for _, n := range []int{1, 5, mostToken} {
		l = append(l, impl.Cond{Token: n, Tag: quoted("a")}, impl.Cond{Token: n, Tag: quoted("")})
	}
	return l
}

func TestIfTextOfCondsThatAreNone(t *testing.T) {
	good := condList(tokenCond(5), notCond(tagCond("v1")), tagCond("v2"))
	for _, made := range wrongConds() {
		for _, wrong := range condList(made, notCond(made)) {
			wantIfText(t, "", condList(wrong))
			for at := range len(good) + 1 {
				conds := slices.Insert(slices.Clone(good), at, wrong)
				wantIfText(t, "", conds)
				wantIfText(t, "", conds, good)
				wantIfText(t, "", good, conds)
				wantIfText(t, "", good, conds, good)
				wantIfText(t, "", good, good, good, conds)
			}
		}
	}
}

func TestIfTextOfListsThatAreNone(t *testing.T) {
	one := condList(tokenCond(5))
	wantIfText(t, "")
	if s := impl.IfText(nil); s != "" {
		t.Errorf("IfText of nil is %q", s)
	}
	if s := impl.IfText([][]impl.Cond{}); s != "" {
		t.Errorf("IfText of no lists is %q", s)
	}
	for _, none := range [][]impl.Cond{nil, {}} {
		wantIfText(t, "", none)
		wantIfText(t, "", none, none)
		wantIfText(t, "", none, one)
		wantIfText(t, "", one, none)
		wantIfText(t, "", one, none, one)
		wantIfText(t, "", one, one, one, none)
		wantIfText(t, "", none, one, one, one)
	}
	for n := range 40 {
		text := ""
		if n >= 1 && n <= mostLists {
			text = strings.Repeat("(<5>) ", n)[:6*n-1]
		}
		wantIfText(t, text, slices.Repeat(someLists(one), n)...)
		text = ""
		if n >= 1 && n <= mostConds {
			text = "(" + strings.Repeat(`Not ["a"] `, n)[:10*n-1] + ")"
		}
		conds := slices.Repeat(condList(notCond(tagCond("a"))), n)
		wantIfText(t, text, conds)
		if text == "" {
			wantIfText(t, "", one, conds)
			wantIfText(t, "", conds, one)
		} else {
			wantIfText(t, "(<5>) "+text, one, conds)
			wantIfText(t, text+" (<5>)", conds, one)
		}
	}
	wantIfText(t, "", slices.Repeat(someLists(one), 50000)...)
	wantIfText(t, "", slices.Repeat(one, 50000))
}

func TestIfTextOfEachNumberAndMark(t *testing.T) {
	for n := -20; n <= mostToken+20; n++ {
		text := ""
		if n >= 1 && n <= mostToken {
			text = "<" + strconv.Itoa(n) + ">"
			wantIfText(t, "("+text+" Not "+text+")", condList(tokenCond(n), notCond(tokenCond(n))))
		} else {
			wantIfText(t, "", condList(tokenCond(n)))
			wantIfText(t, "", condList(notCond(tokenCond(n))))
		}
		if n != 0 {
			wantIfText(t, "", condList(impl.Cond{Token: n, Tag: quoted("a")}))
		}
	}
	for c := range 256 {
		one := string([]byte{byte(c)})
		for _, inner := range []string{one, one + "a", "a" + one, "a" + one + "b", strings.Repeat("a", mostTag-1) + one} {
			text := ""
			if c >= 32 && c <= 126 && c != '"' {
				text = "(<5> [" + quoted(inner) + "])"
			}
			wantIfText(t, text, condList(tokenCond(5), tagCond(inner)))
		}
	}
	for n := range 40 {
		inner, text := strings.Repeat("]", n), ""
		if n >= 1 && n <= mostTag {
			text = "(Not [" + quoted(inner) + "])"
		}
		wantIfText(t, text, condList(notCond(tagCond(inner))))
	}
}

func drawCond(draw *rand.Rand) impl.Cond {
	c := impl.Cond{Not: draw.IntN(2) == 0}
	if draw.IntN(2) == 0 {
		c.Token = 1 + draw.IntN([]int{9, 99, 999, 9999}[draw.IntN(4)])
	} else {
		c.Tag = quoted(strings.ReplaceAll(drawPlain(draw, 1, mostTag), "\"", "]"))
	}
	return c
}

func drawLists(draw *rand.Rand) [][]impl.Cond {
	l := [][]impl.Cond{}
	for range 1 + draw.IntN(mostLists) {
		conds := []impl.Cond{}
		for range 1 + draw.IntN(mostConds) {
			conds = append(conds, drawCond(draw))
		}
		l = append(l, conds)
	}
	return l
}

// Lists of what must be come back of their text, whatever blanks come between.
func TestDrawnListsComeBack(t *testing.T) {
	draw := rand.New(rand.NewPCG(14, 2))
	for range 20000 {
		l := drawLists(draw)
		s := impl.IfText(l)
		if got, ok := impl.ParseIf(s); !ok || !sameLists(got, l) || !ifForm.MatchString(s) {
			t.Fatalf("IfText(%+v) is %q, of which comes %+v, %v", l, s, got, ok)
		}
		spaced := ""
		for i, list := range listForm.FindAllString(s, -1) {
			if i > 0 {
				spaced += strings.Repeat(" ", draw.IntN(4))
			}
			spaced += list
		}
		got, ok := impl.ParseIf(spaced)
		if !ok || !sameLists(got, l) || impl.IfText(got) != s {
			t.Fatalf("ParseIf(%q) is %+v, %v, not %+v", spaced, got, ok, l)
		}
		// One that is none spoils all.
		conds := l[draw.IntN(len(l))]
		wrong := wrongConds()
		conds[draw.IntN(len(conds))] = wrong[draw.IntN(len(wrong))]
		if s := impl.IfText(l); s != "" {
			t.Fatalf("IfText(%+v) is %q", l, s)
		}
	}
}

func wantEval(t *testing.T, want bool, tokens []int, tag string, l ...[]impl.Cond) {
	t.Helper()
	kept, keptTokens := deepLists(l), slices.Clone(tokens)
	if impl.EvalIf(l, tokens, tag) != want {
		t.Errorf("EvalIf(%+v, %v, %q) is %v", l, tokens, tag, !want)
	}
	if !sameLists(l, kept) || !slices.Equal(tokens, keptTokens) {
		t.Errorf("EvalIf turns its arguments: %+v, %v", l, tokens)
	}
}

// wantCond asks it alone, of both kinds of Not, and in lists with others.
func wantCond(t *testing.T, want bool, tokens []int, tag string, c impl.Cond) {
	t.Helper()
	not := c
	not.Not = !c.Not
	for _, x := range []struct {
		c    impl.Cond
		want bool
	}{{c, want}, {not, !want}} {
		wantEval(t, x.want, tokens, tag, condList(x.c))
		wantEval(t, x.want, tokens, tag, condList(x.c, x.c))
		wantEval(t, x.want, tokens, tag, condList(x.c), condList(x.c))
		wantEval(t, true, tokens, tag, condList(x.c), nil)
		wantEval(t, false, tokens, tag, condList(c, not))
		wantEval(t, false, tokens, tag, condList(not, c), condList(c, x.c, not))
		wantEval(t, true, tokens, tag, condList(c), condList(not))
		wantEval(t, true, tokens, tag, condList(not), condList(c))
	}
}

func TestEvalIfOfNoLists(t *testing.T) {
	for _, tokens := range [][]int{nil, {}, {0}, {5}, {5, 7}} {
		for _, tag := range []string{"", `"v1"`, "x"} {
			wantEval(t, false, tokens, tag)
			if impl.EvalIf(nil, tokens, tag) {
				t.Errorf("EvalIf(nil, %v, %q) is true", tokens, tag)
			}
			// Of a list with nothing all hold.
			wantEval(t, true, tokens, tag, nil)
			wantEval(t, true, tokens, tag, []impl.Cond{})
			wantEval(t, true, tokens, tag, condList(tokenCond(8)), nil)
			wantEval(t, true, tokens, tag, nil, condList(tokenCond(8)))
			wantEval(t, true, tokens, tag, condList(tokenCond(8)), []impl.Cond{}, condList(tagCond("no")))
		}
	}
}

func TestEvalIfOfOneCond(t *testing.T) {
	for _, x := range []struct {
		tokens []int
		tag    string
		c      impl.Cond
		want   bool
	}{
		// A Token that is there, and one that is not, whatever the tag.
		{nil, "", tokenCond(5), false}, {[]int{}, "", tokenCond(5), false}, {[]int{5}, "", tokenCond(5), true}, {[]int{6}, "", tokenCond(5), false}, {[]int{5, 6, 7}, `"v1"`, tokenCond(5), true}, {[]int{5, 6, 7}, `"v1"`, tokenCond(6), true}, {[]int{5, 6, 7}, `"v1"`, tokenCond(7), true}, {[]int{5, 6, 7}, `"v1"`, tokenCond(8), false}, {[]int{7, 6, 5}, "", tokenCond(5), true}, {[]int{5, 5}, "", tokenCond(5), true}, {[]int{55, 15, 50}, "", tokenCond(5), false}, {[]int{0}, "", tokenCond(5), false}, {[]int{-5}, "", tokenCond(5), false}, {[]int{9999}, "", tokenCond(9999), true}, {[]int{1}, "", tokenCond(1), true},
		// A Tag that is the mark, and others, whatever the tokens.
		{nil, `"v1"`, tagCond("v1"), true}, {[]int{5}, `"v1"`, tagCond("v1"), true}, {nil, `"v2"`, tagCond("v1"), false}, {nil, `"v12"`, tagCond("v1"), false}, {nil, `"v1"`, tagCond("v12"), false}, {nil, `"V1"`, tagCond("v1"), false}, {nil, "v1", tagCond("v1"), false}, {nil, `"v1" `, tagCond("v1"), false}, {nil, "", tagCond("v1"), false}, {nil, `""`, tagCond("v1"), false}, {nil, "*", tagCond("v1"), false}, {nil, `"v1"`, tagCond("*"), false}, {nil, `"5"`, tagCond("5"), true}, {[]int{5}, "", tagCond("5"), false}, {[]int{0}, `"v2"`, tagCond("v1"), false},
		// Both: the Token counts.
		{[]int{5}, `"v1"`, impl.Cond{Token: 5, Tag: `"v1"`}, true}, {[]int{5}, `"v2"`, impl.Cond{Token: 5, Tag: `"v1"`}, true}, {[]int{6}, `"v1"`, impl.Cond{Token: 5, Tag: `"v1"`}, false}, {nil, `"v1"`, impl.Cond{Token: 5, Tag: `"v1"`}, false}, {nil, `"v2"`, impl.Cond{Token: 5, Tag: `"v1"`}, false},
		// None of both: the empty Tag counts.
		{nil, "", impl.Cond{}, true}, {[]int{0}, "", impl.Cond{}, true}, {[]int{5}, "", impl.Cond{}, true}, {[]int{0}, `"v1"`, impl.Cond{}, false}, {nil, `"v1"`, impl.Cond{}, false}, {nil, " ", impl.Cond{}, false}, {nil, `""`, impl.Cond{}, false},
		// Tokens and Tags that are none are held against what is there like others.
		{[]int{-5}, "", tokenCond(-5), true}, {[]int{5}, "", tokenCond(-5), false}, {[]int{10000}, "", tokenCond(10000), true}, {[]int{math.MinInt}, "", tokenCond(math.MinInt), true}, {nil, "", tokenCond(math.MinInt), false}, {[]int{math.MaxInt}, "", tokenCond(math.MaxInt), true}, {[]int{5}, "", tokenCond(1<<32 + 5), false}, {[]int{-5}, `"v1"`, impl.Cond{Token: -5, Tag: `"v2"`}, true},
		{nil, "x", impl.Cond{Tag: "x"}, true}, {nil, `""`, tagCond(""), true}, {nil, "", tagCond(""), false}, {nil, "*", impl.Cond{Tag: "*"}, true}, {nil, `"v1"`, impl.Cond{Tag: "*"}, false}, {nil, "\xff", impl.Cond{Tag: "\xff"}, true}, {nil, "\xfe", impl.Cond{Tag: "\xff"}, false}, {nil, `"elevenbytes"`, tagCond("elevenbytes"), true}, {nil, `"v1"`, impl.Cond{Tag: `"v1","v2"`}, false},
	} {
		wantCond(t, x.want, x.tokens, x.tag, x.c)
	}
}

func TestEvalIfOfLists(t *testing.T) {
	tokens, tag := []int{5, 7}, `"v1"`
	yes := condList(tokenCond(5), tokenCond(7), tagCond("v1"), notCond(tokenCond(6)), notCond(tagCond("v2")))
	no := condList(tokenCond(6), tagCond("v2"), notCond(tokenCond(5)), notCond(tokenCond(7)), notCond(tagCond("v1")))
	wantEval(t, true, tokens, tag, yes)
	for _, n := range no {
		for at := range len(yes) + 1 {
			wantEval(t, false, tokens, tag, slices.Insert(slices.Clone(yes), at, n))
		}
		for _, y := range yes {
			holds, fails := condList(y), condList(y, n)
			// The first, the middle, the last.
			for at := range 6 {
				l := slices.Repeat(someLists(fails), 5)
				wantEval(t, false, tokens, tag, l...)
				wantEval(t, true, tokens, tag, slices.Insert(l, at, holds)...)
			}
			wantEval(t, false, tokens, tag, condList(n, y))
			wantEval(t, false, tokens, tag, condList(n))
		}
	}
	wantEval(t, false, tokens, tag, no)
	// More lists, and longer ones, than ParseIf reads.
	wantEval(t, true, tokens, tag, slices.Repeat(yes, 1000))
	wantEval(t, false, tokens, tag, append(slices.Repeat(yes, 1000), no[0]))
	many := slices.Repeat(someLists(no), 1000)
	wantEval(t, false, tokens, tag, many...)
	wantEval(t, true, tokens, tag, append(many, yes)...)
}

func evalByWords(l [][]impl.Cond, tokens []int, tag string) bool {
	there := map[int]bool{}
	for _, n := range tokens {
		there[n] = true
	}
	one := false
	for _, conds := range l {
		held := 0
		for _, c := range conds {
			so := c.Tag == tag
			if c.Token != 0 {
				so = there[c.Token]
			}
			if so && !c.Not || !so && c.Not {
				held++
			}
		}
		one = one || held == len(conds)
	}
	return one
}

func submittedByWords(l [][]impl.Cond) []int {
	tokens := []int{}
	for _, c := range slices.Concat(l...) {
		if !c.Not && c.Token != 0 {
			tokens = append(tokens, c.Token)
		}
	}
	return tokens
}

func TestAllSmallIfs(t *testing.T) {
	conds := []impl.Cond{}
	for _, c := range condList(tokenCond(5), tokenCond(7), tagCond("v1"), impl.Cond{Token: 5, Tag: quoted("v1")}, impl.Cond{}) {
		conds = append(conds, c, notCond(c))
	}
	seen := map[bool]int{}
	for _, l := range allListsOf(allListsOf(conds, 2), 2) {
		for _, tokens := range [][]int{nil, {5}, {7, 5}} {
			for _, tag := range []string{"", `"v1"`} {
				want := evalByWords(l, tokens, tag)
				seen[want]++
				wantEval(t, want, tokens, tag, l...)
			}
		}
		if got := impl.Submitted(l); !slices.Equal(got, submittedByWords(l)) {
			t.Fatalf("Submitted(%+v) is %v", l, got)
		}
	}
	if seen[true] < 10000 || seen[false] < 10000 {
		t.Errorf("%d hold, %d do not", seen[true], seen[false])
	}
}

func TestDrawnListsHold(t *testing.T) {
	draw := rand.New(rand.NewPCG(14, 3))
	seen := map[bool]int{}
	for range 30000 {
		l := drawLists(draw)
		tokens, tag := []int{}, ""
		for _, c := range slices.Concat(l...) {
			if c.Tag != "" && draw.IntN(2) == 0 {
				tag = c.Tag
			}
			if c.Token != 0 && draw.IntN(2) == 0 {
				tokens = append(tokens, c.Token)
			}
		}
		want := evalByWords(l, tokens, tag)
		seen[want]++
		wantEval(t, want, tokens, tag, l...)
		read, _ := impl.ParseIf(impl.IfText(l))
		wantEval(t, want, tokens, tag, read...)
		slices.Reverse(tokens)
		wantEval(t, want, tokens, tag, l...)
		if got := impl.Submitted(read); !slices.Equal(got, submittedByWords(l)) {
			t.Fatalf("Submitted(%+v) is %v", read, got)
		}
	}
	if seen[true] < 3000 || seen[false] < 3000 {
		t.Errorf("%d hold, %d do not", seen[true], seen[false])
	}
}

func wantSubmitted(t *testing.T, l [][]impl.Cond, want ...int) {
	t.Helper()
	kept := deepLists(l)
	if got := impl.Submitted(l); !slices.Equal(got, want) {
		t.Errorf("Submitted(%+v) is %v, not %v", l, got, want)
	}
	if !sameLists(l, kept) {
		t.Errorf("Submitted turns its argument: %+v", l)
	}
}

func TestSubmitted(t *testing.T) {
	wantSubmitted(t, nil)
	wantSubmitted(t, [][]impl.Cond{})
	wantSubmitted(t, someLists(nil))
	wantSubmitted(t, someLists(nil, condList(), nil))
	wantSubmitted(t, someLists(condList(impl.Cond{}, notCond(impl.Cond{}))))
	for s, want := range map[string][]int{
		"(<5>)":                              {5},
		"(Not <5>)":                          {},
		`(["v1"])`:                           {},
		`(Not ["v1"])`:                       {},
		"(<5> <6>)":                          {5, 6},
		"(<6> <5>)":                          {6, 5},
		"(<5>)(<6>)":                         {5, 6},
		"(<6>)(<5>)":                         {6, 5},
		"(<9999> <1>) (<500>)":               {9999, 1, 500},
		"(Not <5> <6>)":                      {6},
		"(<5> Not <6>)":                      {5},
		"(<5> Not <5>)":                      {5},
		"(Not <5>)(<5>)":                     {5},
		"(Not <5>)(Not <6> Not <7>)":         {},
		`(["v1"] <5>)(<6> ["v2"])`:           {5, 6},
		`(["5"] Not ["6"] <7>)`:              {7},
		`(["<5>"])(<6>)`:                     {6},
		`(<5> Not ["v1"])  (Not <7>)(["x"])`: {5},
		// A Token twice is told twice.
		"(<5> <5>)":           {5, 5},
		"(<5>)(<5>)":          {5, 5},
		"(<5> <6> <5>)":       {5, 6, 5},
		"(<5>)(<6>)(<5> <5>)": {5, 6, 5, 5},
		"(<5> Not <5>)(<5>)":  {5, 5},
		"(<4> <3> <2> <1>) (<1> <2> <3> <4>)  (<4> Not <3>)(Not <2> <1>)": {4, 3, 2, 1, 1, 2, 3, 4, 4, 1},
	} {
		l, ok := impl.ParseIf(s)
		if !ok {
			t.Fatalf("ParseIf(%q) is false", s)
		}
		wantSubmitted(t, l, want...)
	}
	// Lists that have no text.
	wantSubmitted(t, someLists(nil, condList(tokenCond(5)), nil, condList(tokenCond(6)), nil), 5, 6)
	wantSubmitted(t, someLists(condList(impl.Cond{Token: 5, Tag: quoted("v1")}, impl.Cond{Token: 6, Tag: "x"}, impl.Cond{Not: true, Token: 7, Tag: quoted("v1")})), 5, 6)
	wantSubmitted(t, someLists(condList(tokenCond(-5), tokenCond(10000), tokenCond(0), tokenCond(math.MinInt), notCond(tokenCond(-6)))), -5, 10000, math.MinInt)
	wantSubmitted(t, slices.Repeat(someLists(condList(tokenCond(5), notCond(tokenCond(6)))), 1000), slices.Repeat([]int{5}, 1000)...)
}

// roomyIf has room behind the lists and behind each of them, with something in
// it that is not to be turned.
func roomyIf(s string) [][]impl.Cond {
	l, _ := ifByForm(s)
	for i, conds := range l {
		l[i] = append(slices.Clone(conds), tokenCond(901), tagCond("behind"))[:len(conds)]
	}
	return append(l, condList(tokenCond(902)), condList(tokenCond(903)))[:len(l)]
}

// wholeIf is a roomyIf with all that room.
func wholeIf(l [][]impl.Cond) [][]impl.Cond {
	whole := [][]impl.Cond{}
	for _, conds := range l {
		whole = append(whole, slices.Clone(conds[:len(conds)+2]))
	}
	return append(whole, deepLists(l[:len(l)+2][len(l):])...)
}

func spoilConds(conds []impl.Cond) {
	for i := range conds[:cap(conds)] {
		conds[:cap(conds)][i] = impl.Cond{Not: true, Token: -9, Tag: "spoilt"}
	}
}

func TestParsedListsAreNewMemory(t *testing.T) {
	for _, made := range goodIfs() {
		s := strings.Clone(made)
		l, ok := impl.ParseIf(s)
		if !ok {
			t.Fatalf("ParseIf(%q) is false", s)
		}
		again, _ := impl.ParseIf(s)
		want := deepLists(l)
		for _, c := range slices.Concat(l...) {
			if c.Tag != "" && shareMemory(s, c.Tag) {
				t.Errorf("%q shares memory with the argument", c.Tag)
			}
		}
		for _, conds := range l[len(l):cap(l)] {
			if conds != nil {
				t.Errorf("%+v is handed out behind the lists", conds)
			}
		}
		for i, conds := range l {
			for _, c := range conds[len(conds):cap(conds)] {
				if c != (impl.Cond{}) {
					t.Errorf("%+v is handed out behind a list", c)
				}
			}
			spoilConds(conds)
			if !sameLists(l[i+1:], want[i+1:]) {
				t.Fatalf("%q: two lists of one answer share: %+v", s, l)
			}
		}
		for i := range l[:cap(l)] {
			l[:cap(l)][i] = condList(tokenCond(-9))
		}
		if s != made || !sameLists(again, want) {
			t.Errorf("two answers share: %+v, of %q", again, s)
		}
		wantIf(t, s, again...)
	}
}

func TestQuestionsLeaveTheirLists(t *testing.T) {
	tokens := []int{5, 6, 77, 78}
	for _, s := range goodIfs() {
		l := roomyIf(s)
		kept := wholeIf(l)
		texts := []string{impl.IfText(l), impl.IfText(l)}
		told, again := impl.Submitted(l), impl.Submitted(l)
		impl.EvalIf(l, tokens[:2], `"v1"`)
		for i := range told[:cap(told)] {
			if i >= len(told) && told[:cap(told)][i] != 0 {
				t.Errorf("%d is handed out behind the Tokens", told[:cap(told)][i])
			}
			told[:cap(told)][i] = -9
		}
		if !sameLists(wholeIf(l), kept) || !slices.Equal(tokens, []int{5, 6, 77, 78}) {
			t.Errorf("%+v, %v: an argument is turned", wholeIf(l), tokens)
		}
		want, _ := ifByForm(s)
		if !slices.Equal(again, submittedByWords(want)) {
			t.Errorf("%q: two answers share: %v", s, again)
		}
		for _, c := range slices.Concat(l...) {
			if c.Tag != "" && shareMemory(texts[0], c.Tag) {
				t.Errorf("%q: the text shares memory with a Tag", s)
			}
		}
		for _, conds := range l {
			spoilConds(conds)
		}
		if text := strings.Join(listForm.FindAllString(s, -1), " "); texts[0] != text || texts[1] != text {
			t.Errorf("what was answered turns: %q", texts)
		}
	}
}

func TestIfsLookAtTheirLengthAlone(t *testing.T) {
	room := condList(tokenCond(5), tokenCond(7), impl.Cond{}, tokenCond(9), tokenCond(11), tokenCond(13))
	lists := someLists(room[:2], room[:1], room[2:3], nil, room)
	wantIfText(t, "(<5>)", room[:1])
	wantIfText(t, "(<5> <7>)", room[:2])
	wantIfText(t, "", room[:0])
	wantIfText(t, "(<5> <7>) (<5>)", lists[:2]...)
	wantIfText(t, "", lists[:3]...)
	wantIfText(t, "", lists[:0]...)
	wantSubmitted(t, lists[:1], 5, 7)
	wantSubmitted(t, lists[1:2], 5)
	wantSubmitted(t, lists[1:4], 5)
	wantSubmitted(t, lists[:0])
	tokens := []int{5, 7}
	wantEval(t, true, tokens[:1], "", room[:1])
	wantEval(t, false, tokens[:1], "", room[:2])
	wantEval(t, false, tokens[:0], "", room[:1])
	wantEval(t, false, tokens[:1], "x", lists[:1]...)
	wantEval(t, true, tokens[:1], "x", lists[:2]...)
	wantEval(t, false, tokens[:0], "x", lists[:3]...)
	wantEval(t, true, tokens[:0], "x", lists[:4]...)
	// Lists may be parts of one another.
	whole := someLists(room[:2], room[:2], room[1:2])
	wantIfText(t, "(<5> <7>) (<5> <7>) (<7>)", whole...)
	wantSubmitted(t, whole, 5, 7, 5, 7, 7)
}

func TestIfsThatAreRefusedLeaveNothingBehind(t *testing.T) {
	for _, bad := range []string{"", "()", "(<5>", "(<5>)(<6>", "(<5>) ", "(<5> <6> <7> <8> <9>)", "(<5>)(<6>)(<7>)(<8>)(<9>)", `(["elevenbytes"])`, "(Not Not <5>)", "(<5>)(<0>)"} {
		wantNoIf(t, bad)
		wantIf(t, "(<1>)(Not <2>)", condList(tokenCond(1)), condList(notCond(tokenCond(2))))
	}
	for _, wrong := range wrongConds() {
		wantIfText(t, "", condList(tokenCond(1)), condList(wrong))
		wantIfText(t, "(<1>)", condList(tokenCond(1)))
	}
}

// What must hold is a closure: a function literal that holds on to what its
// function was handed, and that EvalIf reaches.
func TestWhatMustHoldIsAClosure(t *testing.T) {
	closures := 0
	for _, fn := range functionsReached(t, "../impl/l14_if.go", "EvalIf") {
		closures += closuresIn(fn)
	}
	if closures == 0 {
		t.Error("l14_if.go: EvalIf reaches no closure")
	}
}

// functionsReached has the functions of a file that this one names, those that
// they name, and so on.
func functionsReached(t *testing.T, file string, from string) []*ast.FuncDecl {
	t.Helper()
	f, err := parser.ParseFile(token.NewFileSet(), file, nil, parser.SkipObjectResolution)
	if err != nil {
		t.Fatal(err)
	}
	decls := map[string]*ast.FuncDecl{}
	for _, d := range f.Decls {
		if fn, ok := d.(*ast.FuncDecl); ok {
			decls[fn.Name.Name] = fn
		}
	}
	reached, work := []*ast.FuncDecl{}, []string{from}
	for len(work) > 0 {
		fn := decls[work[0]]
		delete(decls, work[0])
		work = work[1:]
		if fn == nil {
			continue
		}
		reached = append(reached, fn)
		for other := range names(fn) {
			work = append(work, other)
		}
	}
	return reached
}

func closuresIn(fn *ast.FuncDecl) int {
	handed := map[string]bool{}
	for _, field := range fn.Type.Params.List {
		for _, name := range field.Names {
			handed[name.Name] = true
		}
	}
	n := 0
	ast.Inspect(fn.Body, func(x ast.Node) bool {
		lit, ok := x.(*ast.FuncLit)
		if !ok {
			return true
		}
		for name := range names(lit.Body) {
			if handed[name] {
				n++
				break
			}
		}
		return true
	})
	return n
}
