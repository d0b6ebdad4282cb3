package tests

import (
	"go/ast"
	"go/parser"
	"go/token"
	"math"
	"math/rand/v2"
	"regexp"
	"slices"
	"strings"
	"testing"

	"loop.example/g00452/impl"
)

const (
	mostTags = 5
	mostTag  = 10
)

func quoted(inner string) string { return "\"" + inner + "\"" }

func wantTags(t *testing.T, s string, want ...string) {
	t.Helper()
	if l, ok := impl.ParseTags(s); !ok || !slices.Equal(l, want) {
		t.Errorf("ParseTags(%q) is %q, %v, not %q", s, l, ok, want)
	}
}

func wantNoTags(t *testing.T, s string) {
	t.Helper()
	if l, ok := impl.ParseTags(s); ok || len(l) != 0 {
		t.Errorf("ParseTags(%q) is %q, %v, not nothing and false", s, l, ok)
	}
}

// wantNamed asks match and none, of what is there and of what is not: where it
// is not there nothing matches, and nothing hinders none.
func wantNamed(t *testing.T, s string, tag string, want bool) {
	t.Helper()
	for _, x := range []struct {
		there bool
		match bool
		none  bool
	}{{true, want, !want}, {false, false, true}} {
		if ok := impl.MatchOk(s, x.there, tag); ok != x.match {
			t.Errorf("MatchOk(%q, %v, %q) is %v", s, x.there, tag, ok)
		}
		if ok := impl.NoneOk(s, x.there, tag); ok != x.none {
			t.Errorf("NoneOk(%q, %v, %q) is %v", s, x.there, tag, ok)
		}
	}
}

func TestTagText(t *testing.T) {
	for ver, want := range map[int]string{
		0:              `"v0"`,
		1:              `"v1"`,
		9:              `"v9"`,
		10:             `"v10"`,
		12:             `"v12"`,
		99:             `"v99"`,
		100:            `"v100"`,
		99999:          `"v99999"`,
		100000:         `"v100000"`,
		9999999:        `"v9999999"`,
		10000000:       `"v10000000"`,
		999999999:      `"v999999999"`,
		1000000000:     `"v1000000000"`,
		-1:             `"v0"`,
		-12:            `"v0"`,
		math.MinInt:    `"v0"`,
		math.MaxInt:    `"v9223372036854775807"`,
		math.MaxInt32:  `"v2147483647"`,
		math.MinInt32:  `"v0"`,
		math.MaxUint32: `"v4294967295"`,
	} {
		if s := impl.TagText(ver); s != want {
			t.Errorf("TagText(%d) is %q, not %q", ver, s, want)
		}
	}
}

func TestEachVersionHasAMark(t *testing.T) {
	for ver := range 100001 {
		s := impl.TagText(ver)
		wantTags(t, s, s)
		wantNamed(t, s, s, true)
		wantNamed(t, s, impl.TagText(ver+1), false)
		wantNamed(t, impl.TagText(ver+1)+","+impl.TagText(10*ver+10), s, false)
	}
	// One digit more than these have finds no room in a mark.
	longest, longer := impl.TagText(999999999), impl.TagText(1000000000)
	wantTags(t, longest, longest)
	wantNoTags(t, longer)
	wantNamed(t, longer, longer, false)
}

func TestAnyMark(t *testing.T) {
	wantTags(t, "*", "*")
	for _, s := range []string{
		" *", "* ", " * ", "\t*", "*\t", "\t*\t", "  *", "*  ",
		"**", "* *", "*,*", "*, *", "*,", ",*", ",*,", "*;", "'*'", "`*`", "\"*", "*\"", "*\x00", "\x00*", "*\n", "(*)", "%2A",
		`*,"a"`, `"a",*`, `*, "a"`, `"a", *`, `*"a"`, `"a"*`, `* "a"`, `"a" *`, `"a",*,"b"`, `*,"*"`, `"*",*`,
	} {
		wantNoTags(t, s)
		for _, tag := range []string{"*", `"a"`, `"*"`, "", s} {
			wantNamed(t, s, tag, false)
		}
	}
	// With its ends it is a mark like others.
	wantTags(t, `"*"`, `"*"`)
	wantTags(t, `"*" , "a*"`, `"*"`, `"a*"`)
}

func TestParseTagsTakes(t *testing.T) {
	for s, want := range map[string][]string{
		`""`:                  {`""`},
		`"a"`:                 {`"a"`},
		`"v12"`:               {`"v12"`},
		`"A"`:                 {`"A"`},
		`"0"`:                 {`"0"`},
		`"tenbytes-x"`:        {`"tenbytes-x"`},
		`"a","b"`:             {`"a"`, `"b"`},
		`"b","a"`:             {`"b"`, `"a"`},
		`"a", "b"`:            {`"a"`, `"b"`},
		`"a" ,"b"`:            {`"a"`, `"b"`},
		`"a" , "b"`:           {`"a"`, `"b"`},
		` "a","b" `:           {`"a"`, `"b"`},
		"\t\"a\"\t,\t\"b\"\t": {`"a"`, `"b"`},
		" \t \"a\"\t \t, \t \"b\" \t": {
			`"a"`, `"b"`},
		`"1","2","3","4","5"`:           {`"1"`, `"2"`, `"3"`, `"4"`, `"5"`},
		` "1" , "2" , "3" , "4" , "5" `: {`"1"`, `"2"`, `"3"`, `"4"`, `"5"`},
		`"","","","",""`:                {`""`, `""`, `""`, `""`, `""`},
		`"a","a"`:                       {`"a"`, `"a"`},
		`"a","b","a"`:                   {`"a"`, `"b"`, `"a"`},
		`"a","a","a","a","a"`:           {`"a"`, `"a"`, `"a"`, `"a"`, `"a"`},
		`"","a"`:                        {`""`, `"a"`},
		`"a",""`:                        {`"a"`, `""`},
		// A comma within a mark parts nothing.
		`","`:                     {`","`},
		`",,"`:                    {`",,"`},
		`"a,b"`:                   {`"a,b"`},
		`",a"`:                    {`",a"`},
		`"a,"`:                    {`"a,"`},
		`"a, b"`:                  {`"a, b"`},
		`"a" ,"b,c"`:              {`"a"`, `"b,c"`},
		`"a,b","c"`:               {`"a,b"`, `"c"`},
		`",",","`:                 {`","`, `","`},
		`",",",",",",",",","`:     {`","`, `","`, `","`, `","`, `","`},
		`"1,2,3,4,5"`:             {`"1,2,3,4,5"`},
		`",,,,,,,,,,"`:            {`",,,,,,,,,,"`},
		`"1,2","3,4","5,6","7,8"`: {`"1,2"`, `"3,4"`, `"5,6"`, `"7,8"`},
		// A blank within a mark is one of its bytes.
		`" "`:          {`" "`},
		`" a"`:         {`" a"`},
		`"a "`:         {`"a "`},
		`" a "`:        {`" a "`},
		`"a b"`:        {`"a b"`},
		`"  "`:         {`"  "`},
		`"          "`: {`"          "`},
		`" ", " "`:     {`" "`, `" "`},
		` " a " `:      {`" a "`},
		`" , "`:        {`" , "`},
		`" " , " "`:    {`" "`, `" "`},
		// Nothing in a mark stands for anything else.
		`"\"`:      {`"\"`},
		`"\\"`:     {`"\\"`},
		`"%22"`:    {`"%22"`},
		`"&quot;"`: {`"&quot;"`},
		`"'"`:      {`"'"`},
		`"*"`:      {`"*"`},
		`"W/"`:     {`"W/"`},
		`"~!~"`:    {`"~!~"`},
	} {
		wantTags(t, s, want...)
		for _, tag := range want {
			wantNamed(t, s, tag, true)
		}
	}
}

func TestParseTagsRefuses(t *testing.T) {
	for _, s := range []string{
		"", " ", "\t", " \t ", "\n", "\x00", "a", "v1", "0", "-",
		`"`, ` "`, `" `, `"a`, `a"`, `"a `, ` a"`, `"a,`, `"a,b`, `"""`, `"a"b"`, `"a""`, `""a"`, `"""a"`, `"a","b`, `"a",b"`, `"a","`, `"a",b`, `a,"b"`,
		`"a" "b"`, `"a""b"`, `"a"b`, `b"a"`, `"a" b`, `b "a"`, `"a";"b"`, `"a"."b"`, `"a":"b"`, `"a"|"b"`, `"a"/"b"`, `"a","b" "c"`, `"a" "b","c"`,
		`,`, `,,`, ` , `, `,"a"`, `"a",`, `,"a",`, ` ,"a"`, `"a", `, `"a" ,`, `"a" , `, `"a",,"b"`, `"a", ,"b"`, "\"a\",\t,\"b\"", `"a",,`, `,,"a"`, `"a","b",`, `,"a","b"`, `"","",`,
		`'a'`, "`a`", `a`, `"a'`, `'a"`, `W/"a"`, `w/"a"`, `"a",W/"b"`, `("a")`, `["a"]`, `<a>`, `\"a\"`, `%22a%22`, `&quot;a&quot;`,
		`"elevenbytes"`, `"a","elevenbytes"`, `"elevenbytes","a"`, `"           "`, `",,,,,,,,,,,"`, `"a","b","c","d","elevenbytes"`,
		`"1","2","3","4","5","6"`, `"","","","","",""`, `"1","2","3","4","5",`, `"1","2","3","4","5","6",`, `"1","2","3","4","5","6","7"`, `"1","2","3","4","5"*`, `"1","2","3","4","5" "6"`,
		"\"\t\"", "\"a\tb\"", "\"\n\"", "\"a\r\n\"", "\"\x00\"", "\"\x7f\"", "\"\u00e9\"", "\"\xff\"", "\"\xc3\"", "\"a\u00a0\"", "\"\U0001f4da\"",
		"\n\"a\"", "\"a\"\n", "\r\n\"a\"", "\"a\"\r\n", "\x00\"a\"", "\"a\"\x00", "\v\"a\"", "\"a\"\f", "\u00a0\"a\"", "\"a\"\u00a0", "\u3000\"a\"", "\"a\"\u2028", "\xa0\"a\"", "\"a\"\x85", "\"a\",\n\"b\"", "\"a\"\n,\"b\"", "\"a\",\u00a0\"b\"",
		"\u201ca\u201d", "\uff02a\uff02", "\"a\"\u060c\"b\"", "\"a\"\uff0c\"b\"",
	} {
		wantNoTags(t, s)
		for _, tag := range []string{`"a"`, `"b"`, `""`, "", "a", "*", s, quoted(s)} {
			wantNamed(t, s, tag, false)
		}
	}
}

func TestMarksOfEachLength(t *testing.T) {
	for n := range 300 {
		for _, c := range []string{"a", ",", " ", "~", "!", "*"} {
			m := quoted(strings.Repeat(c, n))
			lists := map[string][]string{m: {m}, " " + m + " ": {m}, m + `,"x"`: {m, `"x"`}, `"x",` + m: {`"x"`, m}, `"x", ` + m + ` ,"y"`: {`"x"`, m, `"y"`}}
			for s, want := range lists {
				if n <= mostTag {
					wantTags(t, s, want...)
				} else {
					wantNoTags(t, s)
				}
				wantNamed(t, s, m, n <= mostTag)
			}
		}
	}
	// The bytes count, not the letters.
	wantNoTags(t, quoted(strings.Repeat("\u00e9", mostTag/2)))
}

func TestHowManyMarks(t *testing.T) {
	for n := range 40 {
		for _, m := range []string{`"a"`, `""`, `","`, `" "`, `"tenbytes-x"`} {
			for _, comma := range []string{",", ", ", " ,", "\t,\t", "   ,   "} {
				l := slices.Repeat([]string{m}, n)
				s := strings.Join(l, comma)
				if n >= 1 && n <= mostTags {
					wantTags(t, s, l...)
				} else {
					wantNoTags(t, s)
				}
				wantNamed(t, s, m, n >= 1 && n <= mostTags)
				wantNoTags(t, s+comma)
				wantNoTags(t, comma+s)
			}
		}
	}
}

func TestEachByteWithinAMark(t *testing.T) {
	for c := range 256 {
		one := string([]byte{byte(c)})
		for _, inner := range []string{one, one + "a", "a" + one, "a" + one + "b", one + one, strings.Repeat("a", mostTag-1) + one, one + strings.Repeat("a", mostTag-1)} {
			m := quoted(inner)
			for s, want := range map[string][]string{m: {m}, "\t" + m + " ": {m}, m + `,"x"`: {m, `"x"`}, `"x" ,` + m: {`"x"`, m}} {
				if c >= 32 && c <= 126 && c != '"' {
					wantTags(t, s, want...)
				} else {
					wantNoTags(t, s)
				}
			}
		}
	}
}

func TestEachByteBesideMarks(t *testing.T) {
	for c := range 256 {
		one := string([]byte{byte(c)})
		blank := c == 32 || c == 9
		for _, s := range []string{one + `"a","b"`, `"a"` + one + `,"b"`, `"a",` + one + `"b"`, `"a","b"` + one, " " + one + ` "a","b"`, `"a", ` + one + ` "b"`, `"a","b" ` + one + " ", one + one + `"a"` + one + "," + one + one + `"b"` + one} {
			if blank {
				wantTags(t, s, `"a"`, `"b"`)
			} else {
				wantNoTags(t, s)
			}
		}
		if between := `"a"` + one + `"b"`; c == ',' {
			wantTags(t, between, `"a"`, `"b"`)
		} else {
			wantNoTags(t, between)
		}
		if c == '*' {
			wantTags(t, one, one)
		} else {
			wantNoTags(t, one)
		}
	}
}

func TestManyBlanksBesideMarks(t *testing.T) {
	for _, n := range []int{0, 1, 2, 3, 9, 60, 1000, 100000} {
		for _, blank := range []string{" ", "\t", " \t", "\t "} {
			b := strings.Repeat(blank, n)
			wantTags(t, b+`" a"`+b+","+b+`"b "`+b, `" a"`, `"b "`)
			wantNoTags(t, b)
			wantNoTags(t, b+`"a"`+b+","+b)
			wantNoTags(t, b+","+b+`"a"`)
			wantNoTags(t, `"a`+b)
			if n > 0 {
				wantNoTags(t, `"a"`+b+`"b"`)
			}
		}
	}
}

func TestMatchAndNone(t *testing.T) {
	for _, x := range []struct {
		s    string
		tag  string
		want bool
	}{
		{"*", `"v1"`, true}, {"*", "v1", true}, {"*", "", true}, {"*", "*", true}, {"*", `"*"`, true}, {"*", "\xff", true}, {"*", strings.Repeat("a", 99), true},
		{" *", `"v1"`, false}, {"* ", `"v1"`, false}, {" * ", `"v1"`, false}, {"\t*\t", `"v1"`, false}, {" * ", "*", false}, {" * ", " * ", false}, {" * ", "", false},
		{`"v1"`, `"v1"`, true}, {`"v2"`, `"v1"`, false}, {` "v1" `, `"v1"`, true}, {"\t\"v1\"\t", `"v1"`, true},
		{`"v2", "v1"`, `"v1"`, true}, {`"v2", "v1"`, `"v2"`, true}, {`"v2", "v1"`, `"v3"`, false}, {`"a","b","c","d","e"`, `"e"`, true}, {`"a","b","c","d","e"`, `"a"`, true}, {`"a","b","c","d","e"`, `"f"`, false},
		{`"a","b","c","d","e","f"`, `"f"`, false}, {`"a","b","c","d","e","f"`, `"a"`, false}, {`"a","a"`, `"a"`, true},
		// A part of a mark, or what it is a part of, is not it.
		{`"v12"`, `"v1"`, false}, {`"v1"`, `"v12"`, false}, {`"xv1"`, `"v1"`, false}, {`"v1 "`, `"v1"`, false}, {`" v1"`, `"v1"`, false}, {`"v1"`, `"v1 "`, false}, {`"v1"`, ` "v1"`, false}, {`"v1"`, `"v1" `, false},
		{`"v1,v2"`, `"v1"`, false}, {`"v1,v2"`, `"v2"`, false}, {`"v1,v2"`, `"v1,v2"`, true}, {`"v1","v2"`, `"v1,v2"`, false}, {`"v1","v2"`, `"v1","v2"`, false}, {`"v1","v2"`, `","`, false}, {`"a",","`, `","`, true},
		{`"V1"`, `"v1"`, false}, {`"v1"`, `"V1"`, false}, {`"v01"`, `"v1"`, false}, {`"v1"`, `"v01"`, false},
		// Its ends belong to it.
		{`"v1"`, "v1", false}, {`"v1"`, `"v1`, false}, {`"v1"`, `v1"`, false}, {"v1", "v1", false}, {"v1", `"v1"`, false}, {`"v1"`, `""v1""`, false}, {`""v1""`, `"v1"`, false}, {`""v1""`, `""v1""`, false},
		{`""`, "", false}, {`""`, `""`, true}, {`"a"`, "", false}, {`"a"`, `""`, false}, {"", "", false}, {" ", "", false}, {"", `""`, false}, {`"a",`, "", false}, {"x", "", false}, {`"a",""`, `""`, true}, {`"a",""`, "", false},
		// So do they to one that is like the text of all.
		{`"*"`, "*", false}, {`"*"`, `"*"`, true}, {`"a"`, "*", false}, {`"a"`, `"*"`, false}, {`"*"`, `"a"`, false}, {`"*"`, "", false}, {`"*","a"`, `"a"`, true}, {`"*","a"`, `"b"`, false}, {`*,"a"`, `"a"`, false}, {`"a",*`, `"a"`, false}, {"**", `"a"`, false}, {"**", "*", false},
		// Where there are no marks none is found, not even one ahead of the fault.
		{"x", `"v1"`, false}, {"x", "x", false}, {`"v1",`, `"v1"`, false}, {`"v1"x`, `"v1"`, false}, {`x"v1"`, `"v1"`, false}, {`"v1" "v2"`, `"v1"`, false}, {`"v1","v2`, `"v1"`, false}, {`W/"v1"`, `"v1"`, false}, {`"elevenbytes"`, `"elevenbytes"`, false}, {"\"\t\"", "\"\t\"", false}, {"\"\xff\"", "\"\xff\"", false}, {`"v1","elevenbytes"`, `"v1"`, false}, {"\"v1\"\n", `"v1"`, false},
	} {
		wantNamed(t, x.s, x.tag, x.want)
	}
}

// eachMark has marks that are near to each other: of one letter more, of other
// blanks, of a comma in the place of an end.
func eachMark() []string {
	l := []string{}
	for _, inner := range []string{
		"", " ", "  ", ",", ", ", " ,", ",,", "a", "A", "b", "ab", "ba", "a ", " a", "a,", ",a", "a,b", "a, b", "b,a", "*", "**", "a*", "'", "\\", "/", "W/",
		"v", "v0", "v1", "v01", "v1 ", "v2", "v10", "v11", "v12", "v123456789", "v123456780", "V1", "1", "0", "-1", "v-1", "tenbytes-x", "tenbytes-y", "ten", "~", "!",
	} {
		l = append(l, quoted(inner))
	}
	return l
}

func TestAMarkMatchesItselfAlone(t *testing.T) {
	marks := eachMark()
	for i, a := range marks {
		wantTags(t, a, a)
		for j, b := range marks {
			wantNamed(t, a, b, i == j)
			wantNamed(t, " "+a+"\t", b, i == j)
			for k, c := range marks {
				wantNamed(t, a+", "+b, c, i == k || j == k)
			}
		}
	}
	for n := 1; n <= mostTags; n++ {
		for from := 0; from+n <= len(marks); from++ {
			s := strings.Join(marks[from:from+n], ",")
			wantTags(t, s, marks[from:from+n]...)
			for k, c := range marks {
				wantNamed(t, s, c, k >= from && k < from+n)
			}
		}
	}
}

// The form of marks as a pattern: a reading that the program's is held
// against.
var (
	tagForm  = regexp.MustCompile(`"[ !#-~]{0,10}"`)
	tagsForm = regexp.MustCompile(`\A[ \t]*"[ !#-~]{0,10}"(?:[ \t]*,[ \t]*"[ !#-~]{0,10}"){0,4}[ \t]*\z`)
)

func tagsByForm(s string) ([]string, bool) {
	if s == "*" {
		return []string{s}, true
	}
	if !tagsForm.MatchString(s) {
		return nil, false
	}
	return tagForm.FindAllString(s, -1), true
}

// wantTagsAsByForm tells whether there are marks.
func wantTagsAsByForm(t *testing.T, s string) bool {
	t.Helper()
	l, ok := tagsByForm(s)
	if ok {
		wantTags(t, s, l...)
	} else {
		wantNoTags(t, s)
	}
	for _, tag := range []string{`"a"`, `","`, `""`, "*", ""} {
		wantNamed(t, s, tag, s == "*" || slices.Contains(l, tag))
	}
	return ok
}

func TestMarksOfAllShortTexts(t *testing.T) {
	const letters = "\"a, *\t\n"
	seen := map[bool]int{}
	texts := []string{""}
	for range 7 {
		longer := []string{}
		for _, s := range texts {
			seen[wantTagsAsByForm(t, s)]++
			for i := range len(letters) {
				if c := letters[i : i+1]; len(s) < 5 || c == "\"" || c == "," || c == "a" {
					longer = append(longer, s+c)
				}
			}
		}
		texts = longer
	}
	if seen[false] < 100 || seen[true] < 100 {
		t.Errorf("of %d there are marks, of %d there are none", seen[true], seen[false])
	}
}

func TestMarksOfWhateverIsTurned(t *testing.T) {
	seen := map[bool]int{}
	for _, s := range []string{
		"*", `"v12"`, ` "a" , "b,c" `, `"","tenbytes-x","` + ` ","*",","`, "\t\"a b\"\t,\t\"tenbytes-x\"\t", `"1","2","3","4","5"`,
	} {
		for i := range len(s) {
			turned := []string{s[:i], s[i:], s[:i] + s[i+1:], s[:i] + s[i:i+1] + s[i:]}
			for c := range 256 {
				one := string([]byte{byte(c)})
				turned = append(turned, s[:i]+one+s[i+1:], s[:i]+one+s[i:], s+one)
			}
			for k := i; k <= len(s); k++ {
				turned = append(turned, s[i:k], s[:i]+s[k:])
			}
			for _, s := range turned {
				seen[wantTagsAsByForm(t, s)]++
			}
		}
	}
	if seen[false] == 0 || seen[true] == 0 {
		t.Errorf("of %d there are marks, of %d there are none", seen[true], seen[false])
	}
}

func TestMarksOfDrawnWords(t *testing.T) {
	draw := rand.New(rand.NewPCG(9, 1))
	words := []string{"\"", ",", " ", "\t", "a", "*", "\n", "\xff", "\"a\"", "\"\"", "\",\"", "\" \"", "\"tenbytes-x\"", ", ", " ,", "tenbytes-x", "\"a\",", ",\"b\"", "\"1\",\"2\",", "\"1\",\"2\",\"3\""}
	seen := map[bool]int{}
	for range 100000 {
		s := ""
		for range 1 + draw.IntN(8) {
			s += words[draw.IntN(len(words))]
		}
		seen[wantTagsAsByForm(t, s)]++
	}
	if seen[false] < 1000 || seen[true] < 1000 {
		t.Errorf("of %d there are marks, of %d there are none", seen[true], seen[false])
	}
}

func TestDrawnMarksComeBack(t *testing.T) {
	draw := rand.New(rand.NewPCG(9, 2))
	blanks := func() string {
		b := make([]byte, draw.IntN(4))
		for i := range b {
			b[i] = " \t"[draw.IntN(2)]
		}
		return string(b)
	}
	for range 20000 {
		l := []string{}
		s := blanks()
		for i := range 1 + draw.IntN(mostTags) {
			if i > 0 {
				s += "," + blanks()
			}
			m := quoted(strings.ReplaceAll(drawPlain(draw, 0, mostTag), "\"", ","))
			l = append(l, m)
			s += m + blanks()
		}
		wantTags(t, s, l...)
		for _, m := range l {
			wantNamed(t, s, m, true)
			wantNamed(t, s, m[1:len(m)-1], false)
		}
	}
}

func TestTagsAreNewMemory(t *testing.T) {
	for _, made := range []string{"*", `"a"`, `"a","b","c"`, `"tenbytes-x" , "tenbytes-y"`, `"1","2","3","4","5"`} {
		s := strings.Clone(made)
		l, ok := impl.ParseTags(s)
		if !ok {
			t.Fatalf("ParseTags(%q) is false", s)
		}
		again, _ := impl.ParseTags(s)
		for _, x := range l {
			if shareMemory(s, x) {
				t.Errorf("%q shares memory with the argument", x)
			}
		}
		for _, x := range l[len(l):cap(l)] {
			if x != "" {
				t.Errorf("%q is handed out behind the list", x)
			}
		}
		for i := range l[:cap(l)] {
			l[:cap(l)][i] = "spoilt"
		}
		if want, _ := tagsByForm(made); !slices.Equal(again, want) || s != made {
			t.Errorf("two answers share: %q", again)
		}
		wantTags(t, s, again...)
	}
}

func TestTagsThatAreRefusedLeaveNothingBehind(t *testing.T) {
	for _, bad := range []string{"", `"a`, `"a",`, `"a","b" "c"`, `"1","2","3","4","5","6"`, `"a","elevenbytes"`, "\"a\",\"\n\""} {
		wantNoTags(t, bad)
		wantTags(t, `"v2","v1"`, `"v2"`, `"v1"`)
		wantNamed(t, bad, `"a"`, false)
		wantNamed(t, `"v2","v1"`, `"v1"`, true)
	}
}

func TestAMarkStandsInAnArray(t *testing.T) {
	f, err := parser.ParseFile(token.NewFileSet(), "../impl/l09_tag.go", nil, parser.SkipObjectResolution)
	if err != nil {
		t.Fatal(err)
	}
	held := map[string]bool{}
	ast.Inspect(f, func(n ast.Node) bool {
		if x, ok := n.(*ast.TypeSpec); ok && hasArray(x) {
			held[x.Name.Name] = true
		}
		return true
	})
	used := 0
	for _, d := range f.Decls {
		if fn, ok := d.(*ast.FuncDecl); ok && fn.Recv == nil {
			for name := range names(fn) {
				if held[name] {
					used++
				}
			}
		}
	}
	if used == 0 {
		t.Error("no function of l09_tag.go has a mark that stands in an array")
	}
}

func hasArray(n ast.Node) bool {
	found := false
	ast.Inspect(n, func(n ast.Node) bool {
		if x, ok := n.(*ast.ArrayType); ok && x.Len != nil {
			found = true
		}
		return true
	})
	return found
}
