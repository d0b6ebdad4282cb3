package tests

import (
	"go/ast"
	"go/parser"
	"go/token"
	"math"
	"math/rand/v2"
	"slices"
	"strings"
	"testing"

	"loop.example/g00452/impl"
)

const (
	mostRes     = 12
	mostProps   = 4
	mostVer     = 99999
	mostPropVal = 20
)

// path is of names with a `/` between, of none where there is no text.
func path(text string) []string {
	if text == "" {
		return nil
	}
	return strings.Split(text, "/")
}

func shelf(at string) impl.Res { return impl.Res{Path: path(at), Coll: true} }

func file(at string) impl.Res { return impl.Res{Path: path(at)} }

// someTree has names that begin alike, things on shelves of each depth, and a
// shelf with nothing on it.
func someTree() []impl.Res {
	return []impl.Res{
		{Path: path("a"), Coll: true, Ver: 1, Props: []impl.Prop{{Name: "p", Val: "1"}}},
		{Path: path("a/b"), Body: "x", Ver: 2, Props: []impl.Prop{{Name: "p"}, {Name: "q", Val: "2"}, {Ns: "u", Name: "p", Val: "3"}}},
		{Path: path("a/c"), Coll: true, Ver: 3},
		{Path: path("a/c/d"), Coll: true, Ver: 4},
		{Path: path("a/c/d/e"), Body: "yy", Ver: 5, Props: []impl.Prop{{Ns: "u", Name: "r"}}},
		{Path: path("a/cd"), Body: "zzz", Ver: mostVer},
		{Path: path("a-"), Body: "w", Ver: 0},
		{Path: path("ab"), Coll: true, Ver: 6},
		{Path: path("ab/b"), Body: "", Ver: 7},
		{Path: path("b"), Coll: true, Ver: 8},
	}
}

// keyOf tells names that have no byte 0: the keys of two paths are alike, begin
// each other and are ordered as the paths are.
func keyOf(p []string) string {
	key := ""
	for _, name := range p {
		key += name + "\x00"
	}
	return key
}

func sameResByParts(a impl.Res, b impl.Res) bool {
	return slices.Equal(a.Path, b.Path) && a.Coll == b.Coll && a.Body == b.Body && a.Ver == b.Ver && slices.Equal(a.Props, b.Props)
}

func sameTreeByParts(a []impl.Res, b []impl.Res) bool { return slices.EqualFunc(a, b, sameResByParts) }

func deepTree(t []impl.Res) []impl.Res {
	l := []impl.Res{}
	for _, r := range t {
		r.Path = slices.Clone(r.Path)
		r.Props = slices.Clone(r.Props)
		for i, name := range r.Path {
			r.Path[i] = strings.Clone(name)
		}
		for i, p := range r.Props {
			r.Props[i] = impl.Prop{Ns: strings.Clone(p.Ns), Name: strings.Clone(p.Name), Val: strings.Clone(p.Val)}
		}
		r.Body = strings.Clone(r.Body)
		l = append(l, r)
	}
	return l
}

func wantTree(t *testing.T, l ...impl.Res) {
	t.Helper()
	if !impl.TreeOk(l) {
		t.Errorf("TreeOk(%+v) is false", l)
	}
}

func wantNoTree(t *testing.T, l ...impl.Res) {
	t.Helper()
	if impl.TreeOk(l) {
		t.Errorf("TreeOk(%+v) is true", l)
	}
}

func wantProps(t *testing.T, want bool, l ...impl.Prop) {
	t.Helper()
	if impl.PropsOk(l) != want {
		t.Errorf("PropsOk(%+v) is not %v", l, want)
	}
	r := file("a")
	r.Props = l
	if impl.TreeOk([]impl.Res{r}) != want {
		t.Errorf("TreeOk of a thing of %+v is not %v", l, want)
	}
	r.Coll = true
	if impl.TreeOk([]impl.Res{r, file("a/b")}) != want {
		t.Errorf("TreeOk of a shelf of %+v is not %v", l, want)
	}
}

func TestLimitsOfShelves(t *testing.T) {
	if impl.MaxRes != mostRes || impl.MaxProps != mostProps || impl.MaxVer != mostVer {
		t.Error("the limits are not those of the document")
	}
}

func TestLessPath(t *testing.T) {
	// Each is less than all behind it.
	l := [][]string{
		nil, {""}, {"", ""}, {"", "a"}, {"\x01"}, {" "}, {"-"}, {"."}, {".."}, {"/"}, {"/", "a"}, {"/a"}, {"0"}, {"10"}, {"9"}, {"A"}, {"Z", "z"},
		{"a"}, {"a", ""}, {"a", " "}, {"a", "a"}, {"a", "a", "a"}, {"a", "a", "a", "a"}, {"a", "a", "a", "a", "a"}, {"a", "ab"}, {"a", "b"}, {"a", "b", "a"}, {"a", "z"}, {"a", "z", "z"}, {"a", "\xff"},
		{"a "}, {"a!", "a"}, {"a-"}, {"a-", "b"}, {"a/"}, {"a/b"}, {"a0"}, {"aa"}, {"ab"}, {"ab", "a"}, {"abcdefghijkl"}, {"b"}, {"b", "a"}, {"ba"}, {"z"}, {"~"}, {"\x7f"}, {"\x80"}, {"\u00e9"}, {"\u20ac"}, {"\xff"}, {"\xff", "\xff"}, {"\xff\xff"},
	}
	for i, a := range l {
		for j, b := range l {
			if impl.LessPath(a, b) != (i < j) {
				t.Errorf("LessPath(%q, %q) is not %v", a, b, i < j)
			}
		}
	}
	if impl.LessPath(nil, []string{}) || impl.LessPath([]string{}, nil) {
		t.Error("no names are less than no names")
	}
}

func TestLessPathLooksAtItsLengthAlone(t *testing.T) {
	room := []string{"a", "b", "c"}
	if !impl.LessPath(room[:1], room[:2]) || impl.LessPath(room[:2], room[:1]) || impl.LessPath(room[:1], []string{"a"}) || impl.LessPath([]string{"a"}, room[:1]) {
		t.Error("what lies behind the length is read")
	}
}

func TestLessPathOfEachByte(t *testing.T) {
	for a := range 256 {
		for b := range 256 {
			x, y := string([]byte{byte(a)}), string([]byte{byte(b)})
			// What stands behind counts only where all ahead of it is the same.
			for _, pair := range [][2][]string{{{x}, {y}}, {{"n" + x}, {"n" + y}}, {{"n", x}, {"n", y}}, {{x, "z"}, {y, "a"}}, {{x + "z"}, {y + "a"}}} {
				if impl.LessPath(pair[0], pair[1]) != (a < b) {
					t.Fatalf("LessPath(%q, %q) is not %v", pair[0], pair[1], a < b)
				}
			}
		}
	}
}

func TestPropsThatAreRight(t *testing.T) {
	wantProps(t, true)
	wantProps(t, true, []impl.Prop{}...)
	long := strings.Repeat("~", mostPropVal)
	for _, l := range [][]impl.Prop{
		{{Name: "a"}},
		{{Ns: "u", Name: "a", Val: "1"}},
		{{Ns: long, Name: "twenty-letters-long0", Val: long}},
		{{Ns: " ", Name: "a", Val: " "}},
		{{Ns: "<&>\"'", Name: "z9-", Val: "<&>\"'"}},
		{{Name: "a"}, {Name: "b"}},
		{{Name: "a"}, {Name: "ab"}},
		{{Name: "a"}, {Name: "a-"}, {Name: "a0"}, {Name: "aa"}},
		{{Name: "b"}, {Ns: "u", Name: "a"}},
		{{Name: "z", Val: "9"}, {Ns: "u", Name: "a", Val: "1"}},
		{{Name: "a"}, {Ns: "u", Name: "a"}, {Ns: "ua", Name: "a"}, {Ns: "v", Name: "a"}},
		{{Ns: "u", Name: "b"}, {Ns: "ub", Name: "a"}},
		{{Ns: "DAV:", Name: "a"}, {Ns: "dav:", Name: "a"}},
		{{Ns: "u", Name: "a", Val: "2"}, {Ns: "u", Name: "b", Val: "1"}},
		{{Name: "a"}, {Name: "b"}, {Name: "c"}, {Name: "d"}},
	} {
		wantProps(t, true, l...)
	}
}

func TestPropsThatAreWrong(t *testing.T) {
	long := strings.Repeat("~", mostPropVal+1)
	for _, l := range [][]impl.Prop{
		{{}}, {{Ns: "u", Val: "1"}}, {{Name: "A"}}, {{Name: "1"}}, {{Name: "-"}}, {{Name: "a_b"}}, {{Name: "a b"}}, {{Name: "a\u00e9"}}, {{Name: "twenty-one-letters-00"}},
		{{Ns: long, Name: "a"}}, {{Name: "a", Val: long}}, {{Ns: "\t", Name: "a"}}, {{Name: "a", Val: "\n"}}, {{Ns: "\u00e9", Name: "a"}}, {{Name: "a", Val: "\xff"}}, {{Ns: "\x7f", Name: "a"}}, {{Name: "a", Val: "\x00"}},
		{{Name: "a"}, {Name: "a"}},
		{{Name: "a", Val: "1"}, {Name: "a", Val: "2"}},
		{{Ns: "u", Name: "a", Val: "2"}, {Ns: "u", Name: "a", Val: "1"}},
		{{Ns: "u", Name: "a"}, {Ns: "u", Name: "a"}},
		{{Name: "b"}, {Name: "a"}},
		{{Name: "ab"}, {Name: "a"}},
		{{Ns: "u", Name: "a"}, {Name: "b"}},
		{{Ns: "u", Name: "a"}, {Name: "a"}},
		{{Ns: "v", Name: "a"}, {Ns: "u", Name: "b"}},
		{{Ns: "ua", Name: "a"}, {Ns: "u", Name: "b"}},
		{{Name: "b", Val: "1"}, {Name: "a", Val: "2"}},
		{{Name: "a"}, {Name: "c"}, {Name: "b"}},
		{{Name: "a"}, {Name: "b"}, {Name: "c"}, {Name: "c"}},
		{{Name: "a"}, {Name: "b"}, {Name: "a"}},
		{{Name: "a"}, {Name: "b"}, {Name: "c"}, {Name: "d"}, {Name: "e"}},
		{{Name: "a"}, {Name: "b"}, {Name: "c"}, {Ns: "u", Name: "d"}, {Ns: "v", Name: "e"}},
		{{Name: "a"}, {Name: "b"}, {Name: "c"}, {Name: "d", Val: long}},
		{{Name: "a"}, {Name: "B"}},
	} {
		wantProps(t, false, l...)
	}
}

func TestPropsOfEachByteAndLength(t *testing.T) {
	for c := range 256 {
		one := string([]byte{byte(c)})
		plain := c >= 32 && c <= 126
		for _, s := range []string{one, "a" + one, one + "a", strings.Repeat("a", mostPropVal-1) + one} {
			wantProps(t, plain, impl.Prop{Ns: s, Name: "a"})
			wantProps(t, plain, impl.Prop{Name: "a", Val: s})
			wantProps(t, impl.SmallName(s), impl.Prop{Name: s})
			wantProps(t, plain, impl.Prop{Name: "a"}, impl.Prop{Name: "b", Val: s}, impl.Prop{Ns: "~", Name: "a"})
		}
	}
	for n := range 50 {
		s := strings.Repeat("a", n)
		wantProps(t, n <= mostPropVal, impl.Prop{Ns: s, Name: "a"})
		wantProps(t, n <= mostPropVal, impl.Prop{Name: "a", Val: s})
		wantProps(t, n >= 1 && n <= 20, impl.Prop{Name: s})
		wide := []impl.Prop{}
		for i := range n {
			wide = append(wide, impl.Prop{Name: "a" + impl.NumText(100+i)})
		}
		wantProps(t, n <= mostProps, wide...)
	}
}

func TestPropsOkLooksAtItsLengthAlone(t *testing.T) {
	room := []impl.Prop{{Name: "b"}, {Name: "a"}, {}, {Name: "c"}, {Name: "d"}}
	wantProps(t, true, room[:1]...)
	wantProps(t, false, room[:2]...)
}

func TestTreesThatAreRight(t *testing.T) {
	wantTree(t)
	wantTree(t, []impl.Res{}...)
	wantTree(t, someTree()...)
	body := strings.Repeat("x", impl.MaxBody)
	for _, l := range [][]impl.Res{
		{file("a")}, {shelf("a")}, {file("a"), file("b")}, {shelf("a"), shelf("b")}, {file("a"), shelf("b"), file("c")},
		{shelf("a"), file("a/b")}, {shelf("a"), shelf("a/b")}, {shelf("a"), file("a/b"), file("b")}, {shelf("a"), file("b")},
		{shelf("a"), shelf("a/a"), shelf("a/a/a"), file("a/a/a/a")}, {shelf("a"), shelf("a/b"), shelf("a/b/c"), shelf("a/b/c/d")},
		// What stands on a shelf stands ahead of what only begins alike.
		{shelf("a"), file("a/b"), file("ab")}, {shelf("a"), file("a/z"), file("a "), file("a-"), file("aa")}, {shelf("a"), shelf("a/b"), file("a/b/z"), file("a/b-"), file("a-")},
		{shelf("a"), file("a/x"), shelf("ab"), file("ab/x")}, {file("a"), shelf("ab"), file("ab/c")},
		{shelf(" "), file(" / ")}, {shelf("~~~~~~~~"), file("~~~~~~~~/eightby8")}, {file("...")}, {file("A"), file("a")}, {file("10"), file("9")},
		{{Path: path("a"), Body: body}}, {{Path: path("a"), Body: everyByte()[:impl.MaxBody]}}, {{Path: path("a"), Body: everyByte()[256-impl.MaxBody:]}}, {{Path: path("a"), Body: "\x00"}}, {{Path: path("a"), Body: "\r\n"}},
		{{Path: path("a"), Ver: 0}}, {{Path: path("a"), Ver: 1}}, {{Path: path("a"), Ver: mostVer}}, {{Path: path("a"), Coll: true, Ver: mostVer}},
		{{Path: path("a"), Ver: 2}, {Path: path("b"), Ver: 2}}, {{Path: path("a"), Ver: 2}, {Path: path("b"), Ver: 1}},
		{{Path: path("a"), Coll: true, Props: []impl.Prop{{Name: "a"}}}}, {{Path: path("a"), Props: []impl.Prop{}}},
	} {
		wantTree(t, l...)
	}
}

func TestTreesThatAreWrong(t *testing.T) {
	body := strings.Repeat("x", impl.MaxBody+1)
	for _, l := range [][]impl.Res{
		// In no order, or two of one path.
		{file("b"), file("a")}, {file("a"), file("a")}, {shelf("a"), shelf("a")}, {file("a"), shelf("a")}, {shelf("a"), file("a")}, {shelf("a"), file("a/b"), file("a/b")}, {shelf("a"), file("a/b"), shelf("a")},
		{shelf("a"), file("a/c"), file("a/b")}, {shelf("a"), file("ab"), file("a/b")}, {shelf("a"), file("a-"), file("a/b")}, {file("a"), file("c"), file("b")}, {file("9"), file("10")}, {file("a"), file("A")},
		{{Path: path("a"), Ver: 1}, {Path: path("a"), Ver: 2}}, {{Path: path("a"), Body: "x"}, {Path: path("a"), Body: "y"}},
		// The root is not told.
		{{}}, {shelf("")}, {file("")}, {shelf(""), file("a")}, {file("a"), shelf("")}, {{Path: []string{}, Coll: true}},
		// No paths.
		{{Path: []string{""}}}, {{Path: []string{"."}}}, {{Path: []string{".."}}}, {{Path: []string{"a/b"}}}, {{Path: []string{"\n"}}}, {{Path: []string{"\xff"}}}, {{Path: []string{"ninebytes"}}},
		{shelf("a"), {Path: []string{"a", ""}}}, {shelf("a"), {Path: []string{"a", ".."}}}, {shelf("."), file("./a")}, {{Path: []string{""}, Coll: true}, {Path: []string{"", "a"}}}, {{Path: []string{"a/b"}, Coll: true}, {Path: []string{"a/b", "c"}}},
		{shelf("a"), shelf("a/a"), shelf("a/a/a"), shelf("a/a/a/a"), file("a/a/a/a/a")},
		// On what is not there, or is no shelf, or comes behind.
		{file("a/b")}, {shelf("a/b")}, {shelf("a"), file("a/b/c")}, {shelf("a"), file("b/c")}, {shelf("b"), file("c/b")}, {file("a/b"), shelf("b")}, {file("a"), file("a/b")}, {shelf("a"), file("a/b"), file("a/b/c")}, {file("a"), shelf("a/b"), file("a/b/c")},
		{file("a/b"), shelf("a")}, {shelf("a"), file("a/b/c"), shelf("a/b")}, {shelf("a/b"), file("a/b/c")}, {shelf("a"), shelf("a/b/c"), file("a/b/c/d")}, {shelf("a"), shelf("a/b"), file("a/b/c/d")},
		{shelf("b"), file("b/c"), file("c/c")}, {shelf("b"), file("b/b"), file("b/b/b")}, {shelf("a"), shelf("a/a"), file("b"), file("b/a")},
		// On what only begins alike.
		{shelf("a"), file("ab/c")}, {shelf("ab"), file("a/c")}, {file("a/c"), shelf("ab")}, {file("a/c"), shelf("a-")}, {shelf("a"), shelf("a/b"), file("a/bc/d")}, {shelf("a"), file("a/b/c"), shelf("a/bc")}, {shelf("A"), file("a/b")}, {shelf("a"), file("a /b")}, {shelf("a%2Fb"), file("a/b")}, {shelf("a"), shelf("a%2Fb"), file("a/b/c")},
		// Bodies.
		{{Path: path("a"), Coll: true, Body: "x"}}, {{Path: path("a"), Coll: true, Body: "\x00"}}, {shelf("a"), {Path: path("a/b"), Coll: true, Body: "x"}}, {{Path: path("a"), Body: body}}, {{Path: path("a"), Body: strings.Repeat("\xff", impl.MaxBody+1)}}, {{Path: path("a"), Coll: true, Body: body}}, {{Path: path("a"), Body: strings.Repeat("\u00e9", impl.MaxBody/2+1)}},
		// Versions.
		{{Path: path("a"), Ver: -1}}, {{Path: path("a"), Ver: mostVer + 1}}, {{Path: path("a"), Coll: true, Ver: -1}}, {{Path: path("a"), Coll: true, Ver: mostVer + 1}}, {{Path: path("a"), Ver: math.MinInt}}, {{Path: path("a"), Ver: math.MaxInt}}, {file("a"), {Path: path("b"), Ver: -1}},
		// What is known of it.
		{{Path: path("a"), Props: make([]impl.Prop, 1)}}, {{Path: path("a"), Props: []impl.Prop{{Name: "b"}, {Name: "a"}}}}, {file("a"), {Path: path("b"), Coll: true, Props: []impl.Prop{{Name: "a"}, {Name: "a"}}}},
	} {
		wantNoTree(t, l...)
	}
}

func TestEachFaultAtEachPlaceOfATree(t *testing.T) {
	for name, turn := range map[string]func(r *impl.Res){
		"no path":     func(r *impl.Res) { r.Path = nil },
		"no name":     func(r *impl.Res) { r.Path[len(r.Path)-1] = ".." },
		"empty name":  func(r *impl.Res) { r.Path[0] = "" },
		"wrong body":  func(r *impl.Res) { r.Body = strings.Repeat("x", impl.MaxBody+1) },
		"full shelf":  func(r *impl.Res) { r.Coll, r.Body = true, "x" },
		"low ver":     func(r *impl.Res) { r.Ver = -1 },
		"high ver":    func(r *impl.Res) { r.Ver = mostVer + 1 },
		"wrong props": func(r *impl.Res) { r.Props = make([]impl.Prop, 1) },
		"same props":  func(r *impl.Res) { r.Props = []impl.Prop{{Name: "a", Val: "1"}, {Name: "a", Val: "2"}} },
		"many props": func(r *impl.Res) {
			r.Props = []impl.Prop{{Name: "a"}, {Name: "b"}, {Name: "c"}, {Name: "d"}, {Name: "e"}}
		},
	} {
		for i := range someTree() {
			l := deepTree(someTree())
			turn(&l[i])
			if impl.TreeOk(l) {
				t.Errorf("%s at %d: TreeOk is true", name, i)
			}
		}
	}
}

func TestHowManyThingsThereAre(t *testing.T) {
	for n := range 3 * mostRes {
		for _, coll := range []bool{false, true} {
			flat, one, deep := []impl.Res{}, []impl.Res{}, []impl.Res{}
			for i := range n {
				flat = append(flat, impl.Res{Path: []string{impl.NumText(100 + i)}, Coll: coll})
				if i == 0 {
					one = append(one, shelf("a"))
				} else {
					one = append(one, impl.Res{Path: []string{"a", impl.NumText(100 + i)}, Coll: coll})
				}
				if i%2 == 0 {
					deep = append(deep, shelf(impl.NumText(100+i)))
				} else {
					deep = append(deep, impl.Res{Path: []string{impl.NumText(100 + i - 1), "a"}, Coll: coll})
				}
			}
			for _, l := range [][]impl.Res{flat, one, deep} {
				if impl.TreeOk(l) != (n <= mostRes) {
					t.Errorf("TreeOk of %d things is not %v", n, n <= mostRes)
				}
			}
		}
	}
}

func TestLengthsInTrees(t *testing.T) {
	for n := range 2 * impl.MaxBody {
		r := impl.Res{Path: path("a"), Body: strings.Repeat("\xff", n)}
		if impl.TreeOk([]impl.Res{r}) != (n <= impl.MaxBody) {
			t.Errorf("TreeOk of a body of %d bytes is not %v", n, n <= impl.MaxBody)
		}
		r.Coll = true
		if impl.TreeOk([]impl.Res{r}) != (n == 0) {
			t.Errorf("TreeOk of a shelf with a body of %d bytes is not %v", n, n == 0)
		}
	}
	for n := range 3 * impl.MaxNames {
		l := []impl.Res{}
		for i := range n {
			l = append(l, impl.Res{Path: slices.Repeat([]string{"a"}, i+1), Coll: true})
		}
		if impl.TreeOk(l) != (n <= impl.MaxNames) {
			t.Errorf("TreeOk of shelves %d deep is not %v", n, n <= impl.MaxNames)
		}
	}
	for n := range 20 {
		name := strings.Repeat("a", n)
		for _, l := range [][]impl.Res{{{Path: []string{name}}}, {shelf("b"), {Path: []string{"b", name}}}, {{Path: []string{name}, Coll: true}, {Path: []string{name, "b"}}}} {
			if impl.TreeOk(l) != (n >= 1 && n <= impl.MaxName) {
				t.Errorf("TreeOk(%+v) is not %v", l, n >= 1 && n <= impl.MaxName)
			}
		}
	}
	for c := range 256 {
		name := "n" + string([]byte{byte(c)})
		want := c >= 32 && c <= 126 && c != '/'
		if l := []impl.Res{{Path: []string{name}, Coll: true}, {Path: []string{name, name}}}; impl.TreeOk(l) != want {
			t.Errorf("TreeOk(%+v) is not %v", l, want)
		}
	}
}

func TestATreeOfWhichOneIsGone(t *testing.T) {
	for i, gone := range someTree() {
		l := slices.Delete(someTree(), i, i+1)
		held := slices.ContainsFunc(l, func(r impl.Res) bool {
			return len(r.Path) > len(gone.Path) && strings.HasPrefix(keyOf(r.Path), keyOf(gone.Path))
		})
		if impl.TreeOk(l) == held {
			t.Errorf("without %q: TreeOk is not %v", gone.Path, !held)
		}
		l = someTree()
		l[i].Coll, l[i].Body = false, "a text"
		if impl.TreeOk(l) == held {
			t.Errorf("with a text at %q: TreeOk is not %v", gone.Path, !held)
		}
	}
	for n := range someTree() {
		wantTree(t, someTree()[:n]...)
	}
}

func TestTreesWhoseThingsChangePlaces(t *testing.T) {
	for i := range someTree() {
		for j := range i {
			l := someTree()
			l[i], l[j] = l[j], l[i]
			wantNoTree(t, l...)
			l = someTree()
			wantNoTree(t, slices.Insert(l, i, l[j])...)
			l = someTree()
			l[i].Path = l[j].Path
			wantNoTree(t, l...)
		}
	}
}

func TestTreesLookAtTheirLengthAlone(t *testing.T) {
	room := []impl.Res{file("a"), shelf("b"), file("b/c"), file("a"), {}}
	wantTree(t, room[:3]...)
	if impl.FindRes(room[:1], path("b")) != -1 || impl.IsColl(room[:1], path("b")) || len(impl.KidsOf(room[:2], path("b"))) != 0 || len(impl.DeepOf(room[:1], nil)) != 1 || len(impl.KidsOf(room[:1], nil)) != 1 {
		t.Error("what lies behind the length is read")
	}
	names := []string{"a", "b", "c"}
	l := []impl.Res{{Path: names[:1], Coll: true}, {Path: names[:2], Coll: true}}
	wantTree(t, l...)
	if impl.FindRes(l, names[:2]) != 1 || impl.FindRes(l, names) != -1 || len(impl.KidsOf(l, names[:1])) != 1 || len(impl.DeepOf(l, names[:2])) != 1 {
		t.Error("names behind a path's length are read")
	}
}

func wantFound(t *testing.T, l []impl.Res, p []string, want int) {
	t.Helper()
	if i := impl.FindRes(l, p); i != want {
		t.Errorf("FindRes(%+v, %q) is %d, not %d", l, p, i, want)
	}
}

func TestFindRes(t *testing.T) {
	l := someTree()
	for i, r := range l {
		wantFound(t, l, slices.Clone(r.Path), i)
		wantFound(t, l[:i], r.Path, -1)
		wantFound(t, l[i:], r.Path, 0)
		wantFound(t, l, append(slices.Clone(r.Path), "q"), -1)
		wantFound(t, l, append(slices.Clone(r.Path), ""), -1)
	}
	for _, p := range [][]string{
		nil, {}, {""}, {"c"}, {"A"}, {"a/b"}, {"a", "a"}, {"a", "B"}, {"a", "c", "e"}, {"a", "cde"}, {"b", "a"}, {"aab"}, {"a "}, {" a"}, {"c", "d"}, {"d"}, {"e"}, {"a", "b", "c"}, {"."}, {".."}, {"a", "."}, {"a", "c", ".."}, {"\xff"}, {"ninebytes"}, {"1", "2", "3", "4", "5"},
	} {
		wantFound(t, l, p, -1)
		wantFound(t, nil, p, -1)
	}
}

func TestFindResOfWhatIsNoTree(t *testing.T) {
	l := []impl.Res{file("z"), file("a/b"), shelf("a"), file("z"), {Path: []string{"a/b"}}, file("a/b"), {Path: []string{""}}, {Path: []string{"", ""}}, {Path: path("1/2/3/4/5")}, {Path: path("z"), Ver: -1}, {Path: []string{"\xff"}}}
	for at, p := range map[int][]string{0: {"z"}, 1: {"a", "b"}, 2: {"a"}, 4: {"a/b"}, 6: {""}, 7: {"", ""}, 8: {"1", "2", "3", "4", "5"}, 10: {"\xff"}} {
		wantFound(t, l, p, at)
	}
	for _, p := range [][]string{nil, {"b"}, {"", "", ""}, {"/"}, {"a", "/b"}, {"a", "b", ""}, {"", "a"}, {"\xfe"}, {"\ufffd"}} {
		wantFound(t, l, p, -1)
	}
	wantFound(t, append(l, shelf(""), shelf("")), nil, len(l))
	long := slices.Repeat([]impl.Res{file("a")}, 1000)
	wantFound(t, long, path("b"), -1)
	wantFound(t, append(long, file("b"), file("b")), path("b"), 1000)
}

func wantColl(t *testing.T, l []impl.Res, p []string, want bool) {
	t.Helper()
	if impl.IsColl(l, p) != want {
		t.Errorf("IsColl(%+v, %q) is not %v", l, p, want)
	}
}

func TestIsColl(t *testing.T) {
	l := someTree()
	for n := range l {
		wantColl(t, l[:n], nil, true)
		wantColl(t, l[:n], []string{}, true)
	}
	for i, r := range l {
		wantColl(t, l, slices.Clone(r.Path), r.Coll)
		wantColl(t, l[:i], r.Path, false)
		wantColl(t, nil, r.Path, false)
		wantColl(t, l, append(slices.Clone(r.Path), "q"), false)
	}
	for _, p := range [][]string{{""}, {"c"}, {"A"}, {"a/c"}, {"a", "a"}, {"a", "C"}, {"c", "d"}, {"d"}, {"a", ""}, {"."}, {".."}, {"/"}, {"a "}} {
		wantColl(t, l, p, false)
	}
}

func TestIsCollOfWhatIsNoTree(t *testing.T) {
	l := []impl.Res{file("z"), shelf("a/b"), shelf("a/b"), file("a"), shelf("a"), {Path: []string{"a/b"}, Coll: true, Body: "x", Ver: -1}, {Path: []string{""}, Coll: true}, shelf("y"), file("y")}
	for _, p := range [][]string{nil, {"a", "b"}, {"a/b"}, {""}, {"y"}} {
		wantColl(t, l, p, true)
	}
	for _, p := range [][]string{{"z"}, {"a"}, {"b"}, {"", ""}} {
		wantColl(t, l, p, false)
	}
	wantColl(t, []impl.Res{file("")}, nil, true)
	wantColl(t, []impl.Res{file(""), shelf("")}, nil, true)
}

func TestAbove(t *testing.T) {
	for _, p := range [][]string{nil, {}, {"a"}, {"a", "b"}, {"a", "b", "c"}, {"a", "b", "c", "d"}, {"a", "b", "c", "d", "e"}, {""}, {"", ""}, {".."}, {"a", ".."}, {"a/b"}, {"a", "b/c"}, {"\xff", "\x00"}, {"a", "a", "a"}} {
		want := []string{}
		for i := 0; i+1 < len(p); i++ {
			want = append(want, p[i])
		}
		if x := impl.Above(p); !slices.Equal(x, want) {
			t.Errorf("Above(%q) is %q, not %q", p, x, want)
		}
	}
	if x := impl.Above(slices.Repeat([]string{"a"}, 1000)); len(x) != 999 {
		t.Errorf("Above of 1000 names has %d", len(x))
	}
}

func TestAboveIsNewMemory(t *testing.T) {
	for n := range 6 {
		room := []string{"first", "second", "third", "fourth", "fifth", "sixth", "seventh"}
		for i, name := range room {
			room[i] = strings.Clone(name)
		}
		kept := slices.Clone(room)
		x, again := impl.Above(room[:n]), impl.Above(room[:n])
		for _, a := range room {
			for _, b := range x {
				if shareMemory(a, b) {
					t.Errorf("%q shares memory with the argument", b)
				}
			}
		}
		for _, name := range x[len(x):cap(x)] {
			if name != "" {
				t.Errorf("%q is handed out behind the list", name)
			}
		}
		x = append(x, "spoilt", "spoilt")
		for i := range x[:cap(x)] {
			x[:cap(x)][i] = "spoilt"
		}
		if !slices.Equal(room, kept) || !slices.Equal(again, kept[:max(n-1, 0)]) {
			t.Errorf("what is written into the answer turns %q or %q", room, again)
		}
		for i := range room {
			room[i] = "spoilt"
		}
		if !slices.Equal(again, kept[:max(n-1, 0)]) {
			t.Errorf("what is written into the argument turns %q", again)
		}
	}
}

// wantOn asks for KidsOf and DeepOf by the places of what they have.
func wantOn(t *testing.T, l []impl.Res, p []string, kids []int, deep []int) {
	t.Helper()
	k, d := impl.KidsOf(l, p), impl.DeepOf(l, p)
	wantKids, wantDeep := [][]string{}, []impl.Res{}
	for _, i := range kids {
		wantKids = append(wantKids, l[i].Path)
	}
	for _, i := range deep {
		wantDeep = append(wantDeep, l[i])
	}
	if !slices.EqualFunc(k, wantKids, slices.Equal) {
		t.Errorf("KidsOf(%+v, %q) is %q, not %q", l, p, k, wantKids)
	}
	if !sameTreeByParts(d, wantDeep) {
		t.Errorf("DeepOf(%+v, %q) is %+v, not %+v", l, p, d, wantDeep)
	}
}

func TestKidsAndDeep(t *testing.T) {
	l := someTree()
	wantOn(t, l, nil, []int{0, 6, 7, 9}, []int{0, 1, 2, 3, 4, 5, 6, 7, 8, 9})
	wantOn(t, l, []string{}, []int{0, 6, 7, 9}, []int{0, 1, 2, 3, 4, 5, 6, 7, 8, 9})
	wantOn(t, l, path("a"), []int{1, 2, 5}, []int{0, 1, 2, 3, 4, 5})
	wantOn(t, l, path("a/b"), nil, []int{1})
	wantOn(t, l, path("a/c"), []int{3}, []int{2, 3, 4})
	wantOn(t, l, path("a/c/d"), []int{4}, []int{3, 4})
	wantOn(t, l, path("a/c/d/e"), nil, []int{4})
	wantOn(t, l, path("a/cd"), nil, []int{5})
	wantOn(t, l, path("a-"), nil, []int{6})
	wantOn(t, l, path("ab"), []int{8}, []int{7, 8})
	wantOn(t, l, path("ab/b"), nil, []int{8})
	wantOn(t, l, path("b"), nil, []int{9})
	for _, p := range [][]string{{""}, {"c"}, {"A"}, {"a/c"}, {"a", "a"}, {"a", "C"}, {"a", "c", "e"}, {"c", "d"}, {"d"}, {"d", "e"}, {"a", ""}, {"."}, {".."}, {"/"}, {"a "}, {"a", "c", "d", "e", "f"}, {"a", "b", "c"}, {"ab", "c"}, {"abc"}, {"\xff"}, {"ninebytes"}} {
		wantOn(t, l, p, nil, nil)
		wantOn(t, nil, p, nil, nil)
	}
	wantOn(t, nil, nil, nil, nil)
}

func TestWhatOnlyBeginsAlikeIsNotOnAShelf(t *testing.T) {
	l := []impl.Res{shelf("a"), file("a/b"), file("ab")}
	wantOn(t, l, nil, []int{0, 2}, []int{0, 1, 2})
	wantOn(t, l, path("a"), []int{1}, []int{0, 1})
	wantOn(t, l, path("ab"), nil, []int{2})
	wantOn(t, l, path("a/b"), nil, []int{1})
	l = []impl.Res{shelf("a"), shelf("a/b"), file("a/b/c"), shelf("a/bc"), file("a/bc/c"), shelf("aa"), shelf("aa/b"), file("aa/b/c"), shelf("b"), file("b/c")}
	wantTree(t, l...)
	wantOn(t, l, nil, []int{0, 5, 8}, []int{0, 1, 2, 3, 4, 5, 6, 7, 8, 9})
	wantOn(t, l, path("a"), []int{1, 3}, []int{0, 1, 2, 3, 4})
	wantOn(t, l, path("a/b"), []int{2}, []int{1, 2})
	wantOn(t, l, path("a/bc"), []int{4}, []int{3, 4})
	wantOn(t, l, path("aa"), []int{6}, []int{5, 6, 7})
	wantOn(t, l, path("aa/b"), []int{7}, []int{6, 7})
	wantOn(t, l, path("b"), []int{9}, []int{8, 9})
	wantOn(t, l, path("b/c"), nil, []int{9})
	wantOn(t, l, path("c"), nil, nil)
}

func TestKidsAndDeepOfWhatIsNoTree(t *testing.T) {
	// In the order of the list, however often it is there, on whatever it is.
	l := []impl.Res{
		file("z"), file("a/c"), file("a/b"), file("a"), file("a/b"), file("a/b/c"), {Path: []string{"a/b"}, Ver: -1}, shelf("a"), file("q/r/s"), {Path: []string{""}}, {Path: []string{"", ""}}, {Path: path("1/2/3/4/5/6")},
		{Path: []string{"\xff"}, Body: strings.Repeat("x", 999), Props: make([]impl.Prop, 9)},
	}
	wantOn(t, l, nil, []int{0, 3, 6, 7, 9, 12}, []int{0, 1, 2, 3, 4, 5, 6, 7, 8, 9, 10, 11, 12})
	wantOn(t, l, path("a"), []int{1, 2, 4}, []int{1, 2, 3, 4, 5, 7})
	wantOn(t, l, path("a/b"), []int{5}, []int{2, 4, 5})
	wantOn(t, l, []string{"a/b"}, nil, []int{6})
	wantOn(t, l, path("q"), nil, []int{8})
	wantOn(t, l, path("q/r"), []int{8}, []int{8})
	wantOn(t, l, []string{""}, []int{10}, []int{9, 10})
	wantOn(t, l, path("1/2/3/4/5"), []int{11}, []int{11})
	wantOn(t, l, path("1/2/3/4/5/6"), nil, []int{11})
	wantOn(t, l, []string{"\xff"}, nil, []int{12})
	wantOn(t, l, []string{"\xfe"}, nil, nil)
	// One that says it is the root stands on nothing.
	wantOn(t, []impl.Res{shelf(""), file("a"), file("")}, nil, []int{1}, []int{0, 1, 2})
	long := slices.Repeat([]impl.Res{file("a/b")}, 500)
	if len(impl.KidsOf(long, path("a"))) != 500 || len(impl.DeepOf(long, path("a"))) != 500 {
		t.Error("not all of a long list")
	}
}

func textsOfRes(r impl.Res) []string {
	l := append(slices.Clone(r.Path), r.Body)
	for _, p := range r.Props {
		l = append(l, p.Ns, p.Name, p.Val)
	}
	return l
}

func textsOfTree(t []impl.Res) []string {
	l := []string{}
	for _, r := range t {
		l = append(l, textsOfRes(r)...)
	}
	return l
}

func spoilNames(p []string) {
	for i := range p[:cap(p)] {
		p[:cap(p)][i] = "spoilt"
	}
}

// spoilRes writes over all lists of it, and the spare room behind them.
func spoilRes(r impl.Res) {
	spoilNames(r.Path)
	for i := range r.Props[:cap(r.Props)] {
		r.Props[:cap(r.Props)][i] = impl.Prop{Ns: "spoilt", Name: "spoilt", Val: "spoilt"}
	}
}

func wantNoneShared(t *testing.T, a []string, b []string) {
	t.Helper()
	for _, x := range a {
		for _, y := range b {
			if shareMemory(x, y) {
				t.Errorf("%q shares memory with the argument", y)
			}
		}
	}
}

// roomyTree has room behind each list, with something in it that is not to be
// turned.
func roomyTree() []impl.Res {
	l := deepTree(someTree())
	for i, r := range l {
		l[i].Path = append(r.Path, "room", "behind")[:len(r.Path)]
		l[i].Props = append(r.Props, impl.Prop{Name: "room"}, impl.Prop{Name: "behind"})[:len(r.Props)]
	}
	return append(l, file("room"), file("behind"))[:len(l)]
}

// wholeTree is a roomyTree with the room that was made behind each list.
func wholeTree(l []impl.Res) []impl.Res {
	whole := []impl.Res{}
	for _, r := range l {
		r.Path = slices.Clone(r.Path[:len(r.Path)+2])
		r.Props = slices.Clone(r.Props[:len(r.Props)+2])
		whole = append(whole, r)
	}
	return append(whole, deepTree(l[:len(l)+2][len(l):])...)
}

func TestShelvesLeaveTheirArguments(t *testing.T) {
	l := roomyTree()
	kept := wholeTree(l)
	ask := []string{"a", "c", "room", "behind"}
	for n := range len(ask) - 2 {
		impl.TreeOk(l)
		impl.FindRes(l, ask[:n])
		impl.IsColl(l, ask[:n])
		impl.Above(ask[:n])
		impl.KidsOf(l, ask[:n])
		impl.DeepOf(l, ask[:n])
		impl.LessPath(l[n].Path, ask[:n])
		impl.PropsOk(l[n].Props)
	}
	if !sameTreeByParts(wholeTree(l), kept) || !slices.Equal(ask, []string{"a", "c", "room", "behind"}) {
		t.Errorf("an argument is turned: %+v, %q", wholeTree(l), ask)
	}
}

func TestKidsOfShelvesAreNewMemory(t *testing.T) {
	for _, p := range [][]string{nil, path("a"), path("a/c"), path("ab"), path("b")} {
		l := roomyTree()
		kept := wholeTree(l)
		k, again, one := impl.KidsOf(l, p), impl.KidsOf(l, p), impl.KidsOf(l, p)
		want := []string{}
		for i, kid := range k {
			wantNoneShared(t, textsOfTree(l), kid)
			wantNoneShared(t, p, kid)
			want = append(want, keyOf(kid))
			spoilNames(one[i])
			for j := i + 1; j < len(one); j++ {
				if keyOf(one[j]) != keyOf(k[j]) {
					t.Errorf("two lists of one answer share: %q", one)
				}
			}
		}
		for _, kid := range k[len(k):cap(k)] {
			if len(kid) != 0 {
				t.Errorf("%q is handed out behind the list", kid)
			}
		}
		for _, kid := range k {
			spoilNames(kid)
		}
		for i := range k[:cap(k)] {
			k[:cap(k)][i] = []string{"spoilt"}
		}
		if !sameTreeByParts(wholeTree(l), kept) {
			t.Errorf("what is written into the answer turns the argument: %+v", wholeTree(l))
		}
		for _, r := range l {
			spoilRes(r)
		}
		for i, kid := range again {
			if keyOf(kid) != want[i] {
				t.Errorf("what was answered turns: %q", again)
			}
		}
	}
}

func TestDeepOfShelvesIsNewMemory(t *testing.T) {
	for _, p := range [][]string{nil, path("a"), path("a/b"), path("a/c"), path("a/c/d/e"), path("ab"), path("b")} {
		l := roomyTree()
		kept := wholeTree(l)
		d, again, one := impl.DeepOf(l, p), impl.DeepOf(l, p), impl.DeepOf(l, p)
		want := deepTree(d)
		wantNoneShared(t, textsOfTree(l), textsOfTree(d))
		wantNoneShared(t, p, textsOfTree(d))
		for i := range one {
			spoilRes(one[i])
			if !sameTreeByParts(one[i+1:], want[i+1:]) {
				t.Errorf("two lists of one answer share: %+v", one)
			}
		}
		for _, r := range d[len(d):cap(d)] {
			if !sameResByParts(r, impl.Res{}) {
				t.Errorf("%+v is handed out behind the list", r)
			}
		}
		for i, r := range d {
			spoilRes(r)
			d[i] = impl.Res{Body: "spoilt"}
		}
		for i := range d[:cap(d)] {
			d[:cap(d)][i] = impl.Res{Body: "spoilt"}
		}
		if !sameTreeByParts(wholeTree(l), kept) {
			t.Errorf("what is written into the answer turns the argument: %+v", wholeTree(l))
		}
		for i, r := range l {
			spoilRes(r)
			l[i] = impl.Res{Body: "spoilt"}
		}
		if !sameTreeByParts(again, want) {
			t.Errorf("what was answered turns: %+v", again)
		}
	}
}

// Two things of an argument may share a list; what is answered of them does
// not.
func TestListsThatAreSharedComeApart(t *testing.T) {
	names, props := []string{"a", "b"}, []impl.Prop{{Name: "p"}, {Name: "q"}}
	l := []impl.Res{{Path: names, Props: props}, {Path: names, Props: props}}
	d, k := impl.DeepOf(l, nil), impl.KidsOf(l, path("a"))
	spoilRes(d[0])
	spoilNames(k[0])
	if !sameResByParts(d[1], impl.Res{Path: []string{"a", "b"}, Props: []impl.Prop{{Name: "p"}, {Name: "q"}}}) || !slices.Equal(k[1], []string{"a", "b"}) {
		t.Errorf("two lists of one answer share: %+v, %q", d, k)
	}
}

// treeByWords looks at each thing by itself, as the document tells of it.
func treeByWords(t []impl.Res) bool {
	shelves := map[string]bool{"": true}
	for i, r := range t {
		key := keyOf(r.Path)
		on := key[:max(0, strings.LastIndex(strings.TrimSuffix(key, "\x00"), "\x00")+1)]
		right := i < mostRes && len(r.Path) >= 1 && impl.PathOk(r.Path) && len(r.Body) <= 200 && !(r.Coll && r.Body != "") && r.Ver >= 0 && r.Ver <= mostVer && propsByWords(r.Props)
		if !right || i > 0 && keyOf(t[i-1].Path) >= key || !shelves[on] {
			return false
		}
		if r.Coll {
			shelves[key] = true
		}
	}
	return true
}

func propsByWords(l []impl.Prop) bool {
	for i, p := range l {
		if i >= mostProps || len(p.Ns) > 20 || len(p.Val) > mostPropVal || !impl.Plain(p.Ns+p.Val) || !impl.SmallName(p.Name) {
			return false
		}
		if i > 0 && l[i-1].Ns+"\x00"+l[i-1].Name >= p.Ns+"\x00"+p.Name {
			return false
		}
	}
	return true
}

// wantShelvesByWords asks all of l, and of each path that is near to one in it;
// it tells whether l is a tree.
func wantShelvesByWords(t *testing.T, l []impl.Res, asked [][]string) bool {
	t.Helper()
	ok := treeByWords(l)
	if impl.TreeOk(l) != ok {
		t.Fatalf("TreeOk(%+v) is not %v", l, ok)
	}
	for _, p := range asked {
		key := keyOf(p)
		at := slices.IndexFunc(l, func(r impl.Res) bool { return keyOf(r.Path) == key })
		wantFound(t, l, p, at)
		wantColl(t, l, p, len(p) == 0 || at >= 0 && l[at].Coll)
		var kids, deep []int
		for i, r := range l {
			if !strings.HasPrefix(keyOf(r.Path), key) {
				continue
			}
			deep = append(deep, i)
			if len(r.Path) == len(p)+1 {
				kids = append(kids, i)
			}
		}
		wantOn(t, l, p, kids, deep)
	}
	return ok
}

// allPaths has all of up to this many names.
func allPaths(names []string, most int) [][]string {
	l := [][]string{nil}
	for from, n := 0, 0; n < most; n++ {
		to := len(l)
		for _, p := range l[from:to] {
			for _, name := range names {
				l = append(l, append(slices.Clone(p), name))
			}
		}
		from = to
	}
	return l
}

func TestAllSmallLists(t *testing.T) {
	asked := allPaths([]string{"a", "ab", "b"}, 2)
	things := []impl.Res{}
	for _, p := range allPaths([]string{"a", "ab"}, 2) {
		things = append(things, impl.Res{Path: p, Coll: true}, impl.Res{Path: p})
	}
	seen := map[bool]int{}
	lists := [][]impl.Res{nil}
	for range 4 {
		longer := [][]impl.Res{}
		for _, l := range lists {
			seen[wantShelvesByWords(t, l, asked)]++
			for _, r := range things {
				if len(l) < 2 || len(r.Path) > 0 && len(l[0].Path) > 0 && !impl.LessPath(l[1].Path, l[0].Path) {
					longer = append(longer, append(slices.Clone(l), r))
				}
			}
		}
		lists = longer
	}
	if seen[false] < 100 || seen[true] < 30 {
		t.Errorf("%d are trees, %d are none", seen[true], seen[false])
	}
}

func drawTree(draw *rand.Rand) []impl.Res {
	names := []string{"a", "ab", "abc", "a-", "b", "a b", "\x7e"}
	l := []impl.Res{}
	for range draw.IntN(mostRes + 1) {
		on := []string{}
		if shelves := slices.DeleteFunc(slices.Clone(l), func(r impl.Res) bool { return !r.Coll || len(r.Path) == impl.MaxNames }); len(shelves) > 0 && draw.IntN(4) > 0 {
			on = shelves[draw.IntN(len(shelves))].Path
		}
		r := impl.Res{Path: append(slices.Clone(on), names[draw.IntN(len(names))]), Coll: draw.IntN(2) == 0, Ver: draw.IntN(mostVer + 1)}
		if !r.Coll {
			r.Body = drawPlain(draw, 0, 9)
		}
		for i := range draw.IntN(mostProps + 1) {
			r.Props = append(r.Props, impl.Prop{Ns: []string{"", "u"}[i/2], Name: []string{"p", "q"}[i%2], Val: drawPlain(draw, 0, mostPropVal)})
		}
		at, there := slices.BinarySearchFunc(l, r, func(a impl.Res, b impl.Res) int { return strings.Compare(keyOf(a.Path), keyOf(b.Path)) })
		if !there {
			l = slices.Insert(l, at, r)
		}
	}
	return l
}

func nearPaths(l []impl.Res) [][]string {
	asked := [][]string{nil, {"a"}, {"ab"}, {"q"}, {"a", "ab"}, {"a", "a"}}
	for _, r := range l {
		asked = append(asked, r.Path, append(slices.Clone(r.Path), "a"))
	}
	return asked
}

func TestDrawnTreesAreRight(t *testing.T) {
	draw := rand.New(rand.NewPCG(10, 1))
	deep := 0
	for range 5000 {
		l := drawTree(draw)
		if !wantShelvesByWords(t, l, nearPaths(l)) {
			t.Fatalf("%+v is no tree", l)
		}
		for _, r := range l {
			// Each thing is on a shelf.
			wantColl(t, l, impl.Above(r.Path), true)
			if !slices.ContainsFunc(impl.KidsOf(l, impl.Above(r.Path)), func(p []string) bool { return slices.Equal(p, r.Path) }) {
				t.Errorf("%q is not right on what it is on, in %+v", r.Path, l)
			}
			deep = max(deep, len(r.Path))
		}
	}
	if deep != impl.MaxNames {
		t.Errorf("no more than %d names were drawn", deep)
	}
}

func TestDrawnTreesThatAreTurned(t *testing.T) {
	draw := rand.New(rand.NewPCG(10, 2))
	seen := map[bool]int{}
	for range 20000 {
		l := drawTree(draw)
		if len(l) == 0 {
			continue
		}
		i, j := draw.IntN(len(l)), draw.IntN(len(l))
		switch draw.IntN(8) {
		case 0:
			l = slices.Delete(l, i, i+1)
		case 1:
			l[i], l[j] = l[j], l[i]
		case 2:
			l = slices.Insert(l, i, l[j])
		case 3:
			l[i].Coll = !l[i].Coll
		case 4:
			l[i].Path = slices.Clone(l[i].Path)
			l[i].Path[draw.IntN(len(l[i].Path))] = []string{"a", "ab", "z", "", ".", "a/b"}[draw.IntN(6)]
		case 5:
			l[i].Path = l[i].Path[:len(l[i].Path)-1]
		case 6:
			l[i].Ver = []int{-1, 0, mostVer, mostVer + 1}[draw.IntN(4)]
		case 7:
			l[i].Props = append(slices.Clone(l[i].Props), impl.Prop{Ns: []string{"", "u", "v"}[draw.IntN(3)], Name: []string{"", "a", "q", "r"}[draw.IntN(4)]})
		}
		seen[wantShelvesByWords(t, l, nearPaths(l))]++
	}
	if seen[false] < 1000 || seen[true] < 1000 {
		t.Errorf("%d are trees, %d are none", seen[true], seen[false])
	}
}

func TestWhatWasRefusedLeavesNothingBehind(t *testing.T) {
	for _, bad := range [][]impl.Res{{file("a/b")}, {file("b"), file("a")}, {{}}, {file("a"), file("a/b")}, make([]impl.Res, 99)} {
		wantNoTree(t, bad...)
		wantTree(t, someTree()...)
		wantTree(t)
		wantNoTree(t, bad...)
	}
}

// The paths stand in a map, from which what is gone is deleted.
func TestPathsStandInAMap(t *testing.T) {
	f, err := parser.ParseFile(token.NewFileSet(), "../impl/l10_tree.go", nil, parser.SkipObjectResolution)
	if err != nil {
		t.Fatal(err)
	}
	deletes := 0
	for _, d := range f.Decls {
		fn, ok := d.(*ast.FuncDecl)
		if !ok || !hasMap(fn) {
			continue
		}
		ast.Inspect(fn, func(n ast.Node) bool {
			if c, ok := n.(*ast.CallExpr); ok {
				if id, ok := c.Fun.(*ast.Ident); ok && id.Name == "delete" {
					deletes++
				}
			}
			return true
		})
	}
	if deletes == 0 {
		t.Error("no function of l10_tree.go deletes from a map")
	}
}

func hasMap(n ast.Node) bool {
	found := false
	ast.Inspect(n, func(n ast.Node) bool {
		if _, ok := n.(*ast.MapType); ok {
			found = true
		}
		return true
	})
	return found
}
