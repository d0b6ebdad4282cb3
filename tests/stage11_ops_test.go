package tests

import (
	"cmp"
	"go/ast"
	"go/parser"
	"go/token"
	"maps"
	"math"
	"math/rand/v2"
	"slices"
	"strings"
	"testing"

	"loop.example/g00452/impl"
)

const (
	putOp    = "PutFile"
	makeOp   = "MakeColl"
	removeOp = "Remove"
	copyOp   = "CopyTree"
	moveOp   = "MoveTree"
)

var allOps = []string{putOp, makeOp, removeOp, copyOp, moveOp}

// A turnAsk is all that those that turn shelves are handed; the path of one
// that has no other is to.
type turnAsk struct {
	op   string
	l    []impl.Res
	from []string
	to   []string
	over bool
	body string
	ver  int
}

func putAsk(l []impl.Res, to string, body string, ver int) turnAsk {
	return turnAsk{op: putOp, l: l, to: path(to), body: body, ver: ver}
}

func makeAsk(l []impl.Res, to string, ver int) turnAsk {
	return turnAsk{op: makeOp, l: l, to: path(to), ver: ver}
}

func removeAsk(l []impl.Res, to string) turnAsk { return turnAsk{op: removeOp, l: l, to: path(to)} }

// farAsks are of both that have two paths.
func farAsks(l []impl.Res, from string, to string, over bool, ver int) []turnAsk {
	return []turnAsk{
		{op: copyOp, l: l, from: path(from), to: path(to), over: over, ver: ver},
		{op: moveOp, l: l, from: path(from), to: path(to), over: over, ver: ver},
	}
}

func (a turnAsk) isFar() bool { return a.op == copyOp || a.op == moveOp }

func (a turnAsk) ask() ([]impl.Res, int) {
	switch a.op {
	case putOp:
		return impl.PutFile(a.l, a.to, a.body, a.ver)
	case makeOp:
		return impl.MakeColl(a.l, a.to, a.ver)
	case removeOp:
		return impl.Remove(a.l, a.to)
	case copyOp:
		return impl.CopyTree(a.l, a.from, a.to, a.over, a.ver)
	}
	return impl.MoveTree(a.l, a.from, a.to, a.over, a.ver)
}

func wantTurn(t *testing.T, a turnAsk, code int, want []impl.Res) {
	t.Helper()
	kept := deepTree(a.l)
	l, c := a.ask()
	if c != code || !sameTreeByParts(l, want) {
		t.Errorf("%+v is %+v, %d, not %+v, %d", a, l, c, want, code)
	}
	if !sameTreeByParts(a.l, kept) {
		t.Errorf("%+v turns its argument, which was %+v", a, kept)
	}
	if code < 300 && !impl.TreeOk(l) {
		t.Errorf("%+v is no tree: %+v", a, l)
	}
}

func wantRefused(t *testing.T, a turnAsk, code int) {
	t.Helper()
	wantTurn(t, a, code, deepTree(a.l))
}

// with lays things among others, by the order of their paths.
func with(l []impl.Res, more ...impl.Res) []impl.Res {
	l = append(deepTree(l), more...)
	slices.SortFunc(l, func(a impl.Res, b impl.Res) int { return cmp.Compare(keyOf(a.Path), keyOf(b.Path)) })
	return l
}

// less takes just what is at these paths.
func less(l []impl.Res, gone ...string) []impl.Res {
	return slices.DeleteFunc(deepTree(l), func(r impl.Res) bool { return slices.Contains(gone, strings.Join(r.Path, "/")) })
}

// resAt is the thing at from, as it is at to with this version.
func resAt(l []impl.Res, from string, to string, ver int) impl.Res {
	i := slices.IndexFunc(l, func(r impl.Res) bool { return keyOf(r.Path) == keyOf(path(from)) })
	r := deepTree(l[i : i+1])[0]
	r.Path, r.Ver = path(to), ver
	return r
}

// fullTree has as many things as may be.
func fullTree() []impl.Res {
	return with(someTree(), impl.Res{Path: path("b/f"), Body: "full", Ver: 9}, impl.Res{Path: path("c"), Body: "c", Ver: 10})
}

// deepShelves has paths of each length, the longest ones too.
func deepShelves() []impl.Res {
	return []impl.Res{shelf("a"), shelf("a/b"), shelf("a/b/c"), file("a/b/c/d"), shelf("s"), shelf("s/t"), shelf("s/t/u"), file("x")}
}

func treesThatAreWrong() [][]impl.Res {
	return [][]impl.Res{
		{{}}, {shelf("")}, {file("b"), file("a")}, {file("a"), file("a")}, {shelf("a"), file("ab"), file("a/b")}, {file("a/b")}, {file("a"), file("a/b")},
		{{Path: path("a"), Ver: -1}}, {{Path: path("a"), Ver: mostVer + 1}}, {{Path: path("a"), Body: strings.Repeat("x", impl.MaxBody+1)}}, {{Path: path("a"), Coll: true, Body: "x"}},
		{{Path: path("a"), Props: make([]impl.Prop, 1)}}, {{Path: path("a"), Props: []impl.Prop{{Name: "b"}, {Name: "a"}}}}, {{Path: []string{"a/b"}}}, {{Path: []string{".."}}}, {{Path: path("1/2/3/4/5")}},
		append(fullTree(), file("d")), slices.Repeat([]impl.Res{file("a")}, 100), {shelf("a"), {Path: []string{"a", "\xff"}, Body: everyByte(), Ver: math.MinInt, Props: []impl.Prop{{Ns: "\x00"}}}},
	}
}

func pathsThatAreWrong() [][]string {
	return [][]string{{""}, {"."}, {".."}, {"a/b"}, {"/"}, {"ninebytes"}, {"\n"}, {"\x7f"}, {"\xff"}, {"\u00e9"}, {"a", ""}, {"a", ".."}, {"a", "b", "."}, {"", "a"}, {"..", "a"}, {"q", "ninebytes"}, {"a", "b", "c", "d", "e"}, {"1", "2", "3", "4", "5"}, slices.Repeat([]string{"a"}, 99)}
}

func TestTurnsOfWhatIsNoTree(t *testing.T) {
	for _, l := range treesThatAreWrong() {
		for _, op := range allOps {
			for _, p := range []string{"", "a", "q", "a/b", "q/r", "ab"} {
				// Whatever else there is to refuse, this counts.
				wantRefused(t, turnAsk{op: op, l: l, from: path("a"), to: path(p), over: true}, 500)
				wantRefused(t, turnAsk{op: op, l: l, from: path(p), to: path("q")}, 500)
				wantRefused(t, turnAsk{op: op, l: l, from: path(p), to: path("q"), ver: -1}, 500)
				wantRefused(t, turnAsk{op: op, l: l, from: path("q"), to: path(p), body: strings.Repeat("x", impl.MaxBody+1)}, 500)
				wantRefused(t, turnAsk{op: op, l: l, from: []string{""}, to: path(p)}, 500)
				wantRefused(t, turnAsk{op: op, l: l, from: path(p), to: []string{""}}, 500)
			}
		}
	}
}

func TestTurnsOfWhatIsNoPath(t *testing.T) {
	long := strings.Repeat("x", impl.MaxBody+1)
	for _, p := range pathsThatAreWrong() {
		for _, l := range [][]impl.Res{nil, someTree(), fullTree()} {
			for _, ver := range []int{0, -1, mostVer + 1} {
				for _, op := range allOps {
					wantRefused(t, turnAsk{op: op, l: l, from: p, to: p, ver: ver}, 400)
					wantRefused(t, turnAsk{op: op, l: l, from: p, to: p, over: true, body: long, ver: ver}, 400)
					wantRefused(t, turnAsk{op: op, l: l, from: path("a"), to: p, over: true, ver: ver}, 400)
					wantRefused(t, turnAsk{op: op, l: l, from: nil, to: p, ver: ver}, 400)
				}
				for _, op := range []string{copyOp, moveOp} {
					for _, to := range []string{"", "a", "q", "q/r", "a-/x"} {
						wantRefused(t, turnAsk{op: op, l: l, from: p, to: path(to), over: true, ver: ver}, 400)
						wantRefused(t, turnAsk{op: op, l: l, from: p, to: path(to), ver: ver}, 400)
					}
				}
			}
		}
	}
}

func TestVersionsOfTurns(t *testing.T) {
	for _, ver := range []int{0, 1, 77, mostVer - 1, mostVer} {
		wantTurn(t, putAsk(someTree(), "q", "new", ver), 201, with(someTree(), impl.Res{Path: path("q"), Body: "new", Ver: ver}))
		wantTurn(t, makeAsk(someTree(), "q", ver), 201, with(someTree(), impl.Res{Path: path("q"), Coll: true, Ver: ver}))
		moved := resAt(someTree(), "a-", "q", ver)
		wantTurn(t, farAsks(someTree(), "a-", "q", false, ver)[0], 201, with(someTree(), moved))
		wantTurn(t, farAsks(someTree(), "a-", "q", false, ver)[1], 201, with(less(someTree(), "a-"), moved))
	}
	for _, ver := range []int{-1, mostVer + 1, math.MinInt, math.MaxInt} {
		for _, op := range []string{putOp, makeOp, copyOp, moveOp} {
			for _, l := range [][]impl.Res{nil, someTree(), fullTree()} {
				for _, p := range []string{"", "a", "a-", "a/b", "a/q", "q", "q/r", "a-/b", "a/c/d/q"} {
					wantRefused(t, turnAsk{op: op, l: l, from: path("a-"), to: path(p), over: true, ver: ver}, 507)
					wantRefused(t, turnAsk{op: op, l: l, from: path(p), to: path("ab"), ver: ver}, 507)
					wantRefused(t, turnAsk{op: op, l: l, from: path("none"), to: path(p), body: strings.Repeat("x", impl.MaxBody+1), ver: ver}, 507)
				}
			}
		}
		// Remove is handed none.
		wantTurn(t, turnAsk{op: removeOp, l: someTree(), to: path("b"), ver: ver}, 204, less(someTree(), "b"))
	}
}

func TestPutFile(t *testing.T) {
	l := someTree()
	for _, p := range []string{"q", "a/a", "a/d", "a/c/a", "a/c/d/a", "a/c/d/f", "a/c-", "a/ce", "a ", "a0", "aa", "ab/a", "ab/bb", "ab/c", "abc", "b/x", "c", " ", "~~~~~~~~", "A", "..."} {
		for _, body := range []string{"", "new", "\x00\r\n\xff", everyByte()[:impl.MaxBody], everyByte()[256-impl.MaxBody:]} {
			wantTurn(t, putAsk(l, p, body, 11), 201, with(l, impl.Res{Path: path(p), Body: body, Ver: 11}))
		}
	}
	for _, p := range []string{"a/b", "a/c/d/e", "a/cd", "a-", "ab/b"} {
		for _, body := range []string{"", "new", strings.Repeat("\xff", impl.MaxBody)} {
			was := resAt(l, p, p, 11)
			was.Body = body
			wantTurn(t, putAsk(l, p, body, 11), 204, with(less(l, p), was))
		}
	}
	for _, p := range []string{"", "a", "a/c", "a/c/d", "ab", "b"} {
		wantRefused(t, putAsk(l, p, "new", 11), 405)
	}
	for _, p := range []string{"a-/x", "a/b/x", "ab/b/x", "q/x", "a/q/x", "a/c/q/x", "A/x", "a /x", "abc/x"} {
		wantRefused(t, putAsk(l, p, "new", 11), 409)
	}
	wantTurn(t, putAsk(nil, "a", "x", 0), 201, []impl.Res{{Path: path("a"), Body: "x"}})
	wantRefused(t, putAsk(nil, "a/b", "x", 0), 409)
	wantRefused(t, putAsk(nil, "", "x", 0), 405)
}

func TestPutFileLeavesWhatIsKnownOfIt(t *testing.T) {
	props := []impl.Prop{{Name: "p"}, {Name: "q", Val: "2"}, {Ns: "u", Name: "p", Val: "3"}}
	l, code := impl.PutFile(someTree(), path("a/b"), "new", 11)
	if code != 204 || !sameResByParts(l[1], impl.Res{Path: path("a/b"), Body: "new", Ver: 11, Props: props}) {
		t.Errorf("it is %+v, %d", l[1], code)
	}
	// What is put anew has none, though others near it have.
	l, code = impl.PutFile(someTree(), path("a/a"), "new", 11)
	if code != 201 || !sameResByParts(l[1], impl.Res{Path: path("a/a"), Body: "new", Ver: 11}) {
		t.Errorf("it is %+v, %d", l[1], code)
	}
}

func TestNamesThatBeginAlikeStandInOrder(t *testing.T) {
	l := []impl.Res{shelf("a"), file("a/b"), file("ab")}
	for p, at := range map[string]int{"a/a": 1, "a/aa": 1, "a/bb": 2, "a/z": 2, "a/~": 2, "a ": 2, "a-": 2, "aa": 2, "ab ": 3, "aba": 3, "ac": 3, "A": 0, " ": 0, "Z": 0, "b": 3} {
		for _, a := range []turnAsk{putAsk(l, p, "x", 5), makeAsk(l, p, 5)} {
			x, code := a.ask()
			if code != 201 || len(x) != 4 || !slices.Equal(x[at].Path, path(p)) || x[at].Coll != (a.op == makeOp) || !sameTreeByParts(slices.Delete(x, at, at+1), l) {
				t.Errorf("%s of %q is %+v, %d", a.op, p, x, code)
			}
		}
	}
}

func TestLengthsOfBodiesThatArePut(t *testing.T) {
	for n := range 2 * impl.MaxBody {
		for _, p := range []string{"q", "a/b", "ab/c"} {
			a := putAsk(someTree(), p, strings.Repeat("\xff", n), 11)
			if _, code := a.ask(); (code == 413) != (n > impl.MaxBody) || code != 413 && code/100 != 2 {
				t.Errorf("a body of %d bytes at %q: %d", n, p, code)
			}
			if n > impl.MaxBody {
				wantRefused(t, a, 413)
			}
		}
	}
	wantRefused(t, putAsk(someTree(), "q", strings.Repeat("x", 1<<20), 11), 413)
}

func TestHowManyThingsMayCome(t *testing.T) {
	for n := range impl.MaxRes + 1 {
		l := []impl.Res{}
		for i := range n {
			l = append(l, impl.Res{Path: []string{"n" + impl.NumText(100+i)}, Coll: i%2 == 0})
		}
		for _, a := range []turnAsk{putAsk(l, "m", "x", 1), putAsk(l, "n100/m", "x", 1), makeAsk(l, "m", 1), makeAsk(l, "z", 1), makeAsk(l, "n100/m", 1), farAsks(l, "n100", "z", false, 1)[0]} {
			switch {
			case n == 0 && len(a.from)+len(a.to) > 1:
				continue
			case n == impl.MaxRes:
				wantRefused(t, a, 507)
			default:
				if x, code := a.ask(); code != 201 || len(x) != n+1 {
					t.Errorf("one more than %d: %s is %+v, %d", n, a.op, x, code)
				}
			}
		}
	}
	full := fullTree()
	wantRefused(t, putAsk(full, "q", "", 11), 507)
	wantRefused(t, makeAsk(full, "a/q", 11), 507)
	// One that is there already is not one more.
	was := resAt(full, "a/b", "a/b", 11)
	was.Body = "new"
	wantTurn(t, putAsk(full, "a/b", "new", 11), 204, with(less(full, "a/b"), was))
	wantTurn(t, putAsk(full, "c", strings.Repeat("x", impl.MaxBody), 0), 204, with(less(full, "c"), impl.Res{Path: path("c"), Body: strings.Repeat("x", impl.MaxBody)}))
}

func TestMakeColl(t *testing.T) {
	l := someTree()
	for _, p := range []string{"q", "a/a", "a/d", "a/c/a", "a/c/d/a", "a/c/d/f", "a/c-", "a/ce", "a ", "aa", "ab/a", "ab/c", "abc", "b/x", "c", "~"} {
		wantTurn(t, makeAsk(l, p, 11), 201, with(l, impl.Res{Path: path(p), Coll: true, Ver: 11}))
	}
	for _, r := range l {
		wantRefused(t, turnAsk{op: makeOp, l: l, to: r.Path, ver: 11}, 405)
	}
	wantRefused(t, makeAsk(l, "", 11), 405)
	for _, p := range []string{"a-/x", "a/b/x", "ab/b/x", "q/x", "a/q/x", "a/c/q/x", "A/x", "abc/x"} {
		wantRefused(t, makeAsk(l, p, 11), 409)
	}
	wantTurn(t, makeAsk(nil, "a", 0), 201, []impl.Res{shelf("a")})
	wantRefused(t, makeAsk(nil, "a/b", 0), 409)
	wantRefused(t, makeAsk(nil, "", 0), 405)
}

func TestShelvesOneOnTheOther(t *testing.T) {
	l := []impl.Res{}
	want := []impl.Res{}
	for n := 1; n <= impl.MaxNames; n++ {
		p := slices.Repeat([]string{"a"}, n)
		want = append(want, impl.Res{Path: p, Coll: true, Ver: n})
		wantTurn(t, turnAsk{op: makeOp, l: l, to: p, ver: n}, 201, want)
		l, _ = impl.MakeColl(l, p, n)
	}
	p := slices.Repeat([]string{"a"}, impl.MaxNames+1)
	wantRefused(t, turnAsk{op: makeOp, l: l, to: p}, 400)
	wantRefused(t, turnAsk{op: putOp, l: l, to: p}, 400)
}

func TestRemove(t *testing.T) {
	l := someTree()
	for p, gone := range map[string][]string{
		"a":       {"a", "a/b", "a/c", "a/c/d", "a/c/d/e", "a/cd"},
		"a/b":     {"a/b"},
		"a/c":     {"a/c", "a/c/d", "a/c/d/e"},
		"a/c/d":   {"a/c/d", "a/c/d/e"},
		"a/c/d/e": {"a/c/d/e"},
		"a/cd":    {"a/cd"},
		"a-":      {"a-"},
		"ab":      {"ab", "ab/b"},
		"ab/b":    {"ab/b"},
		"b":       {"b"},
	} {
		wantTurn(t, removeAsk(l, p), 204, less(l, gone...))
	}
	wantRefused(t, removeAsk(l, ""), 403)
	wantRefused(t, turnAsk{op: removeOp, l: l, to: []string{}}, 403)
	wantRefused(t, removeAsk(nil, ""), 403)
	for _, p := range []string{"q", "A", "a ", "aa", "abc", "a/a", "a/cde", "a/c/e", "a/b/c", "ab/bb", "b/b", "c/d", "d", "a-/x", "1/2/3/4"} {
		wantRefused(t, removeAsk(l, p), 404)
		wantRefused(t, removeAsk(nil, p), 404)
	}
	wantTurn(t, removeAsk([]impl.Res{file("a")}, "a"), 204, nil)
	wantTurn(t, removeAsk([]impl.Res{shelf("a"), file("a/b")}, "a"), 204, nil)
	wantTurn(t, removeAsk(fullTree(), "b"), 204, less(fullTree(), "b", "b/f"))
	// A name that only begins alike stays.
	alike := []impl.Res{shelf("a"), file("a/b"), shelf("a-"), file("a-/b"), shelf("ab"), file("ab/b")}
	wantTurn(t, removeAsk(alike, "a"), 204, alike[2:])
	wantTurn(t, removeAsk(alike, "ab"), 204, alike[:4])
}

func TestCopyAndMoveToWhatIsNotThere(t *testing.T) {
	l := someTree()
	for _, x := range []struct {
		from  string
		to    string
		pairs []string // each thing that comes, and what it comes of
	}{
		{"a-", "q", []string{"a-", "q"}},
		{"a-", "a/q", []string{"a-", "a/q"}},
		{"a-", "a/c/d/q", []string{"a-", "a/c/d/q"}},
		{"a/b", "b/b", []string{"a/b", "b/b"}},
		{"a/b", "a/a", []string{"a/b", "a/a"}},
		{"a/b", "a/bb", []string{"a/b", "a/bb"}},
		{"a/b", "aa", []string{"a/b", "aa"}},
		{"a/c/d/e", "A", []string{"a/c/d/e", "A"}},
		{"b", "a/z", []string{"b", "a/z"}},
		{"b", "ab/c", []string{"b", "ab/c"}},
		{"ab", "q", []string{"ab", "q", "ab/b", "q/b"}},
		{"ab", "a/c/q", []string{"ab", "a/c/q", "ab/b", "a/c/q/b"}},
		{"ab", "abc", []string{"ab", "abc", "ab/b", "abc/b"}},
		{"a/c/d", "a/d", []string{"a/c/d", "a/d", "a/c/d/e", "a/d/e"}},
		{"a/c/d", "a/c/dd", []string{"a/c/d", "a/c/dd", "a/c/d/e", "a/c/dd/e"}},
		{"a/c/d", "ab/b-", []string{"a/c/d", "ab/b-", "a/c/d/e", "ab/b-/e"}},
		{"a/c/d", " ", []string{"a/c/d", " ", "a/c/d/e", " /e"}},
	} {
		comes, gone := []impl.Res{}, []string{}
		for i := 0; i < len(x.pairs); i += 2 {
			comes = append(comes, resAt(l, x.pairs[i], x.pairs[i+1], 11))
			gone = append(gone, x.pairs[i])
		}
		for _, over := range []bool{false, true} {
			asks := farAsks(l, x.from, x.to, over, 11)
			wantTurn(t, asks[0], 201, with(l, comes...))
			wantTurn(t, asks[1], 201, with(less(l, gone...), comes...))
		}
	}
}

func TestAShelfWithShelvesOnIt(t *testing.T) {
	l := less(someTree(), "ab/b", "b", "a-")
	comes := []impl.Res{resAt(l, "a/c", "ab/x", 11), resAt(l, "a/c/d", "ab/x/d", 11), resAt(l, "a/c/d/e", "ab/x/d/e", 11)}
	asks := farAsks(l, "a/c", "ab/x", false, 11)
	wantTurn(t, asks[0], 201, with(l, comes...))
	wantTurn(t, asks[1], 201, with(less(l, "a/c", "a/c/d", "a/c/d/e"), comes...))
	l = less(l, "ab")
	comes = []impl.Res{
		{Path: path("q"), Coll: true, Ver: 0, Props: []impl.Prop{{Name: "p", Val: "1"}}},
		{Path: path("q/b"), Body: "x", Ver: 0, Props: []impl.Prop{{Name: "p"}, {Name: "q", Val: "2"}, {Ns: "u", Name: "p", Val: "3"}}},
		{Path: path("q/c"), Coll: true, Ver: 0},
		{Path: path("q/c/d"), Coll: true, Ver: 0},
		{Path: path("q/c/d/e"), Body: "yy", Ver: 0, Props: []impl.Prop{{Ns: "u", Name: "r"}}},
		{Path: path("q/cd"), Body: "zzz", Ver: 0},
	}
	asks = farAsks(l, "a", "q", false, 0)
	wantTurn(t, asks[0], 201, append(deepTree(l), comes...))
	wantTurn(t, asks[1], 201, comes)
}

func TestCopyAndMoveOnWhatIsThere(t *testing.T) {
	l := someTree()
	for _, x := range []struct {
		from  string
		to    string
		gone  []string // at to, and Under it
		pairs []string
	}{
		{"a-", "a/b", []string{"a/b"}, []string{"a-", "a/b"}},
		{"a/b", "a-", []string{"a-"}, []string{"a/b", "a-"}},
		{"a/cd", "a/b", []string{"a/b"}, []string{"a/cd", "a/b"}},
		// A text on shelves, which have more than it.
		{"a-", "a", []string{"a", "a/b", "a/c", "a/c/d", "a/c/d/e", "a/cd"}, []string{"a-", "a"}},
		{"ab/b", "a/c", []string{"a/c", "a/c/d", "a/c/d/e"}, []string{"ab/b", "a/c"}},
		{"a/b", "a/c", []string{"a/c", "a/c/d", "a/c/d/e"}, []string{"a/b", "a/c"}},
		{"a/b", "b", []string{"b"}, []string{"a/b", "b"}},
		// An empty shelf on a text, and on shelves.
		{"b", "a-", []string{"a-"}, []string{"b", "a-"}},
		{"b", "a", []string{"a", "a/b", "a/c", "a/c/d", "a/c/d/e", "a/cd"}, []string{"b", "a"}},
		{"b", "ab", []string{"ab", "ab/b"}, []string{"b", "ab"}},
		// What was on the shelf is gone, of whatever name.
		{"ab", "a", []string{"a", "a/b", "a/c", "a/c/d", "a/c/d/e", "a/cd"}, []string{"ab", "a", "ab/b", "a/b"}},
		{"ab", "a/c", []string{"a/c", "a/c/d", "a/c/d/e"}, []string{"ab", "a/c", "ab/b", "a/c/b"}},
		{"a/c", "ab", []string{"ab", "ab/b"}, []string{"a/c", "ab", "a/c/d", "ab/d", "a/c/d/e", "ab/d/e"}},
		{"a/c/d", "ab/b", []string{"ab/b"}, []string{"a/c/d", "ab/b", "a/c/d/e", "ab/b/e"}},
		{"a/c/d", "a/b", []string{"a/b"}, []string{"a/c/d", "a/b", "a/c/d/e", "a/b/e"}},
	} {
		comes, moved := []impl.Res{}, slices.Clone(x.gone)
		for i := 0; i < len(x.pairs); i += 2 {
			comes = append(comes, resAt(l, x.pairs[i], x.pairs[i+1], 11))
			moved = append(moved, x.pairs[i])
		}
		asks := farAsks(l, x.from, x.to, true, 11)
		wantTurn(t, asks[0], 204, with(less(l, x.gone...), comes...))
		wantTurn(t, asks[1], 204, with(less(l, moved...), comes...))
		for _, a := range farAsks(l, x.from, x.to, false, 11) {
			wantRefused(t, a, 412)
		}
	}
}

func TestWhatIsNotThereIsNotCopied(t *testing.T) {
	for _, from := range []string{"q", "A", "aa", "a/a", "a/c/e", "a/b/c", "abc", "b/b", "c/d", "a-/x"} {
		for _, to := range []string{"", "q", "r", "a", "a/b", "a-/x", "q/r", "ab/x", "b", "a/c/d/e"} {
			for _, over := range []bool{false, true} {
				for _, l := range [][]impl.Res{nil, someTree(), fullTree()} {
					for _, a := range farAsks(l, from, to, over, 11) {
						wantRefused(t, a, 404)
					}
				}
			}
		}
	}
}

func TestWhatIsNotApart(t *testing.T) {
	for _, l := range [][]impl.Res{someTree(), fullTree()} {
		for _, over := range []bool{false, true} {
			asks := append(farAsks(l, "", "", over, 11), farAsks(l, "", "q/r", over, 11)...)
			for _, r := range l {
				p := strings.Join(r.Path, "/")
				asks = append(asks, farAsks(l, "", p, over, 11)...)
				asks = append(asks, farAsks(l, p, "", over, 11)...)
				asks = append(asks, farAsks(l, p, p, over, 11)...)
				// Also where to is there, is on a text, or on nothing.
				if len(r.Path) < impl.MaxNames {
					asks = append(asks, farAsks(l, p, p+"/q", over, 11)...)
					asks = append(asks, farAsks(l, p, p+"/b", over, 11)...)
				}
				for n := 1; n < len(r.Path); n++ {
					head := strings.Join(r.Path[:n], "/")
					asks = append(asks, farAsks(l, p, head, over, 11)...)
					asks = append(asks, farAsks(l, head, p, over, 11)...)
				}
			}
			asks = append(asks, farAsks(l, "a", "a/q/r/s", over, 11)...)
			asks = append(asks, farAsks(l, "a/c", "a/c/d/e", over, 11)...)
			for _, a := range asks {
				wantRefused(t, a, 403)
			}
		}
	}
	for _, a := range farAsks(nil, "", "", true, 0) {
		wantRefused(t, a, 403)
	}
}

func TestWhatIsCopiedComesOnAShelf(t *testing.T) {
	l := someTree()
	for _, over := range []bool{false, true} {
		for from, places := range map[string][]string{
			"b":    {"a-/x", "a/b/x", "q/x", "a/q/x", "ab/b/x", "A/x", "a/c/q/x", "b-/x"},
			"a":    {"a-/x", "q/x", "ab/b/x", "ab/q/x"},
			"a-":   {"a/b/x", "q/x", "a/cd/x"},
			"a/c":  {"a-/x", "q/x", "a/b/x", "b/q/x"},
			"ab/b": {"a/q/x", "q/x"},
		} {
			for _, to := range places {
				for _, a := range farAsks(l, from, to, over, 11) {
					wantRefused(t, a, 409)
				}
			}
		}
	}
}

func TestPathsThatWouldBeTooLong(t *testing.T) {
	l := deepShelves()
	wantTree(t, l...)
	for _, x := range []struct {
		from string
		to   string
		code int
	}{
		{"x", "s/t/u/v", 201}, {"a/b/c/d", "s/t/u/v", 201}, {"a/b/c/d", "q", 201},
		{"a/b/c", "q", 201}, {"a/b/c", "s/q", 201}, {"a/b/c", "s/t/q", 201}, {"a/b/c", "s/t/u/q", 409},
		{"a/b", "q", 201}, {"a/b", "s/q", 201}, {"a/b", "s/t/q", 409}, {"a/b", "s/t/u/q", 409},
		{"a", "q", 201}, {"a", "s/q", 409}, {"a", "s/t/q", 409}, {"a", "s/t/u/q", 409},
		{"s", "a/q", 201}, {"s", "a/b/q", 409}, {"s/t", "a/b/q", 201}, {"s/t", "a/b/c/q", 409}, {"s/t/u", "a/b/c/q", 201}, {"s/t/u", "a/b/c/d", 204}, {"s/t", "a/b/c/d", 409}, {"s", "a/b/c", 409}, {"s", "a/b", 204}, {"s", "x", 204}, {"a", "s", 204}, {"a", "s/t", 409},
	} {
		for _, a := range farAsks(l, x.from, x.to, true, 3) {
			if x.code == 409 {
				wantRefused(t, a, 409)
				continue
			}
			got, code := a.ask()
			if code != x.code || !impl.TreeOk(got) || len(impl.DeepOf(got, a.to)) != len(impl.DeepOf(l, a.from)) {
				t.Errorf("%s of %s to %s is %+v, %d", a.op, x.from, x.to, got, code)
			}
		}
	}
	// The last of what is copied goes too deep, all ahead of it does not.
	l = []impl.Res{shelf("a"), file("a/a"), file("a/b"), shelf("a/c"), file("a/c/d"), shelf("s"), shelf("s/t")}
	for _, a := range farAsks(l, "a", "s/t/u", true, 3) {
		wantRefused(t, a, 409)
	}
	wantTurn(t, farAsks(less(l, "a/c/d"), "a", "s/t/u", true, 3)[1], 201, []impl.Res{
		shelf("s"), shelf("s/t"), {Path: path("s/t/u"), Coll: true, Ver: 3}, {Path: path("s/t/u/a"), Ver: 3}, {Path: path("s/t/u/b"), Ver: 3}, {Path: path("s/t/u/c"), Coll: true, Ver: 3},
	})
}

func TestHowManyThingsAreCopied(t *testing.T) {
	full := fullTree()
	for _, a := range []turnAsk{
		farAsks(full, "a-", "q", true, 11)[0], farAsks(full, "a/b", "ab/c", true, 11)[0], farAsks(full, "a/c", "q", true, 11)[0],
		// One more comes than goes.
		farAsks(full, "ab", "c", true, 11)[0], farAsks(full, "a/c", "ab", true, 11)[0], farAsks(full, "a/c", "b", true, 11)[0],
	} {
		wantRefused(t, a, 507)
	}
	wantTurn(t, farAsks(full, "ab", "b", true, 11)[0], 204, with(less(full, "b", "b/f"), resAt(full, "ab", "b", 11), resAt(full, "ab/b", "b/b", 11)))
	wantTurn(t, farAsks(full, "ab", "a", true, 11)[0], 204, with(less(full, "a", "a/b", "a/c", "a/c/d", "a/c/d/e", "a/cd"), resAt(full, "ab", "a", 11), resAt(full, "ab/b", "a/b", 11)))
	wantTurn(t, farAsks(full, "a-", "c", true, 11)[0], 204, with(less(full, "c"), resAt(full, "a-", "c", 11)))
	wantTurn(t, farAsks(full, "a-", "a/b", true, 11)[0], 204, with(less(full, "a/b"), resAt(full, "a-", "a/b", 11)))
	// A move has no more things behind it than ahead.
	wantTurn(t, farAsks(full, "a-", "q", true, 11)[1], 201, with(less(full, "a-"), resAt(full, "a-", "q", 11)))
	wantTurn(t, farAsks(full, "ab", "b/q", false, 11)[1], 201, with(less(full, "ab", "ab/b"), resAt(full, "ab", "b/q", 11), resAt(full, "ab/b", "b/q/b", 11)))
	wantTurn(t, farAsks(full, "a/c", "ab", true, 11)[1], 204, with(less(full, "ab", "ab/b", "a/c", "a/c/d", "a/c/d/e"), resAt(full, "a/c", "ab", 11), resAt(full, "a/c/d", "ab/d", 11), resAt(full, "a/c/d/e", "ab/d/e", 11)))
	// Of each number of things, some of which are copied.
	for n := 1; n <= impl.MaxRes; n++ {
		for deep := 1; deep <= n; deep++ {
			l := []impl.Res{shelf("a")}
			for i := 1; i < deep; i++ {
				l = append(l, file("a/"+impl.NumText(100+i)))
			}
			for i := deep; i < n; i++ {
				l = append(l, file("b"+impl.NumText(100+i)))
			}
			asks := farAsks(l, "a", "q", false, 1)
			x, code := asks[0].ask()
			if n+deep > impl.MaxRes {
				wantRefused(t, asks[0], 507)
			} else if code != 201 || len(x) != n+deep {
				t.Errorf("%d of %d copied: %+v, %d", deep, n, x, code)
			}
			if x, code := asks[1].ask(); code != 201 || len(x) != n {
				t.Errorf("%d of %d moved: %+v, %d", deep, n, x, code)
			}
		}
	}
}

// Each has two reasons, of which the first counts.
func TestWhichReasonCounts(t *testing.T) {
	long := strings.Repeat("x", impl.MaxBody+1)
	some, full := someTree(), fullTree()
	crowded := append(deepShelves(), file("y"), file("z"), file("z0"), file("z1"))
	wantTree(t, crowded...)
	// 405: the root or a shelf, ahead of a body that is too long, and of too many.
	for _, p := range []string{"", "a", "a/c", "b"} {
		wantRefused(t, putAsk(some, p, long, 1), 405)
		wantRefused(t, putAsk(full, p, "", 1), 405)
		wantRefused(t, putAsk(full, p, long, 1), 405)
		wantRefused(t, makeAsk(full, p, 1), 405)
	}
	wantRefused(t, makeAsk(full, "a/b", 1), 405)
	// 409 ahead of 413, and of too many.
	for _, p := range []string{"a-/x", "q/x", "a/b/x"} {
		wantRefused(t, putAsk(some, p, long, 1), 409)
		wantRefused(t, putAsk(full, p, "", 1), 409)
		wantRefused(t, putAsk(full, p, long, 1), 409)
		wantRefused(t, makeAsk(full, p, 1), 409)
	}
	// 413 ahead of too many.
	wantRefused(t, putAsk(full, "q", long, 1), 413)
	wantRefused(t, putAsk(full, "a/q", long, 1), 413)
	for i := range 2 {
		for _, x := range []struct {
			l    []impl.Res
			from string
			to   string
			code int
		}{
			{some, "q", "", 404}, {some, "q", "q", 404}, {some, "q", "q/r", 404}, {some, "q/r", "q", 404}, {some, "a/q", "a", 404}, // and 403
			{some, "q", "a", 404}, {some, "q", "a/b", 404}, // and 412
			{some, "q", "a-/x", 404}, {some, "q", "r/s", 404}, // and 409
			{some, "a/b", "a", 403}, {some, "a", "a/b", 403}, {some, "a", "a", 403}, {some, "a/b", "", 403}, {some, "", "a", 403}, // and 412
			{some, "a-", "a-/x", 403}, {some, "a", "a/b/x", 403}, {some, "a", "a/q/r", 403}, {some, "", "q/r", 403}, // and 409
			{crowded, "a/b", "a/b/c/q", 403}, {crowded, "s", "s/t/u/v", 403}, // and too long a path
			{full, "a", "a/q", 403}, {full, "", "q", 403}, {full, "a/c", "a/c/q", 403}, // and too many
			{crowded, "s", "a/b/c", 412}, {crowded, "a", "s/t", 412}, {crowded, "s/t", "a/b/c/d", 412}, // and too long a path
			{full, "a/c", "b", 412}, {full, "ab", "c", 412}, // and too many
			{full, "a-", "q/r", 409}, {full, "a", "a-/r", 409}, {full, "a/c", "q/r", 409}, // and too many
			{crowded, "a", "s/q", 409}, {crowded, "s", "a/b/q", 409}, // too long a path, and too many
		} {
			wantRefused(t, farAsks(x.l, x.from, x.to, false, 1)[i], x.code)
			if x.code != 412 {
				wantRefused(t, farAsks(x.l, x.from, x.to, true, 1)[i], x.code)
			}
		}
	}
}

func TestWide(t *testing.T) {
	for _, x := range []struct {
		l    []impl.Res
		want int
	}{
		{nil, 0}, {[]impl.Res{}, 0}, {[]impl.Res{shelf("a"), shelf("b")}, 0}, {[]impl.Res{file("a")}, 0}, {[]impl.Res{{Path: path("a"), Body: "x"}}, 1}, {someTree(), 7}, {fullTree(), 12}, {someTree()[:5], 3},
		{[]impl.Res{{Path: path("a"), Body: "\u00e9\x00\xff\r\n"}}, 6},
		{slices.Repeat([]impl.Res{{Path: path("a"), Body: strings.Repeat("x", impl.MaxBody)}}, impl.MaxRes), impl.MaxBody * impl.MaxRes},
		// Lists that are no tree: all bodies count.
		{[]impl.Res{{Body: "abc"}, {Path: path("a/b"), Coll: true, Body: "de"}, {Path: []string{""}, Body: strings.Repeat("x", 1000), Ver: -1}, {Path: path("a/b"), Body: "f"}}, 1006},
		{slices.Repeat([]impl.Res{{Path: path("a"), Body: "xy"}}, 1000), 2000},
		{[]impl.Res{{Path: []string{"abc"}, Props: []impl.Prop{{Ns: "u", Name: "n", Val: "v"}}, Ver: 99}}, 0},
	} {
		if n := impl.Wide(x.l); n != x.want {
			t.Errorf("Wide(%+v) is %d, not %d", x.l, n, x.want)
		}
	}
	if impl.Wide(someTree()[:2][:1]) != 0 {
		t.Error("what lies behind the length is read")
	}
	l := roomyTree()
	kept := wholeTree(l)
	impl.Wide(l)
	if !sameTreeByParts(wholeTree(l), kept) {
		t.Error("an argument is turned")
	}
}

// asksOfRoomyTree has, of each function, some that are done and some that are
// refused.
func asksOfRoomyTree() []turnAsk {
	body := strings.Repeat("body", 5)
	asks := []turnAsk{
		putAsk(nil, "a/b", body, 11), putAsk(nil, "a/q", body, 11), putAsk(nil, "q", body, 11), putAsk(nil, "A", body, 11), putAsk(nil, "a", body, 11), putAsk(nil, "", body, 11), putAsk(nil, "q/r", body, 11), putAsk(nil, "q", body, -1), putAsk(nil, "q", strings.Repeat(body, 11), 1),
		makeAsk(nil, "q", 11), makeAsk(nil, "a/c/q", 11), makeAsk(nil, "a", 11), makeAsk(nil, "q/r", 11),
		removeAsk(nil, "a"), removeAsk(nil, "a/c"), removeAsk(nil, "b"), removeAsk(nil, ""), removeAsk(nil, "q"),
	}
	for _, p := range [][2]string{{"ab", "q"}, {"a/b", "q"}, {"a/b", "a-"}, {"ab", "a/c"}, {"a/c", "ab"}, {"b", "a"}, {"a/c/d", "b/q"}, {"a", "q"}, {"a", "a/q"}, {"q", "r"}, {"a-", "q/r"}, {"", "q"}} {
		asks = append(asks, farAsks(nil, p[0], p[1], true, 11)...)
		asks = append(asks, farAsks(nil, p[0], p[1], false, 11)...)
	}
	for _, op := range allOps {
		asks = append(asks, turnAsk{op: op, from: []string{"a"}, to: []string{"no/name"}, body: body}, turnAsk{op: op, from: []string{"no/name"}, to: []string{"no/name"}, body: body})
	}
	return asks
}

// roomyPath has room behind it, with something in it that is not to be turned.
func roomyPath(p []string) []string {
	names := []string{}
	for _, name := range p {
		names = append(names, strings.Clone(name))
	}
	return append(names, "room", "behind")[:len(p)]
}

func wantRoomKept(t *testing.T, a turnAsk, kept []impl.Res, from []string, to []string) {
	t.Helper()
	if !sameTreeByParts(wholeTree(a.l), kept) {
		t.Errorf("%s turns its argument: %+v", a.op, wholeTree(a.l))
	}
	room := []string{"room", "behind"}
	if !slices.Equal(a.from[:len(a.from)+2], slices.Concat(from, room)) || !slices.Equal(a.to[:len(a.to)+2], slices.Concat(to, room)) {
		t.Errorf("%s turns a path that it is handed: %q, %q", a.op, a.from[:len(a.from)+2], a.to[:len(a.to)+2])
	}
}

func wantNothingBehind(t *testing.T, l []impl.Res) {
	t.Helper()
	for _, r := range l[len(l):cap(l)] {
		if !sameResByParts(r, impl.Res{}) {
			t.Errorf("%+v is handed out behind the list", r)
		}
	}
	for _, r := range l {
		for _, name := range r.Path[len(r.Path):cap(r.Path)] {
			if name != "" {
				t.Errorf("%q is handed out behind a path", name)
			}
		}
		for _, p := range r.Props[len(r.Props):cap(r.Props)] {
			if p != (impl.Prop{}) {
				t.Errorf("%+v is handed out behind what is known of a thing", p)
			}
		}
	}
}

// wantNewMemory asks three times: one answer is held against the argument, one
// against itself, and one is kept.
func wantNewMemory(t *testing.T, a turnAsk) {
	t.Helper()
	from, to := slices.Clone(a.from), slices.Clone(a.to)
	a.from, a.to = roomyPath(a.from), roomyPath(a.to)
	kept := wholeTree(a.l)
	l, code := a.ask()
	one, _ := a.ask()
	again, _ := a.ask()
	want := deepTree(l)
	wantRoomKept(t, a, kept, from, to)
	wantNoneShared(t, slices.Concat(textsOfTree(a.l), a.from, a.to, []string{a.body}), textsOfTree(l))
	wantNothingBehind(t, l)
	for i := range one {
		spoilRes(one[i])
		if !sameTreeByParts(one[i+1:], want[i+1:]) {
			t.Fatalf("%+v, %d: two lists of one answer share: %+v", a, code, one)
		}
	}
	for i, r := range l {
		spoilRes(r)
		l[i] = impl.Res{Body: "spoilt"}
	}
	for i := range l[:cap(l)] {
		l[:cap(l)][i] = impl.Res{Body: "spoilt"}
	}
	wantRoomKept(t, a, kept, from, to)
	for i, r := range a.l {
		spoilRes(r)
		a.l[i] = impl.Res{Body: "spoilt"}
	}
	spoilNames(a.from)
	spoilNames(a.to)
	if !sameTreeByParts(again, want) {
		t.Errorf("%+v: what was answered turns: %+v", a, again)
	}
}

func TestTurnsAnswerNewMemory(t *testing.T) {
	codes := map[string]int{}
	for _, a := range asksOfRoomyTree() {
		a.l = roomyTree()
		_, code := a.ask()
		codes[a.op+impl.NumText(code/100)]++
		wantNewMemory(t, a)
		// Of what is no tree, too.
		a.l = roomyTree()
		a.l[3], a.l[4] = a.l[4], a.l[3]
		wantRefused(t, a, 500)
		wantNewMemory(t, a)
	}
	for _, op := range allOps {
		if codes[op+"2"] < 2 || codes[op+"4"] < 2 {
			t.Errorf("%s: %v", op, codes)
		}
	}
}

// Two things of a tree may share a list, and be handed in as a path; what is
// answered shares none.
func TestTurnsOfListsThatAreShared(t *testing.T) {
	names, props := []string{"a", "b", "c"}, []impl.Prop{{Name: "p"}, {Name: "q"}}
	for _, op := range allOps {
		l := []impl.Res{{Path: names[:1], Coll: true, Props: props}, {Path: names[:2], Coll: true, Props: props[:1]}, {Path: names[1:2], Coll: true, Props: props}, {Path: names[2:], Body: "x", Props: props}}
		kept := deepTree(l)
		for _, a := range []turnAsk{{op: op, l: l, from: names[1:2], to: names, over: true}, {op: op, l: l, from: names[:1], to: names[2:], over: true}, {op: op, l: l, from: names[:1], to: names[2:]}} {
			x, _ := a.ask()
			want := deepTree(x)
			for i := range x {
				spoilRes(x[i])
				if !sameTreeByParts(x[i+1:], want[i+1:]) {
					t.Errorf("%+v: two lists of one answer share: %+v", a, x)
				}
			}
			if !sameTreeByParts(l, kept) {
				t.Errorf("%+v: what is written into the answer turns the argument", a)
			}
		}
	}
}

func TestTurnsLookAtTheirLengthAlone(t *testing.T) {
	room := []impl.Res{shelf("a"), file("b"), file("c"), file("b"), {}}
	wantTurn(t, putAsk(room[:2], "c", "x", 1), 201, []impl.Res{shelf("a"), file("b"), {Path: path("c"), Body: "x", Ver: 1}})
	wantTurn(t, makeAsk(room[:1], "b", 1), 201, []impl.Res{shelf("a"), {Path: path("b"), Coll: true, Ver: 1}})
	wantRefused(t, removeAsk(room[:2], "c"), 404)
	names := []string{"a", "b", "c", "d", "e"}
	wantTurn(t, turnAsk{op: makeOp, l: room[:2], to: names[:2]}, 201, []impl.Res{shelf("a"), shelf("a/b"), file("b")})
	wantRefused(t, turnAsk{op: makeOp, l: room[:2], to: names}, 400)
	for i, want := range [][]impl.Res{{shelf("a"), file("b"), file("c"), shelf("d")}, {file("b"), file("c"), shelf("d")}} {
		a := farAsks(room[:3], "", "", false, 0)[i]
		a.from, a.to = names[:1], names[3:4]
		wantTurn(t, a, 201, want)
	}
	if !sameTreeByParts(room, []impl.Res{shelf("a"), file("b"), file("c"), file("b"), {}}) || !slices.Equal(names, []string{"a", "b", "c", "d", "e"}) {
		t.Errorf("what lies behind the length is written: %+v, %q", room, names)
	}
}

// A reason is a code, and whether it holds.
type reason struct {
	code  int
	holds bool
}

func pathByWords(p []string) bool {
	return len(p) <= 4 && !slices.ContainsFunc(p, func(s string) bool {
		return len(s) < 1 || len(s) > 8 || s == "." || s == ".." || strings.ContainsFunc(s, func(r rune) bool { return r < 32 || r > 126 || r == '/' })
	})
}

// reasonsByWords has all that the document names, in its order. Here things
// are told by the keys of their paths.
func (a turnAsk) reasonsByWords(there map[string]impl.Res) []reason {
	from, to := keyOf(a.from), keyOf(a.to)
	isShelf := func(key string) bool { return key == "" || there[key].Coll }
	isThere := func(key string) bool { _, ok := there[key]; return key == "" || ok }
	on := keyOf(a.to[:max(len(a.to)-1, 0)])
	under := func(key string) int {
		n := 0
		for k := range there {
			if strings.HasPrefix(k, key) {
				n++
			}
		}
		return n
	}
	deepest := 0
	for k := range there {
		if strings.HasPrefix(k, from) {
			deepest = max(deepest, strings.Count(k, "\x00")-len(a.from))
		}
	}
	one := 0
	if !isThere(to) {
		one = 1
	}
	l := []reason{{500, !treeByWords(a.l)}, {400, !pathByWords(a.to) || a.isFar() && !pathByWords(a.from)}, {507, a.op != removeOp && (a.ver < 0 || a.ver > mostVer)}}
	switch a.op {
	case putOp:
		return append(l, reason{405, isShelf(to)}, reason{409, !isShelf(on)}, reason{413, len(a.body) > 200}, reason{507, len(there)+one > mostRes})
	case makeOp:
		return append(l, reason{405, isThere(to)}, reason{409, !isShelf(on)}, reason{507, len(there)+1 > mostRes})
	case removeOp:
		return append(l, reason{403, to == ""}, reason{404, !isThere(to)})
	}
	comes := len(there) - under(to) + under(from)
	if a.op == moveOp {
		comes -= under(from)
	}
	return append(l, reason{404, !isThere(from)}, reason{403, from == "" || to == "" || strings.HasPrefix(from, to) || strings.HasPrefix(to, from)}, reason{412, isThere(to) && !a.over}, reason{409, !isShelf(on) || len(a.to)+deepest > 4}, reason{507, comes > mostRes})
}

// doneByWords is of what nothing refuses.
func (a turnAsk) doneByWords(there map[string]impl.Res) {
	from, to := keyOf(a.from), keyOf(a.to)
	comes := map[string]impl.Res{}
	switch a.op {
	case putOp:
		comes[to] = impl.Res{Path: a.to, Body: a.body, Ver: a.ver, Props: there[to].Props}
	case makeOp:
		comes[to] = impl.Res{Path: a.to, Coll: true, Ver: a.ver}
	case copyOp, moveOp:
		for k, r := range there {
			if tail, ok := strings.CutPrefix(k, from); ok {
				comes[to+tail] = impl.Res{Path: append(slices.Clone(a.to), r.Path[len(a.from):]...), Coll: r.Coll, Body: r.Body, Ver: a.ver, Props: r.Props}
			}
		}
	}
	maps.DeleteFunc(there, func(k string, _ impl.Res) bool {
		return strings.HasPrefix(k, to) || a.op == moveOp && strings.HasPrefix(k, from)
	})
	maps.Copy(there, comes)
}

// byWords gives how many reasons hold, too.
func (a turnAsk) byWords() ([]impl.Res, int, int) {
	there := map[string]impl.Res{}
	for _, r := range a.l {
		there[keyOf(r.Path)] = r
	}
	first, all := 0, 0
	for _, x := range a.reasonsByWords(there) {
		if x.holds {
			all++
			first = cmp.Or(first, x.code)
		}
	}
	if first != 0 {
		return a.l, first, all
	}
	code := 201
	if _, ok := there[keyOf(a.to)]; ok {
		code = 204
	}
	a.doneByWords(there)
	l := []impl.Res{}
	for _, k := range slices.Sorted(maps.Keys(there)) {
		l = append(l, there[k])
	}
	return l, code, all
}

// A tally counts what was asked by function and code, and how often more than
// one reason held.
type tally map[string]int

func (n tally) wantAsByWords(t *testing.T, a turnAsk) []impl.Res {
	t.Helper()
	want, code, all := a.byWords()
	l, c := a.ask()
	if c != code || !sameTreeByParts(l, want) {
		t.Fatalf("%+v is %+v, %d, not %+v, %d", a, l, c, want, code)
	}
	n[a.op+" "+impl.NumText(code)]++
	if all > 1 {
		n[a.op+" of several reasons"]++
	}
	return l
}

func (n tally) wantAtLeast(t *testing.T, least int, codes map[string][]string) {
	t.Helper()
	for op, l := range codes {
		for _, code := range l {
			if n[op+" "+code] < least {
				t.Errorf("%s %s was seen %d times", op, code, n[op+" "+code])
			}
		}
	}
}

func TestAllSmallTurns(t *testing.T) {
	asked := allPaths([]string{"a", "ab", "b"}, 2)
	things := []impl.Res{}
	for _, p := range allPaths([]string{"a", "ab"}, 2)[1:] {
		things = append(things, impl.Res{Path: p, Coll: true, Ver: 1, Props: []impl.Prop{{Name: "s"}}}, impl.Res{Path: p, Body: keyOf(p), Ver: 2, Props: []impl.Prop{{Name: "p", Val: "1"}}})
	}
	slices.SortStableFunc(things, func(a impl.Res, b impl.Res) int { return strings.Compare(keyOf(a.Path), keyOf(b.Path)) })
	lists := [][]impl.Res{nil}
	for _, r := range things {
		for _, l := range lists {
			if longer := append(slices.Clone(l), r); treeByWords(longer) {
				lists = append(lists, longer)
			}
		}
	}
	n := tally{}
	for _, l := range lists {
		for _, to := range asked {
			n.wantAsByWords(t, turnAsk{op: putOp, l: l, to: to, body: "new", ver: 9})
			n.wantAsByWords(t, turnAsk{op: makeOp, l: l, to: to, ver: 9})
			n.wantAsByWords(t, turnAsk{op: removeOp, l: l, to: to})
			for _, from := range asked {
				for _, over := range []bool{false, true} {
					n.wantAsByWords(t, turnAsk{op: copyOp, l: l, from: from, to: to, over: over, ver: 9})
					n.wantAsByWords(t, turnAsk{op: moveOp, l: l, from: from, to: to, over: over, ver: 9})
				}
			}
		}
	}
	n.wantAtLeast(t, 50, map[string][]string{
		putOp:    {"201", "204", "405", "409"},
		makeOp:   {"201", "405", "409"},
		removeOp: {"204", "403", "404"},
		copyOp:   {"201", "204", "403", "404", "409", "412"},
		moveOp:   {"201", "204", "403", "404", "409", "412"},
	})
	if len(lists) < 50 {
		t.Errorf("%d small trees", len(lists))
	}
}

func drawPath(draw *rand.Rand, l []impl.Res) []string {
	names := []string{"a", "ab", "abc", "a-", "b", "a b", "q"}
	if draw.IntN(60) == 0 {
		return pathsThatAreWrong()[draw.IntN(len(pathsThatAreWrong()))]
	}
	p := []string{}
	if len(l) > 0 && draw.IntN(6) > 0 {
		p = slices.Clone(l[draw.IntN(len(l))].Path)
	}
	if draw.IntN(2) == 0 {
		p = append(p, names[draw.IntN(len(names))])
	}
	if len(p) > 1 && draw.IntN(3) == 0 {
		p[len(p)-1] = names[draw.IntN(len(names))]
	}
	return p
}

func drawTurn(draw *rand.Rand, l []impl.Res) turnAsk {
	a := turnAsk{op: allOps[draw.IntN(len(allOps))], l: l, from: drawPath(draw, l), to: drawPath(draw, l), over: draw.IntN(2) == 0, body: drawPlain(draw, 0, 9), ver: draw.IntN(mostVer + 1)}
	if draw.IntN(20) == 0 {
		a.ver = []int{-1, 0, mostVer, mostVer + 1}[draw.IntN(4)]
	}
	if draw.IntN(20) == 0 {
		a.body = strings.Repeat("\xff", impl.MaxBody+draw.IntN(2))
	}
	return a
}

func codesOfTurns() map[string][]string {
	return map[string][]string{
		putOp:    {"201", "204", "400", "405", "409", "413", "507", "of several reasons"},
		makeOp:   {"201", "400", "405", "409", "507", "of several reasons"},
		removeOp: {"204", "400", "403", "404"},
		copyOp:   {"201", "204", "400", "403", "404", "409", "412", "507", "of several reasons"},
		moveOp:   {"201", "204", "400", "403", "404", "409", "412", "507", "of several reasons"},
	}
}

func TestDrawnTurns(t *testing.T) {
	draw := rand.New(rand.NewPCG(11, 1))
	n := tally{}
	for range 60000 {
		l := drawTree(draw)
		if draw.IntN(3) == 0 {
			l = fullTree()
		}
		if draw.IntN(50) == 0 && len(l) > 1 {
			i := draw.IntN(len(l) - 1)
			l[i], l[i+1] = l[i+1], l[i]
		}
		n.wantAsByWords(t, drawTurn(draw, l))
	}
	n.wantAtLeast(t, 20, codesOfTurns())
	for _, op := range allOps {
		n.wantAtLeast(t, 20, map[string][]string{op: {"500"}})
	}
}

// Whatever comes, each thing is on a shelf, and what is refused turns nothing.
func TestTurnsOneBehindTheOther(t *testing.T) {
	draw := rand.New(rand.NewPCG(11, 2))
	n := tally{}
	for range 300 {
		l := []impl.Res{}
		for range 200 {
			a := drawTurn(draw, l)
			l = n.wantAsByWords(t, a)
			if !treeByWords(l) || !impl.TreeOk(l) {
				t.Fatalf("%+v makes what is no tree: %+v", a, l)
			}
		}
	}
	n.wantAtLeast(t, 20, codesOfTurns())
}

func withoutVers(l []impl.Res) []impl.Res {
	l = deepTree(l)
	for i := range l {
		l[i].Ver = 0
	}
	return l
}

func TestTurnsThatAreTakenBack(t *testing.T) {
	draw := rand.New(rand.NewPCG(11, 3))
	taken := 0
	for range 20000 {
		a := drawTurn(draw, drawTree(draw))
		l, code := a.ask()
		if code != 201 {
			continue
		}
		taken++
		if a.op == moveOp {
			// What is moved back is there as it was, but for its versions.
			back, c := impl.MoveTree(l, a.to, a.from, false, 0)
			if c != 201 || !sameTreeByParts(withoutVers(back), withoutVers(a.l)) || impl.Wide(l) != impl.Wide(a.l) {
				t.Fatalf("%+v, back: %+v, %d", a, back, c)
			}
			continue
		}
		// What is new is gone again, and all else was left.
		back, c := impl.Remove(l, a.to)
		if c != 204 || !sameTreeByParts(back, a.l) {
			t.Fatalf("%+v, gone again: %+v, %d", a, back, c)
		}
		if comes := impl.DeepOf(l, a.to); impl.Wide(l) != impl.Wide(a.l)+impl.Wide(comes) {
			t.Fatalf("%+v: Wide is %d", a, impl.Wide(l))
		}
	}
	if taken < 1000 {
		t.Errorf("%d were taken", taken)
	}
}

func TestWhatTurnsRefuseLeavesNothingBehind(t *testing.T) {
	good := farAsks(someTree(), "ab", "q", false, 11)
	want := []impl.Res{resAt(someTree(), "ab", "q", 11), resAt(someTree(), "ab/b", "q/b", 11)}
	for _, a := range asksOfRoomyTree() {
		a.l = someTree()
		a.ask()
		wantTurn(t, good[0], 201, with(someTree(), want...))
		wantTurn(t, good[1], 201, with(less(someTree(), "ab", "ab/b"), want...))
	}
}

// One after the other falls through to the next look.
func TestLooksFallThrough(t *testing.T) {
	f, err := parser.ParseFile(token.NewFileSet(), "../impl/l11_ops.go", nil, parser.SkipObjectResolution)
	if err != nil {
		t.Fatal(err)
	}
	falls := 0
	ast.Inspect(f, func(n ast.Node) bool {
		if b, ok := n.(*ast.BranchStmt); ok && b.Tok == token.FALLTHROUGH {
			falls++
		}
		return true
	})
	if falls == 0 {
		t.Error("no look of l11_ops.go falls through to the next")
	}
}
