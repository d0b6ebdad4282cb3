package tests

import (
	"go/ast"
	"go/parser"
	"go/token"
	"math"
	"math/rand/v2"
	"slices"
	"strconv"
	"strings"
	"testing"

	"loop.example/g00452/impl"
)

const mostDraws = 20

// someSrv has something of each kind; its Ver, which is passed by no other, is
// one above the highest of its things.
func someSrv() impl.Srv {
	return impl.Srv{T: someTree(), L: someLocks("5:a/b*@10 60:a-+@20 7:a-*+@30"), Now: 4, Ver: mostVer + 1, Draws: []int{8, 0, -3, 60, 8}, Used: []int{2, 5, 7, 60, 9999}}
}

func deepSrv(s impl.Srv) impl.Srv {
	return impl.Srv{T: deepTree(s.T), L: deepLocks(s.L), Now: s.Now, Ver: s.Ver, Draws: slices.Clone(s.Draws), Used: slices.Clone(s.Used)}
}

func sameSrvByParts(a impl.Srv, b impl.Srv) bool {
	return sameTreeByParts(a.T, b.T) && sameLocks(a.L, b.L) && a.Now == b.Now && a.Ver == b.Ver && slices.Equal(a.Draws, b.Draws) && slices.Equal(a.Used, b.Used)
}

// withT and its like are a someSrv, but for one part.
func withT(ver int, t ...impl.Res) impl.Srv {
	s := someSrv()
	s.T, s.Ver = t, ver
	return s
}

func withL(l string, used ...int) impl.Srv {
	s := someSrv()
	s.L, s.Used = someLocks(l), used
	return s
}

func withNow(n int) impl.Srv {
	s := someSrv()
	s.Now = n
	return s
}

func withVer(n int) impl.Srv {
	s := impl.SrvNew()
	s.Ver = n
	return s
}

func withDraws(draws ...int) impl.Srv {
	s := someSrv()
	s.Draws = draws
	return s
}

func withUsed(used ...int) impl.Srv {
	s := impl.SrvNew()
	s.Used = used
	return s
}

func wantSrv(t *testing.T, s impl.Srv, want bool) {
	t.Helper()
	kept := deepSrv(s)
	if impl.SrvOk(s) != want {
		t.Errorf("SrvOk(%+v) is %v", s, !want)
	}
	if srvByWords(s) != want {
		t.Errorf("by the words, %+v is not %v", s, want)
	}
	if !sameSrvByParts(s, kept) {
		t.Errorf("SrvOk turns its argument: %+v", s)
	}
}

// srvByWords asks each part by itself, in another order than the program does.
func srvByWords(s impl.Srv) bool {
	was, used := 0, map[int]bool{}
	for _, n := range s.Used {
		if n <= was || n > 9999 {
			return false
		}
		was, used[n] = n, true
	}
	if s.Now < 0 || s.Now > 9999999 || s.Ver < 1 || s.Ver > 100000 || len(s.Draws) > 20 || !treeByWords(s.T) || !locksByWords(s.L) {
		return false
	}
	for _, x := range s.L {
		if !used[x.Token] {
			return false
		}
	}
	for _, r := range s.T {
		if r.Ver >= s.Ver {
			return false
		}
	}
	return true
}

func TestSrvNew(t *testing.T) {
	s := impl.SrvNew()
	wantSrv(t, s, true)
	if !sameSrvByParts(s, impl.Srv{Ver: 1}) {
		t.Errorf("SrvNew is %+v", s)
	}
	if _, ok := impl.TagAt(s, nil); !ok {
		t.Error("the root of SrvNew is not there")
	}
	// What is written into one is in no other.
	s.T, s.L, s.Draws, s.Used = append(s.T, file("a")), append(s.L, oneLock("1:a")), append(s.Draws, 1), append(s.Used, 1)
	if x := impl.SrvNew(); !sameSrvByParts(x, impl.Srv{Ver: 1}) {
		t.Errorf("SrvNew is %+v then", x)
	}
	wantSrv(t, impl.Srv{}, false)
	wantSrv(t, someSrv(), true)
}

func TestSrvOkOfTrees(t *testing.T) {
	for _, l := range treesThatAreWrong() {
		wantSrv(t, withT(mostVer+1, l...), false)
		s := impl.SrvNew()
		s.T, s.Ver = l, mostVer+1
		wantSrv(t, s, false)
	}
	for _, l := range [][]impl.Res{nil, {}, someTree(), fullTree(), {shelf("a"), file("a/b")}} {
		wantSrv(t, withT(mostVer+1, l...), true)
		for i := range l {
			gone := slices.Delete(slices.Clone(l), i, i+1)
			wantSrv(t, withT(mostVer+1, gone...), treeByWords(gone))
			turned := slices.Clone(l)
			turned[0], turned[i] = turned[i], turned[0]
			wantSrv(t, withT(mostVer+1, turned...), i == 0)
		}
	}
}

func TestSrvOkOfVersOfThings(t *testing.T) {
	for _, ver := range []int{1, 2, 3, 9, 10, 500, mostVer - 1, mostVer, mostVer + 1} {
		wantSrv(t, withT(ver), true)
		for of := range 3 {
			for _, n := range []int{-1, 0, ver - 2, ver - 1, ver, ver + 1, mostVer, mostVer + 1} {
				l := []impl.Res{shelf("a"), file("a/b"), file("c")}
				l[of].Ver = n
				wantSrv(t, withT(ver, l...), n >= 0 && n < ver && n <= mostVer)
			}
		}
	}
	for n := range 200 {
		wantSrv(t, withT(100, impl.Res{Path: path("a"), Ver: n}), n < 100)
	}
}

func TestSrvOkOfLocks(t *testing.T) {
	for _, l := range []string{"", "1:a", "1:a 2:b", "5:x@0", "5:a@9999999", "1:a*+ 2:a/b+", "6:a 5:b 4:c 3:d 2:e 1:f", "9999:"} {
		wantSrv(t, withL(l, 1, 2, 3, 4, 5, 6, 7, 9999), true)
	}
	for _, l := range []string{"1:a 1:b", "1:a 2:a", "1:a* 2:a/b", "1:a+ 2:a", "1:a@10000000", "1:a@-1", "1:a+ 2:a+ 3:a+ 4:a+ 5:a+ 6:a+ 7:a+", "1:a/b/c/d/e", "1:.."} {
		wantSrv(t, withL(l, 1, 2, 3, 4, 5, 6, 7, 9999), false)
	}
	for _, wrong := range wrongLocks() {
		s := withUsed(1, 2, 77, 9999)
		s.L = []impl.Lock{wrong}
		wantSrv(t, s, false)
		s.L = []impl.Lock{oneLock("1:x"), wrong, oneLock("2:z")}
		wantSrv(t, s, false)
	}
	// A lock that is over is there still, and so is one of what is not there.
	s := withL("1:q@3 2:q/r@4 3:a@5", 1, 2, 3)
	s.Now = 4
	wantSrv(t, s, true)
}

func TestSrvOkOfTokensThatAreUsed(t *testing.T) {
	for _, x := range []struct {
		l    string
		used []int
		ok   bool
	}{
		{"", nil, true}, {"", []int{}, true}, {"", []int{1}, true}, {"5:a", []int{5}, true}, {"5:a", []int{1, 5, 9}, true}, {"5:a", []int{4, 5}, true}, {"5:a 1:b 9:c", []int{1, 5, 9}, true}, {"9999:a", []int{9999}, true}, {"1:a", []int{1, 9999}, true},
		{"5:a", nil, false}, {"5:a", []int{}, false}, {"5:a", []int{4}, false}, {"5:a", []int{6}, false}, {"5:a", []int{4, 6}, false}, {"5:a", []int{1, 2, 3, 4, 6, 7, 8, 9}, false}, {"5:a 6:b", []int{5}, false}, {"5:a 6:b", []int{6}, false}, {"5:a 6:b 7:c", []int{5, 7}, false}, {"1:a", []int{11, 111}, false}, {"5:a", []int{50, 500, 5000}, false},
		// Used itself is not right, so it is none, though the Token stands in it.
		{"5:a", []int{5, 5}, false}, {"5:a", []int{6, 5}, false}, {"5:a", []int{0, 5}, false}, {"5:a", []int{5, 10000}, false},
	} {
		wantSrv(t, withL(x.l, x.used...), x.ok)
	}
	// What lies behind is not looked at.
	used := []int{4, 5, 6}
	wantSrv(t, withL("5:a", used[:1]...), false)
	wantSrv(t, withL("5:a", used[:2]...), true)
	all := make([]int, 9999)
	for i := range all {
		all[i] = i + 1
	}
	wantSrv(t, withUsed(all...), true)
	wantSrv(t, withL("9999:a 1:b 5000:c", all...), true)
	wantSrv(t, withL("9999:a 1:b 5000:c", slices.Delete(slices.Clone(all), 4999, 5000)...), false)
}

func TestSrvOkOfUsed(t *testing.T) {
	for _, used := range [][]int{nil, {}, {1}, {2}, {9998}, {9999}, {1, 2}, {1, 9999}, {9998, 9999}, {1, 5, 6, 7, 100, 9999}} {
		wantSrv(t, withUsed(used...), true)
	}
	for _, used := range [][]int{{0}, {-1}, {10000}, {10001}, {math.MaxInt}, {math.MinInt}, {1<<32 + 1}, {0, 1}, {-1, 1}, {9999, 10000}, {1, 10000}, {0, 0}, {5, 5}, {5, 5, 6}, {5, 6, 6}, {4, 5, 5, 6}, {6, 5}, {1, 3, 2}, {3, 1, 2}, {9999, 1}, {1, 2, 0}, {1, 2, -3}, {1, 10000, 10001}} {
		wantSrv(t, withUsed(used...), false)
	}
	for n := -30; n < mostToken+30; n++ {
		if s := withUsed(n); impl.SrvOk(s) != (n >= 1 && n <= 9999) {
			t.Errorf("SrvOk of Used %d is wrong", n)
		}
	}
	for a := range 5 {
		for b := range 5 {
			for c := range 5 {
				wantSrv(t, withUsed(a, b, c), 0 < a && a < b && b < c)
			}
		}
	}
}

func TestSrvOkOfNumbers(t *testing.T) {
	for _, n := range []int{0, 1, 2, 9, 100, mostToken + 1, mostTime - 1, mostTime} {
		wantSrv(t, withNow(n), true)
	}
	for _, n := range []int{-1, -2, -mostTime, mostTime + 1, mostTime + 2, 1 << 32, math.MaxInt, math.MinInt} {
		wantSrv(t, withNow(n), false)
	}
	for _, n := range []int{1, 2, 9, mostVer - 1, mostVer, mostVer + 1} {
		wantSrv(t, withVer(n), true)
	}
	for _, n := range []int{0, -1, -2, mostVer + 2, mostVer + 3, 1<<32 + 1, math.MaxInt, math.MinInt} {
		wantSrv(t, withVer(n), false)
	}
}

func TestSrvOkOfDraws(t *testing.T) {
	any := []int{0, -1, math.MinInt, math.MaxInt, 10000, 5, 5, 60, 1, 2, 3, 3, 2, 1, 99999, -7, 0, 0, 2, 4, 1, 1, 1, 1}
	for n := range len(any) + 1 {
		wantSrv(t, withDraws(any[:n]...), n <= mostDraws)
		wantSrv(t, withDraws(make([]int, n)...), n <= mostDraws)
	}
	wantSrv(t, withDraws(make([]int, 5000)...), false)
	wantSrv(t, withDraws(slices.Repeat([]int{5}, mostDraws)...), true)
}

func TestSrvOkLooksAtItsLengthAlone(t *testing.T) {
	s := roomySrv()
	wantSrv(t, s, true)
	s.T = s.T[:len(s.T)+2]
	wantSrv(t, s, false)
	s = roomySrv()
	s.L = s.L[:len(s.L)+2]
	wantSrv(t, s, false)
	s = roomySrv()
	s.Used = s.Used[:len(s.Used)+2]
	wantSrv(t, s, false)
	s = roomySrv()
	s.Draws = append(s.Draws, make([]int, 16)...)
	wantSrv(t, s, false)
	s.Draws = s.Draws[:3]
	wantSrv(t, s, true)
}

// srvsThatAreWrong have one reason each, the last one several.
func srvsThatAreWrong() []impl.Srv {
	l := []impl.Srv{
		{}, withT(mostVer, someTree()...), withT(7, impl.Res{Path: path("a"), Ver: 7}), withT(7, impl.Res{Path: path("a"), Ver: 8}),
		withL("5:a@3 5:b@9", 5), withL("5:a@3 6:a@9", 5, 6), withL("1:a@1 2:b@2 3:c@3 4:d@4 5:e@5 6:f@6 7:g@7", 1, 2, 3, 4, 5, 6, 7), withL("5:a@3"), withL("5:a@3 6:b@9", 5), withL("5:a@3 6:b@9", 6), withL("0:a@9", 5), withL("5:a@10000000 6:b@3", 5, 6),
		withUsed(0), withUsed(10000), withUsed(5, 5), withUsed(6, 5), withL("5:a@3", 5, 5), withL("5:a@3", 6, 5),
		withNow(-1), withNow(mostTime + 1), withNow(math.MinInt), withNow(math.MaxInt), withVer(0), withVer(-1), withVer(mostVer + 2), withVer(math.MinInt),
		withDraws(make([]int, mostDraws+1)...), withDraws(make([]int, 99)...),
	}
	for _, tree := range treesThatAreWrong() {
		l = append(l, withT(mostVer+1, tree...))
	}
	return append(l, impl.Srv{T: treesThatAreWrong()[0], L: someLocks("0:a 0:a"), Now: -5, Ver: -5, Draws: make([]int, 30), Used: []int{3, 2, 0}})
}

func wantTick(t *testing.T, s impl.Srv, n int, want impl.Srv) impl.Srv {
	t.Helper()
	kept, right := deepSrv(s), deepSrv(want)
	got := impl.Tick(s, n)
	if !sameSrvByParts(got, right) {
		t.Errorf("Tick(%+v, %d) is %+v, not %+v", s, n, got, right)
	}
	if !sameSrvByParts(s, kept) {
		t.Errorf("Tick turns its argument: %+v", s)
	}
	return got
}

func wantTickOf(t *testing.T, now int, l string, n int, then int, live string) {
	t.Helper()
	s, want := withL(l, 1, 2, 3, 4, 5, 6, 7), withL(live, 1, 2, 3, 4, 5, 6, 7)
	s.Now, want.Now = now, then
	wantTick(t, s, n, want)
}

func TestTick(t *testing.T) {
	for _, x := range []struct {
		now  int
		l    string
		n    int
		then int
		live string
	}{
		// None, one, several, in each order.
		{0, "", 0, 0, ""}, {0, "", 1, 1, ""}, {4, "", 9, 9, ""}, {0, "1:a@5", 4, 4, "1:a@5"}, {0, "1:a@5", 5, 5, ""}, {0, "1:a@5", 6, 6, ""}, {0, "1:a@5", 9999999, 9999999, ""},
		{0, "1:a@4 2:b@5 3:c@6", 5, 5, "3:c@6"}, {0, "3:c@6 2:b@5 1:a@4", 5, 5, "3:c@6"}, {0, "2:b@5 3:c@6 1:a@4", 4, 4, "2:b@5 3:c@6"}, {0, "1:a@9 2:b@2 3:c@8 4:d@3 5:e@7", 3, 3, "1:a@9 3:c@8 5:e@7"}, {0, "1:a*+@4 2:a/b*+@6 3:a+@5", 4, 4, "2:a/b*+@6 3:a+@5"},
		// As Now, or one above or below it.
		{5, "1:a@6", 5, 5, "1:a@6"}, {5, "1:a@6", 6, 6, ""}, {5, "1:a@6", 4, 5, "1:a@6"}, {5, "1:a@7", 6, 6, "1:a@7"},
		// Below Now: it stays, and what is over then is over.
		{9, "1:a@8 2:b@9 3:c@10", 8, 9, "3:c@10"}, {9, "1:a@8 2:b@9 3:c@10", 9, 9, "3:c@10"}, {9, "1:a@8 2:b@9 3:c@10", 0, 9, "3:c@10"}, {9, "3:c@10", -1, 9, "3:c@10"}, {9, "3:c@10", math.MinInt, 9, "3:c@10"}, {0, "3:c@10 1:a@0 2:b@1", -1, 0, "3:c@10 2:b@1"},
		// The last time, and past it.
		{0, "1:a@9999999 2:b@9999998", 9999998, 9999998, "1:a@9999999"}, {0, "1:a@9999999 2:b@9999998", 9999999, 9999999, ""}, {0, "1:a@9999999 2:b@9999998", 10000000, 0, "1:a@9999999 2:b@9999998"}, {0, "1:a@9999999 2:b@1", math.MaxInt, 0, "1:a@9999999 2:b@1"}, {3, "1:a@9999999 2:b@3 3:c@4", 10000000, 3, "1:a@9999999 3:c@4"}, {9999999, "1:a@9999999", 9999999, 9999999, ""}, {9999999, "", 10000000, 9999999, ""}, {9999999, "", 9999998, 9999999, ""}, {0, "1:a@5", 1<<32 + 1, 0, "1:a@5"},
	} {
		wantTickOf(t, x.now, x.l, x.n, x.then, x.live)
	}
	s := impl.SrvNew()
	for n := range 300 {
		s = wantTick(t, s, n, impl.Srv{Now: n, Ver: 1})
		wantTick(t, s, n-1, s)
		wantTick(t, s, mostTime+1+n, s)
	}
}

// What was Used by a lock that is over stays Used.
func TestTokensThatAreOverStayUsed(t *testing.T) {
	s := someSrv()
	for n := range 40 {
		s = impl.Tick(s, n)
		wantSrv(t, s, true)
		if !slices.Equal(s.Used, someSrv().Used) || !slices.Equal(s.Draws, someSrv().Draws) || !sameTreeByParts(s.T, someSrv().T) || s.Ver != someSrv().Ver {
			t.Errorf("Tick to %d turns other things: %+v", n, s)
		}
		want := 0
		for _, x := range someSrv().L {
			if x.Until > max(n, 4) {
				want++
			}
		}
		if len(s.L) != want {
			t.Errorf("at %d there are %+v", n, s.L)
		}
	}
}

func wantDraw(t *testing.T, s impl.Srv, n int, want impl.Srv) impl.Srv {
	t.Helper()
	kept, right := deepSrv(s), deepSrv(want)
	got := impl.Draw(s, n)
	if !sameSrvByParts(got, right) {
		t.Errorf("Draw(%+v, %d) is %+v, not %+v", s, n, got, right)
	}
	if !sameSrvByParts(s, kept) {
		t.Errorf("Draw turns its argument: %+v", s)
	}
	return got
}

func TestDraw(t *testing.T) {
	for _, n := range []int{0, 1, 5, 9, 9998, 9999, 10000, 10001, -1, -9999, 2, 60, math.MaxInt, math.MinInt, 1<<32 + 1} {
		wantDraw(t, impl.SrvNew(), n, impl.Srv{Ver: 1, Draws: []int{n}})
		wantDraw(t, withDraws(), n, withDraws(n))
		wantDraw(t, withDraws(n), n, withDraws(n, n))
		wantDraw(t, withDraws(7, 7, 6), n, withDraws(7, 7, 6, n))
		wantDraw(t, withDraws(make([]int, 18)...), n, withDraws(append(make([]int, 18), n)...))
		wantDraw(t, withDraws(make([]int, 19)...), n, withDraws(append(make([]int, 19), n)...))
		wantDraw(t, withDraws(make([]int, 20)...), n, withDraws(make([]int, 20)...))
		// The time does not go on by it: what is over stays.
		s := withL("1:a@3 2:b@4 3:c@5", 1, 2, 3)
		want := deepSrv(s)
		want.Draws = append(want.Draws, n)
		wantDraw(t, s, n, want)
	}
	s, want := someSrv(), someSrv()
	s.Draws, want.Draws = nil, nil
	for n := range 40 {
		if n < mostDraws {
			want.Draws = append(want.Draws, n*n-n)
		}
		s = wantDraw(t, s, n*n-n, want)
		wantSrv(t, s, true)
	}
}

func TestSrvsThatAreNotOkComeBack(t *testing.T) {
	for _, s := range srvsThatAreWrong() {
		if impl.SrvOk(s) || srvByWords(s) {
			t.Errorf("%+v is SrvOk", s)
		}
		for _, n := range []int{math.MinInt, -1, 0, 3, 4, 5, 8, 9, 10, 9999, mostTime, mostTime + 1, math.MaxInt} {
			wantTick(t, s, n, s)
			wantDraw(t, s, n, s)
		}
		// It leaves nothing behind.
		wantTick(t, impl.SrvNew(), 7, impl.Srv{Now: 7, Ver: 1})
		wantDraw(t, impl.SrvNew(), 7, impl.Srv{Ver: 1, Draws: []int{7}})
	}
}

func wantSame(t *testing.T, a impl.Srv, b impl.Srv, want bool) {
	t.Helper()
	keptA, keptB := deepSrv(a), deepSrv(b)
	if impl.SameSrv(a, b) != want || impl.SameSrv(b, a) != want {
		t.Errorf("SameSrv(%+v, %+v) is %v, and %v the other way", a, b, impl.SameSrv(a, b), impl.SameSrv(b, a))
	}
	if !sameSrvByParts(a, keptA) || !sameSrvByParts(b, keptB) {
		t.Errorf("SameSrv turns its arguments: %+v, %+v", a, b)
	}
}

// turnsOfOnePart each turn one part alone of a someSrv.
func turnsOfOnePart() []func(s *impl.Srv) {
	l := []func(s *impl.Srv){
		func(s *impl.Srv) { s.Now++ }, func(s *impl.Srv) { s.Now-- }, func(s *impl.Srv) { s.Ver-- }, func(s *impl.Srv) { s.Ver = 0 },
		func(s *impl.Srv) { s.T = nil }, func(s *impl.Srv) { s.L = nil }, func(s *impl.Srv) { s.Draws = nil }, func(s *impl.Srv) { s.Used = nil },
		func(s *impl.Srv) { s.T = s.T[:len(s.T)-1] }, func(s *impl.Srv) { s.T = s.T[1:] }, func(s *impl.Srv) { s.T = append(s.T, file("z")) }, func(s *impl.Srv) { s.T = append(s.T, impl.Res{}) }, func(s *impl.Srv) { slices.Reverse(s.T) },
		func(s *impl.Srv) { s.L = s.L[:len(s.L)-1] }, func(s *impl.Srv) { s.L = s.L[1:] }, func(s *impl.Srv) { s.L = append(s.L, oneLock("9:z")) }, func(s *impl.Srv) { s.L = append(s.L, impl.Lock{}) }, func(s *impl.Srv) { slices.Reverse(s.L) },
		func(s *impl.Srv) { s.Draws = s.Draws[:4] }, func(s *impl.Srv) { s.Draws = s.Draws[1:] }, func(s *impl.Srv) { s.Draws = append(s.Draws, 0) }, func(s *impl.Srv) { s.Draws[1], s.Draws[2] = s.Draws[2], s.Draws[1] },
		func(s *impl.Srv) { s.Used = s.Used[:4] }, func(s *impl.Srv) { s.Used = s.Used[1:] }, func(s *impl.Srv) { s.Used = append(s.Used, 0) }, func(s *impl.Srv) { slices.Reverse(s.Used) },
	}
	for i := range someSrv().Draws {
		l = append(l, func(s *impl.Srv) { s.Draws[i]++ }, func(s *impl.Srv) { s.Used[i]-- })
	}
	for i := range someSrv().T {
		l = append(l,
			func(s *impl.Srv) { s.T[i].Path[len(s.T[i].Path)-1] += "x" }, func(s *impl.Srv) { s.T[i].Path[0] = "A" }, func(s *impl.Srv) { s.T[i].Path = append(s.T[i].Path, "") }, func(s *impl.Srv) { s.T[i].Path = s.T[i].Path[1:] }, func(s *impl.Srv) { s.T[i].Path = []string{strings.Join(s.T[i].Path, "/") + "/"} },
			func(s *impl.Srv) { s.T[i].Coll = !s.T[i].Coll }, func(s *impl.Srv) { s.T[i].Body += " " }, func(s *impl.Srv) { s.T[i].Body = "X" }, func(s *impl.Srv) { s.T[i].Ver++ }, func(s *impl.Srv) { s.T[i].Ver = -1 },
			func(s *impl.Srv) { s.T[i].Props = append(s.T[i].Props, impl.Prop{}) }, func(s *impl.Srv) { s.T[i].Props = append([]impl.Prop{{Name: "z"}}, s.T[i].Props...) },
			func(s *impl.Srv) { s.T = slices.Delete(s.T, i, i+1) }, func(s *impl.Srv) { s.T = slices.Insert(s.T, i, s.T[i]) })
		for j := range someSrv().T[i].Props {
			l = append(l, func(s *impl.Srv) { s.T[i].Props[j].Ns += "v" }, func(s *impl.Srv) { s.T[i].Props[j].Name += "v" }, func(s *impl.Srv) { s.T[i].Props[j].Val += "v" }, func(s *impl.Srv) { s.T[i].Props = slices.Delete(s.T[i].Props, j, j+1) })
		}
	}
	for i := range someSrv().L {
		l = append(l,
			func(s *impl.Srv) { s.L[i].Token++ }, func(s *impl.Srv) { s.L[i].Path[0] += "x" }, func(s *impl.Srv) { s.L[i].Path = nil }, func(s *impl.Srv) { s.L[i].Path = append(s.L[i].Path, "c") }, func(s *impl.Srv) { s.L[i].Deep = !s.L[i].Deep }, func(s *impl.Srv) { s.L[i].Shared = !s.L[i].Shared }, func(s *impl.Srv) { s.L[i].Until-- },
			func(s *impl.Srv) { s.L = slices.Delete(s.L, i, i+1) }, func(s *impl.Srv) { s.L = slices.Insert(s.L, i, s.L[i]) })
	}
	return l
}

func TestSameSrv(t *testing.T) {
	servers := append(srvsThatAreWrong(), impl.SrvNew(), someSrv(), withT(mostVer+1, fullTree()...), withUsed(1, 2, 3))
	for i, a := range servers {
		wantSame(t, a, deepSrv(a), true)
		wantSame(t, a, a, true)
		for j, b := range servers {
			wantSame(t, a, b, i == j || sameSrvByParts(a, b))
		}
	}
	for _, turn := range turnsOfOnePart() {
		s := deepSrv(someSrv())
		turn(&s)
		if sameSrvByParts(s, someSrv()) {
			t.Fatalf("%+v is not turned", s)
		}
		wantSame(t, someSrv(), s, false)
		again := deepSrv(someSrv())
		turn(&again)
		wantSame(t, again, s, true)
	}
}

func TestSameSrvOfNilAndEmptyLists(t *testing.T) {
	empty := impl.Srv{T: []impl.Res{}, L: []impl.Lock{}, Ver: 1, Draws: []int{}, Used: []int{}}
	wantSame(t, impl.SrvNew(), empty, true)
	wantSrv(t, empty, true)
	a := impl.Srv{T: []impl.Res{{Path: []string{}, Props: []impl.Prop{}}}, L: []impl.Lock{{Path: []string{}}}}
	b := impl.Srv{T: make([]impl.Res, 1), L: make([]impl.Lock, 1)}
	wantSame(t, a, b, true)
	wantSame(t, a, empty, false)
	// What lies behind a length is no part of it.
	wantSame(t, roomySrv(), someSrv(), true)
}

func wantTagAt(t *testing.T, s impl.Srv, p []string, want string, there bool) {
	t.Helper()
	kept, keptPath := deepSrv(s), slices.Clone(p)
	if got, ok := impl.TagAt(s, p); got != want || ok != there {
		t.Errorf("TagAt(%+v, %q) is %q, %v, not %q, %v", s, p, got, ok, want, there)
	}
	if !sameSrvByParts(s, kept) || !slices.Equal(p, keptPath) {
		t.Errorf("TagAt turns its arguments: %+v, %q", s, p)
	}
}

func TestTagAt(t *testing.T) {
	for _, s := range append(srvsThatAreWrong(), impl.SrvNew(), someSrv()) {
		wantTagAt(t, s, nil, `"v0"`, true)
		wantTagAt(t, s, []string{}, `"v0"`, true)
		wantTagAt(t, s, path("a/b")[:0], `"v0"`, true)
	}
	for p, tag := range map[string]string{"a": `"v1"`, "a/b": `"v2"`, "a/c": `"v3"`, "a/c/d": `"v4"`, "a/c/d/e": `"v5"`, "a/cd": `"v99999"`, "a-": `"v0"`, "ab": `"v6"`, "ab/b": `"v7"`, "b": `"v8"`} {
		wantTagAt(t, someSrv(), path(p), tag, true)
		wantTagAt(t, impl.SrvNew(), path(p), "", false)
	}
	for _, p := range []string{"A", "a/", "a/a", "a/bb", "a/b/b", "a/c/e", "a/c/d/f", "a/c/d/e/f", "a/d", "abc", "b/a", "c", "ab/", "-", "a-/b", "root", "/", "a//b"} {
		wantTagAt(t, someSrv(), path(p), "", false)
	}
	for _, p := range pathsThatAreWrong() {
		wantTagAt(t, someSrv(), p, "", false)
		wantTagAt(t, impl.SrvNew(), p, "", false)
	}
	wantTagAt(t, someSrv(), []string{"a\x00"}, "", false)
	// A name behind the length of the path is none of it.
	wantTagAt(t, someSrv(), path("a/b/c")[:1], `"v1"`, true)
	wantTagAt(t, someSrv(), path("a/b/c")[:2], `"v2"`, true)
	s := roomySrv()
	wantTagAt(t, s, path("room"), "", false)
}

func TestTagAtOfEachVer(t *testing.T) {
	for n := range mostVer + 1 {
		s := impl.Srv{T: []impl.Res{{Path: []string{"a"}, Ver: n}}, Ver: mostVer + 1}
		if got, ok := impl.TagAt(s, s.T[0].Path); got != `"v`+strconv.Itoa(n)+`"` || !ok {
			t.Fatalf("TagAt of Ver %d is %q, %v", n, got, ok)
		}
	}
	// The first counts, where what is no tree has two.
	s := withT(9, impl.Res{Path: path("a"), Ver: 3}, impl.Res{Path: path("a"), Ver: 2})
	wantTagAt(t, s, path("a"), `"v3"`, true)
}

func TestChanges(t *testing.T) {
	does := []string{"PUT", "MKCOL", "DELETE", "COPY", "MOVE", "PROPPATCH", "LOCK", "UNLOCK"}
	for _, m := range does {
		if !impl.Changes(m) {
			t.Errorf("Changes(%q) is false", m)
		}
		wrong := []string{strings.ToLower(m), m[:1] + strings.ToLower(m[1:]), strings.ToLower(m[:1]) + m[1:], m + " ", " " + m, m + "S", m + m, "X" + m, m + "\x00", m + "\n", m[:len(m)-1], m[1:], strings.Replace(m, m[1:2], "X", 1)}
		for at := range m {
			for _, c := range []byte{0, ' ', 'Z', m[at] + 1, m[at] - 1, m[at] | 0x80, m[at] + 32} {
				wrong = append(wrong, m[:at]+string([]byte{c})+m[at+1:])
			}
		}
		for _, w := range wrong {
			if impl.Changes(w) != slices.Contains(does, w) {
				t.Errorf("Changes(%q) is %v", w, impl.Changes(w))
			}
		}
	}
	for _, m := range []string{"", "GET", "HEAD", "OPTIONS", "PROPFIND", "POST", "PATCH", "PROP", "TRACE", "CONNECT", "MKACTIVITY", "PUTMKCOL", "PUT MKCOL", "PUT, MKCOL", "RELOCK", "UN", "*", " ", "\xff", strings.Repeat("PUT", 999)} {
		if impl.Changes(m) {
			t.Errorf("Changes(%q) is true", m)
		}
	}
}

func TestChangesOfAllShortTexts(t *testing.T) {
	count := 0
	for _, l := range allListsOf([]byte("CDEHKLMNOPRTUVY"), 4) {
		if m := string(l); impl.Changes(m) {
			count++
			if m != "PUT" && m != "COPY" && m != "MOVE" && m != "LOCK" {
				t.Errorf("Changes(%q) is true", m)
			}
		}
	}
	if count != 4 {
		t.Errorf("%d of at most four letters change", count)
	}
}

func drawSrv(draw *rand.Rand) impl.Srv {
	s := impl.Srv{T: drawTree(draw), Now: draw.IntN(12), Ver: mostVer + 1}
	for range draw.IntN(9) {
		if next := append(slices.Clone(s.L), drawLock(draw)); locksByWords(next) {
			s.L = next
		}
	}
	for n := range 13 {
		has := slices.ContainsFunc(s.L, func(x impl.Lock) bool { return x.Token == n })
		if has || n > 0 && draw.IntN(3) == 0 {
			s.Used = append(s.Used, n)
		}
	}
	for range draw.IntN(mostDraws + 1) {
		s.Draws = append(s.Draws, draw.IntN(12000)-1000)
	}
	return s
}

func TestDrawnServers(t *testing.T) {
	draw := rand.New(rand.NewPCG(15, 1))
	seen := map[bool]int{}
	for range 20000 {
		s := drawSrv(draw)
		wantSrv(t, s, true)
		switch draw.IntN(8) {
		case 0:
			s.Used = slices.DeleteFunc(s.Used, func(n int) bool { return n == 1+draw.IntN(12) })
		case 1:
			s.Ver = draw.IntN(mostVer + 3)
		case 2:
			s.L = append(s.L, drawLock(draw))
		case 3:
			s.Draws = append(s.Draws, make([]int, draw.IntN(12))...)
		case 4:
			s.Used = append(s.Used, draw.IntN(24))
		case 5:
			s.Now = []int{-1, 0, mostTime, mostTime + 1}[draw.IntN(4)]
		case 6:
			if len(s.T) > 0 {
				at := draw.IntN(len(s.T))
				s.T = slices.Delete(s.T, at, at+1)
			}
		}
		right := srvByWords(s)
		seen[right]++
		wantSrv(t, s, right)
		n := draw.IntN(16) - 2
		wantTick(t, s, n, tickByWords(s, n))
		wantDraw(t, s, n, drawByWords(s, n))
		for _, p := range nearPaths(s.T) {
			tag, there := "", len(p) == 0
			if there {
				tag = `"v0"`
			}
			for _, r := range s.T {
				if keyOf(r.Path) == keyOf(p) {
					tag, there = `"v`+strconv.Itoa(r.Ver)+`"`, true
				}
			}
			wantTagAt(t, s, p, tag, there)
		}
	}
	if seen[true] < 2000 || seen[false] < 2000 {
		t.Errorf("%d are SrvOk, %d are not", seen[true], seen[false])
	}
}

func tickByWords(s impl.Srv, n int) impl.Srv {
	s = deepSrv(s)
	if !srvByWords(s) {
		return s
	}
	if s.Now <= n && n < 10000000 {
		s.Now = n
	}
	s.L = slices.DeleteFunc(s.L, func(x impl.Lock) bool { return s.Now >= x.Until })
	return s
}

func drawByWords(s impl.Srv, n int) impl.Srv {
	s = deepSrv(s)
	if srvByWords(s) && len(s.Draws) < 20 {
		s.Draws = append(s.Draws, n)
	}
	return s
}

// Whatever ticks and draws come, a server is right, and what they do not name
// stays.
func TestAServerIsRight(t *testing.T) {
	draw := rand.New(rand.NewPCG(15, 2))
	numbers := []int{math.MinInt, -1, 0, 1, 2, 3, 5, 7, 9, 11, 12, 9999, 10000, mostTime, mostTime + 1, math.MaxInt}
	over := 0
	for range 500 {
		first := drawSrv(draw)
		s, want := deepSrv(first), deepSrv(first)
		for range 60 {
			n := numbers[draw.IntN(len(numbers))]
			if n >= 9999 && draw.IntN(8) > 0 {
				n = draw.IntN(14)
			}
			if draw.IntN(2) == 0 {
				s, want = impl.Tick(s, n), tickByWords(want, n)
			} else {
				s, want = impl.Draw(s, n), drawByWords(want, n)
			}
			wantSrv(t, s, true)
			wantSame(t, s, want, true)
			if !sameSrvByParts(s, want) || !sameTreeByParts(s.T, first.T) || s.Ver != first.Ver || !slices.Equal(s.Used, first.Used) || !slices.Equal(s.Draws[:len(first.Draws)], first.Draws) {
				t.Fatalf("%+v, not %+v, of %+v", s, want, first)
			}
		}
		over += len(first.L) - len(s.L)
	}
	if over < 100 {
		t.Errorf("%d locks came to an end", over)
	}
}

// roomySrv is a someSrv with room behind each list, with something in it that
// is not to be turned.
func roomySrv() impl.Srv {
	s := someSrv()
	s.T, s.L = roomyTree(), roomyLocks("5:a/b*@10 60:a-+@20 7:a-*+@30")
	s.Draws, s.Used = append(s.Draws, 901, 902)[:len(s.Draws)], append(s.Used, 901, 902)[:len(s.Used)]
	return s
}

// wholeSrv is a roomySrv with all that room.
func wholeSrv(s impl.Srv) impl.Srv {
	return impl.Srv{T: wholeTree(s.T), L: wholeLocks(s.L), Now: s.Now, Ver: s.Ver, Draws: slices.Clone(s.Draws[:len(s.Draws)+2]), Used: slices.Clone(s.Used[:len(s.Used)+2])}
}

func spoilNumbers(l []int) {
	for i := range l[:cap(l)] {
		l[:cap(l)][i] = -99
	}
}

func spoilTree(l []impl.Res) {
	for _, r := range l {
		spoilRes(r)
	}
	for i := range l[:cap(l)] {
		l[:cap(l)][i] = impl.Res{Path: []string{"spoilt"}, Coll: true, Body: "spoilt", Ver: -9}
	}
}

func spoilSrv(s impl.Srv) {
	spoilTree(s.T)
	spoilLocks(s.L)
	spoilNumbers(s.Draws)
	spoilNumbers(s.Used)
}

func textsOfSrv(s impl.Srv) []string { return append(textsOfTree(s.T), namesOfLocks(s.L)...) }

func wantNothingBehindSrv(t *testing.T, s impl.Srv) {
	t.Helper()
	wantNoLocksBehind(t, s.L)
	for _, r := range s.T[len(s.T):cap(s.T)] {
		if !sameResByParts(r, impl.Res{}) {
			t.Errorf("%+v is handed out behind T", r)
		}
	}
	for _, r := range s.T {
		if behind := strings.Join(r.Path[len(r.Path):cap(r.Path)], ""); behind != "" {
			t.Errorf("%q is handed out behind a Path", behind)
		}
		for _, p := range r.Props[len(r.Props):cap(r.Props)] {
			if p != (impl.Prop{}) {
				t.Errorf("%+v is handed out behind what is known of a thing", p)
			}
		}
	}
	for _, n := range slices.Concat(s.Draws[len(s.Draws):cap(s.Draws)], s.Used[len(s.Used):cap(s.Used)]) {
		if n != 0 {
			t.Errorf("%d is handed out behind Draws or Used", n)
		}
	}
}

// wantEachListApart spoils one list of an answer after the other: those that
// are not yet spoilt stay.
func wantEachListApart(t *testing.T, s impl.Srv) {
	t.Helper()
	want := deepSrv(s)
	spoilNumbers(s.Draws)
	if !slices.Equal(s.Used, want.Used) {
		t.Errorf("Draws and Used share: %v", s.Used)
	}
	for i := range s.T {
		spoilRes(s.T[i])
		if !sameTreeByParts(s.T[i+1:], want.T[i+1:]) || !sameLocks(s.L, want.L) {
			t.Errorf("two lists of one answer share: %+v", s)
		}
	}
	for i := range s.L {
		spoilNames(s.L[i].Path)
		if !sameLocks(s.L[i+1:], want.L[i+1:]) {
			t.Errorf("two Paths of one answer share: %+v", s.L)
		}
	}
}

// wantSrvInNewMemory asks three times: one answer is held against the
// argument, one against itself, and one is kept.
func wantSrvInNewMemory(t *testing.T, s impl.Srv, ask func(s impl.Srv) impl.Srv) {
	t.Helper()
	kept := wholeSrv(s)
	got, one, again := ask(s), ask(s), ask(s)
	want := deepSrv(got)
	wantNoneShared(t, textsOfSrv(s), textsOfSrv(got))
	wantNothingBehindSrv(t, got)
	wantEachListApart(t, one)
	spoilSrv(got)
	if !sameSrvByParts(wholeSrv(s), kept) {
		t.Errorf("what is written into the answer turns the argument: %+v", wholeSrv(s))
	}
	spoilSrv(s)
	if !sameSrvByParts(again, want) {
		t.Errorf("what was answered turns: %+v", again)
	}
}

func TestServersAreNewMemory(t *testing.T) {
	for _, n := range []int{-1, 0, 4, 9, 10, 20, 29, 30, mostTime, mostTime + 1} {
		for _, spoil := range append([]func(s *impl.Srv){func(s *impl.Srv) {}}, roomyTurns()...) {
			for _, ask := range []func(s impl.Srv, n int) impl.Srv{impl.Tick, impl.Draw} {
				s := roomySrv()
				spoil(&s)
				wantSrvInNewMemory(t, s, func(s impl.Srv) impl.Srv { return ask(s, n) })
			}
		}
	}
}

// roomyTurns make a roomySrv one that is right still, or is not, and leave the
// room behind its lists.
func roomyTurns() []func(s *impl.Srv) {
	return []func(s *impl.Srv){
		func(s *impl.Srv) { s.Now = -1 }, func(s *impl.Srv) { s.Ver = 3 }, func(s *impl.Srv) { s.T[0].Ver = -1 }, func(s *impl.Srv) { s.T[1].Path[0] = "q" }, func(s *impl.Srv) { s.L[0].Token = 3 }, func(s *impl.Srv) { s.L[0].Path[0] = "" }, func(s *impl.Srv) { s.Used[4] = 10000 },
		func(s *impl.Srv) { s.L[0].Until = 0 }, func(s *impl.Srv) { s.T[0].Body = "x" }, func(s *impl.Srv) { s.Draws = append(make([]int, 19), 901, 902)[:19] }, func(s *impl.Srv) { s.Draws = append(make([]int, 20), 901, 902)[:20] }, func(s *impl.Srv) { s.Draws = append(make([]int, 21), 901, 902)[:21] },
		func(s *impl.Srv) { s.T, s.L = s.T[:0], s.L[:0] }, func(s *impl.Srv) { s.Draws, s.L, s.Used = s.Draws[:0], s.L[:0], s.Used[:0] },
	}
}

func TestQuestionsLeaveTheirServers(t *testing.T) {
	s, p := roomySrv(), roomyPath(path("a/b"))
	kept, keptPath := wholeSrv(s), slices.Clone(p[:4])
	impl.SrvOk(s)
	impl.SameSrv(s, s)
	impl.SameSrv(s, someSrv())
	for n := range 3 {
		tag, _ := impl.TagAt(s, p[:n])
		wantNoneShared(t, append(textsOfSrv(s), p...), []string{tag})
	}
	if !sameSrvByParts(wholeSrv(s), kept) || !slices.Equal(p[:4], keptPath) {
		t.Errorf("an argument is turned: %+v, %q", wholeSrv(s), p[:4])
	}
}

// Lists of one argument may be the same memory; those of an answer are not.
func TestServersWhoseListsAreShared(t *testing.T) {
	numbers, names, props := []int{5, 6}, path("a/b"), []impl.Prop{{Name: "p"}}
	s := impl.Srv{T: []impl.Res{{Path: names[:1], Coll: true, Props: props}, {Path: names, Props: props}}, L: []impl.Lock{{Token: 5, Path: names, Until: 9}, {Token: 6, Path: names[:1], Until: 9}}, Ver: 1, Draws: numbers, Used: numbers}
	wantSrv(t, s, true)
	for _, ask := range []func(s impl.Srv, n int) impl.Srv{impl.Tick, impl.Draw} {
		for _, n := range []int{3, mostTime + 1} {
			wantEachListApart(t, ask(s, n))
		}
		s.Now = -1
		wantEachListApart(t, ask(s, 3))
		s.Now = 0
	}
	if !slices.Equal(numbers, []int{5, 6}) || !slices.Equal(names, path("a/b")) || props[0] != (impl.Prop{Name: "p"}) {
		t.Errorf("%v, %q, %+v: an argument is turned", numbers, names, props)
	}
}

// Two draws of one server are beside each other: no answer has what was drawn
// for the other.
func TestDrawsOfOneServer(t *testing.T) {
	s := impl.SrvNew()
	for range 19 {
		a, b := impl.Draw(s, 1), impl.Draw(s, 2)
		if last := len(a.Draws) - 1; a.Draws[last] != 1 || b.Draws[last] != 2 {
			t.Fatalf("%v, %v", a.Draws, b.Draws)
		}
		s = b
	}
}

// What turns is reached by a pointer.
func TestWhatTurnsIsReachedByAPointer(t *testing.T) {
	f, err := parser.ParseFile(token.NewFileSet(), "../impl/l15_srv.go", nil, parser.SkipObjectResolution)
	if err != nil {
		t.Fatal(err)
	}
	reached := map[string]bool{}
	for _, d := range f.Decls {
		fn, ok := d.(*ast.FuncDecl)
		if !ok || fn.Recv == nil {
			continue
		}
		if star, ok := fn.Recv.List[0].Type.(*ast.StarExpr); ok && names(star.X)["Srv"] {
			reached[fn.Name.Name] = true
		}
	}
	for _, name := range []string{"Tick", "Draw"} {
		if !callsOneOf(f, name, reached) {
			t.Errorf("%s turns no server by a pointer", name)
		}
	}
}

func callsOneOf(f *ast.File, name string, methods map[string]bool) bool {
	found := false
	for _, d := range f.Decls {
		fn, ok := d.(*ast.FuncDecl)
		if !ok || fn.Name.Name != name {
			continue
		}
		ast.Inspect(fn, func(n ast.Node) bool {
			if sel, ok := n.(*ast.SelectorExpr); ok && methods[sel.Sel.Name] {
				found = true
			}
			return true
		})
	}
	return found
}
