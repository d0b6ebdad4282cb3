package tests

import (
	"go/ast"
	"go/parser"
	"go/token"
	"math"
	"math/rand/v2"
	"slices"
	"strconv"
	"strings"
	"testing"

	"loop.example/g00452/impl"
)

const (
	mostLocks = 6
	mostToken = 9999
	mostTime  = 9999999
)

// oneLock is of a text as `5:a/b*+@10`: a Token, a Path, `*` of Deep, `+` of
// Shared, and Until, if there is one.
func oneLock(text string) impl.Lock {
	text, until, _ := strings.Cut(text, "@")
	text, shared := strings.CutSuffix(text, "+")
	text, deep := strings.CutSuffix(text, "*")
	num, at, _ := strings.Cut(text, ":")
	x := impl.Lock{Path: path(at), Deep: deep, Shared: shared}
	x.Token, _ = strconv.Atoi(num)
	x.Until, _ = strconv.Atoi(until)
	return x
}

// someLocks is of such texts, with blanks between.
func someLocks(text string) []impl.Lock {
	l := []impl.Lock{}
	for _, one := range strings.Fields(text) {
		l = append(l, oneLock(one))
	}
	return l
}

func sameLock(a impl.Lock, b impl.Lock) bool {
	return a.Token == b.Token && slices.Equal(a.Path, b.Path) && a.Deep == b.Deep && a.Shared == b.Shared && a.Until == b.Until
}

func sameLocks(a []impl.Lock, b []impl.Lock) bool { return slices.EqualFunc(a, b, sameLock) }

func deepLock(x impl.Lock) impl.Lock {
	x.Path = slices.Clone(x.Path)
	return x
}

func deepLocks(l []impl.Lock) []impl.Lock {
	next := []impl.Lock{}
	for _, x := range l {
		next = append(next, deepLock(x))
	}
	return next
}

// eachFlag has it with Deep and Shared, each way.
func eachFlag(x impl.Lock) []impl.Lock {
	l := []impl.Lock{}
	for _, deep := range []bool{false, true} {
		for _, shared := range []bool{false, true} {
			x.Deep, x.Shared = deep, shared
			l = append(l, x)
		}
	}
	return l
}

func TestMaxLocks(t *testing.T) {
	if impl.MaxLocks != mostLocks {
		t.Errorf("MaxLocks is %d", impl.MaxLocks)
	}
}

func wantLockOk(t *testing.T, x impl.Lock, want bool) {
	t.Helper()
	for _, one := range eachFlag(x) {
		kept := deepLock(one)
		if impl.LockOk(one) != want {
			t.Errorf("LockOk(%+v) is %v", one, !want)
		}
		if !sameLock(one, kept) {
			t.Errorf("LockOk turns its argument: %+v", one)
		}
	}
}

func TestLockOkOfTokens(t *testing.T) {
	for _, n := range []int{1, 2, 9, 10, 99, 100, 999, 1000, 5000, mostToken - 1, mostToken} {
		wantLockOk(t, impl.Lock{Token: n}, true)
		wantLockOk(t, impl.Lock{Token: n, Path: path("a/b"), Until: 7}, true)
	}
	for _, n := range []int{0, -1, -2, -mostToken, mostToken + 1, mostToken + 2, 99999, 1 << 16, 1<<16 + 1, 1<<32 + 1, math.MaxInt, math.MinInt, math.MinInt + 1} {
		wantLockOk(t, impl.Lock{Token: n}, false)
		wantLockOk(t, impl.Lock{Token: n, Path: path("a/b"), Until: 7}, false)
	}
	for n := -20; n <= mostToken+20; n++ {
		if impl.LockOk(impl.Lock{Token: n}) != (n >= 1 && n <= 9999) {
			t.Errorf("LockOk of Token %d is wrong", n)
		}
	}
}

func TestLockOkOfUntil(t *testing.T) {
	for _, n := range []int{0, 1, 9, mostToken, mostToken + 1, 999999, mostTime - 1, mostTime} {
		wantLockOk(t, impl.Lock{Token: 1, Until: n}, true)
		wantLockOk(t, impl.Lock{Token: mostToken, Path: path("a"), Until: n}, true)
	}
	for _, n := range []int{-1, -2, -mostTime, mostTime + 1, mostTime + 2, 99999999, 1 << 32, math.MaxInt, math.MinInt} {
		wantLockOk(t, impl.Lock{Token: 1, Until: n}, false)
		wantLockOk(t, impl.Lock{Token: mostToken, Path: path("a"), Until: n}, false)
	}
}

func TestLockOkOfPaths(t *testing.T) {
	for _, p := range [][]string{nil, {}, {"a"}, {"a", "b"}, {"a", "b", "c"}, {"a", "b", "c", "d"}, {"a", "a", "a", "a"}, {"8letters"}, {" "}, {"..."}, {"~", "%2f", "<>", "8letters"}} {
		wantLockOk(t, impl.Lock{Token: 1, Path: p}, true)
	}
	for _, p := range pathsThatAreWrong() {
		wantLockOk(t, impl.Lock{Token: 1, Path: p}, false)
	}
	for c := range 256 {
		one := string([]byte{byte(c)})
		wantLockOk(t, impl.Lock{Token: 1, Path: []string{one}}, pathByWords([]string{one}))
		wantLockOk(t, impl.Lock{Token: 1, Path: []string{"q", "x" + one}}, pathByWords([]string{"x" + one}))
	}
	for n := range 12 {
		wantLockOk(t, impl.Lock{Token: 1, Path: slices.Repeat([]string{"a"}, n)}, n <= 4)
		wantLockOk(t, impl.Lock{Token: 1, Path: []string{strings.Repeat("a", n)}}, n >= 1 && n <= 8)
	}
	// What lies behind the length is not looked at.
	room := []string{"a", "", "b", "c", "d", "e"}
	wantLockOk(t, impl.Lock{Token: 1, Path: room[:1]}, true)
	wantLockOk(t, impl.Lock{Token: 1, Path: room[:0]}, true)
	wantLockOk(t, impl.Lock{Token: 1, Path: room[2:6]}, true)
	wantLockOk(t, impl.Lock{}, false)
}

func wantCovers(t *testing.T, lock string, p []string, want bool) {
	t.Helper()
	x := oneLock(lock)
	if impl.Covers(x, p) != want {
		t.Errorf("Covers(%+v, %q) is %v", x, p, !want)
	}
	// Who else may have such, of which number, until when: all the same.
	for _, other := range []impl.Lock{{}, {Token: 10000, Until: -1}, {Token: 7, Shared: true, Until: mostTime}} {
		other.Path, other.Deep = x.Path, x.Deep
		if impl.Covers(other, p) != want {
			t.Errorf("Covers(%+v, %q) is %v", other, p, !want)
		}
	}
}

func TestCovers(t *testing.T) {
	for _, x := range []struct {
		at   string
		p    string
		flat bool
		deep bool
	}{
		// Itself.
		{"", "", true, true}, {"a", "a", true, true}, {"a/b", "a/b", true, true}, {"a/b/c/d", "a/b/c/d", true, true}, {"a/a", "a/a", true, true},
		// What is Under it.
		{"", "a", false, true}, {"", "a/b", false, true}, {"", "a/b/c/d", false, true}, {"a", "a/b", false, true}, {"a", "a/a", false, true}, {"a", "a/b/c", false, true}, {"a", "a/b/c/d", false, true}, {"a/b", "a/b/c", false, true}, {"a/b/c", "a/b/c/d", false, true},
		// What it is Under.
		{"a", "", false, false}, {"a/b", "a", false, false}, {"a/b", "", false, false}, {"a/b/c/d", "a/b/c", false, false}, {"a/a", "a", false, false},
		// Names that begin alike, either way.
		{"a", "ab", false, false}, {"ab", "a", false, false}, {"a", "ab/c", false, false}, {"ab", "a/b", false, false}, {"a/b", "ab", false, false}, {"a/b", "a/bc", false, false}, {"a/b", "a/bc/d", false, false}, {"a/bc", "a/b", false, false}, {"a/bc", "a/b/c", false, false},
		// Beside it.
		{"a", "b", false, false}, {"a", "b/a", false, false}, {"a/b", "a/c", false, false}, {"a/b", "b/a", false, false}, {"a/b", "a/c/b", false, false}, {"a/b", "c/a/b", false, false}, {"a", "A", false, false}, {"a", "A/b", false, false}, {"b", "a/b", false, false},
	} {
		wantCovers(t, "5:"+x.at, path(x.p), x.flat)
		wantCovers(t, "5:"+x.at+"*", path(x.p), x.deep)
	}
	wantCovers(t, "5:", []string{}, true)
	wantCovers(t, "5:*", []string{}, true)
}

func TestCoversPathsThatAreNone(t *testing.T) {
	for _, p := range pathsThatAreWrong() {
		// They are names one behind the other, too.
		wantCovers(t, "5:", p, false)
		wantCovers(t, "5:*", p, true)
		wantCovers(t, "5:q/z*", p, false)
		wantCovers(t, "5:a*", p, len(p) > 1 && p[0] == "a")
		under := append(slices.Clone(p), "z")
		for _, deep := range []bool{false, true} {
			x := impl.Lock{Path: p, Deep: deep}
			if !impl.Covers(x, p) || impl.Covers(x, nil) || impl.Covers(x, under) != deep || impl.Covers(x, p[:len(p)-1]) || impl.Covers(x, path("q/z")) {
				t.Errorf("Covers of %+v is wrong", x)
			}
		}
	}
	// A name with `/` in it is one name.
	wantCovers(t, "5:a*", []string{"a/b"}, false)
	wantCovers(t, "5:a/b", []string{"a/b"}, false)
	wantCovers(t, "5:a*", []string{"a", ""}, true)
	wantCovers(t, "5:a", []string{"a", ""}, false)
	if impl.Covers(impl.Lock{Path: []string{""}, Deep: true}, nil) || impl.Covers(impl.Lock{Deep: true, Path: []string{"", ""}}, []string{""}) || !impl.Covers(impl.Lock{Deep: true}, []string{""}) {
		t.Error("an empty name is a name")
	}
}

func TestCoversLooksAtItsLengthAlone(t *testing.T) {
	room := []string{"a", "b", "c", "d"}
	for n := range 4 {
		for m := range 4 {
			for _, deep := range []bool{false, true} {
				if impl.Covers(impl.Lock{Path: room[:n], Deep: deep}, room[:m]) != (n == m || deep && n < m) {
					t.Errorf("Covers of %d names, %d names, %v is wrong", n, m, deep)
				}
			}
		}
	}
	if !slices.Equal(room, path("a/b/c/d")) {
		t.Errorf("Covers turns its argument: %q", room)
	}
}

// wantClash asks both ways round, of each who may share.
func wantClash(t *testing.T, a string, b string, want bool) {
	t.Helper()
	for _, shares := range [][2]string{{"", ""}, {"+", ""}, {"", "+"}, {"+", "+"}} {
		x, y := oneLock(a+shares[0]), oneLock(b+shares[1])
		right := want && shares != [2]string{"+", "+"}
		if impl.LockClash(x, y) != right || impl.LockClash(y, x) != right {
			t.Errorf("LockClash(%+v, %+v) is %v, the other way round %v, not %v", x, y, impl.LockClash(x, y), impl.LockClash(y, x), right)
		}
	}
}

func TestLockClash(t *testing.T) {
	// The same Path.
	for _, p := range []string{"", "a", "a/b", "a/b/c/d"} {
		for _, flags := range [][2]string{{"", ""}, {"*", ""}, {"", "*"}, {"*", "*"}} {
			wantClash(t, "1:"+p+flags[0], "2:"+p+flags[1], true)
			// Tokens are not looked at here.
			wantClash(t, "1:"+p+flags[0], "1:"+p+flags[1], true)
		}
	}
	// One Under the other: the upper one counts.
	for _, x := range [][2]string{{"", "a"}, {"", "a/b/c/d"}, {"a", "a/b"}, {"a", "a/a"}, {"a", "a/b/c/d"}, {"a/b", "a/b/c"}, {"a/b/c", "a/b/c/d"}} {
		wantClash(t, "1:"+x[0], "2:"+x[1], false)
		wantClash(t, "1:"+x[0], "2:"+x[1]+"*", false)
		wantClash(t, "1:"+x[0]+"*", "2:"+x[1], true)
		wantClash(t, "1:"+x[0]+"*", "2:"+x[1]+"*", true)
	}
	// Beside one another, names that begin alike among them.
	for _, x := range [][2]string{{"a", "b"}, {"a", "ab"}, {"a", "ab/c"}, {"a/b", "ab"}, {"a/b", "a/c"}, {"a/b", "a/bc"}, {"a/b", "b/a"}, {"a/b", "b"}, {"a/b/c", "a/c"}, {"a/b", "a/bc/d"}} {
		for _, flags := range [][2]string{{"", ""}, {"*", ""}, {"", "*"}, {"*", "*"}} {
			wantClash(t, "1:"+x[0]+flags[0], "2:"+x[1]+flags[1], false)
			wantClash(t, "7:"+x[0]+flags[0], "7:"+x[1]+flags[1], false)
		}
	}
}

func TestLockClashOfLocksThatAreNone(t *testing.T) {
	for _, p := range pathsThatAreWrong() {
		for _, deep := range []bool{false, true} {
			a, b := impl.Lock{Token: -1, Path: p, Deep: deep, Until: -5}, impl.Lock{Token: 10000, Path: append(slices.Clone(p), "z")}
			if impl.LockClash(a, b) != deep || impl.LockClash(b, a) != deep || !impl.LockClash(a, a) {
				t.Errorf("LockClash of %+v is wrong", a)
			}
			a.Shared, b.Shared = true, true
			if impl.LockClash(a, b) || impl.LockClash(a, a) {
				t.Errorf("LockClash of %+v is wrong where both are Shared", a)
			}
		}
	}
	if !impl.LockClash(impl.Lock{}, impl.Lock{}) || impl.LockClash(impl.Lock{Shared: true}, impl.Lock{Shared: true}) {
		t.Error("LockClash of the zero value is wrong")
	}
}

func wantLocksOk(t *testing.T, l []impl.Lock, want bool) {
	t.Helper()
	kept := deepLocks(l)
	if impl.LocksOk(l) != want {
		t.Errorf("LocksOk(%+v) is %v", l, !want)
	}
	if !sameLocks(l, kept) {
		t.Errorf("LocksOk turns its argument: %+v", l)
	}
}

func TestLocksOk(t *testing.T) {
	wantLocksOk(t, nil, true)
	wantLocksOk(t, []impl.Lock{}, true)
	for _, text := range []string{
		"1:", "1:*", "1:*+", "9999:a@9999999", "1:a 2:b", "2:a 1:b", "1:a* 2:b*", "1:a 2:ab", "1:a* 2:ab*", "1:a 2:a/b", "1: 2:a", "2:a/b* 1:a", "1: 2:a* 3:b*", "1:a/b* 2:a/c* 3:a", "5:a 4:b 3:c 2:d 1:e 9:f",
		// Shared ones of the same Path, and of what is Under it.
		"1:a+ 2:a+", "1:a*+ 2:a*+ 3:a/b+", "3:a/b*+ 1:a*+ 2:*+", "1:*+ 2:*+ 3:*+ 4:*+ 5:*+ 6:*+",
		// Beside those, one alone.
		"1:a+ 2:b 3:a+", "1:a*+ 2:b* 3:a/b+ 4:", "1:a+ 2:a/b", "1:a 2:a/b*+ 3:a/b+",
	} {
		wantLocksOk(t, someLocks(text), true)
		l := someLocks(text)
		slices.Reverse(l)
		wantLocksOk(t, l, true)
		for n := range l {
			wantLocksOk(t, l[:n], true)
		}
	}
}

func TestHowManyLocks(t *testing.T) {
	for n := range 20 {
		beside, shared := []impl.Lock{}, []impl.Lock{}
		for i := range n {
			beside = append(beside, impl.Lock{Token: i + 1, Path: []string{strconv.Itoa(i)}, Deep: true})
			shared = append(shared, impl.Lock{Token: mostToken - i, Deep: true, Shared: true})
		}
		wantLocksOk(t, beside, n <= mostLocks)
		wantLocksOk(t, shared, n <= mostLocks)
	}
	// Where only one of many reasons is there.
	wantLocksOk(t, someLocks("1:a 2:b 3:c 4:d 5:e 6:f 7:g"), false)
	wantLocksOk(t, someLocks("1:a 2:b 3:c 4:d 5:e 6:f 7:g")[:6], true)
	wantLocksOk(t, someLocks("1:a 2:b 3:c 4:d 5:e 6:f 7:g")[1:], true)
	wantLocksOk(t, slices.Repeat(someLocks("1:a 2:b"), 5000), false)
}

func TestLocksThatAreNotOkTogether(t *testing.T) {
	for _, text := range []string{
		// Of one Token, beside one another and apart.
		"1:a 1:b", "1:a+ 1:a+", "1:a+ 1:b", "1:a 1:b 2:c", "2:c 1:a 1:b", "1:a 2:c 1:b", "1:a 2:c 3:d 4:e 5:f 1:b", "9:z 1:a 2:c 3:d 1:b 4:e", "2:c 3:d 4:e 5:f 1:a 1:b", "1:a 1:b 1:c 1:d 1:e 1:f", "9999:*+@1 9999:*+@2",
		// That clash, beside one another and apart.
		"1:a 2:a", "1:a 2:a+", "1:a+ 2:a", "1:a* 2:a/b", "1:a* 2:a/b+", "1:a*+ 2:a/b", "1:a/b 2:a*", "1:a/b+ 2:a*", "1:a/b 2:a*+", "1:* 2:a", "1:a 2:*", "1:*+ 2:a/b/c/d", "1:* 2:", "1: 2:",
		"1:a 2:a 3:b", "3:b 1:a 2:a", "1:a 3:b 2:a", "1:a* 3:b 4:c 5:d 6:e 2:a/b", "2:a/b 3:b 4:c 5:d 6:e 1:a*", "3:b 1:a*+ 4:c 2:a/b 5:d", "1:a+ 2:a+ 3:a", "3:a 1:a+ 2:a+", "1:a+ 3:a 2:a+", "1:a*+ 2:a*+ 3:a/b+ 4:a/b", "1:a 2:b 3:c 4:d 5:e 6:*",
	} {
		wantLocksOk(t, someLocks(text), false)
		l := someLocks(text)
		slices.Reverse(l)
		wantLocksOk(t, l, false)
	}
}

// wrongLocks are not LockOk, of Token, of Path or of Until.
func wrongLocks() []impl.Lock {
	l := []impl.Lock{{}, {Path: path("y")}, {Token: -1, Path: path("y")}, {Token: 10000, Path: path("y")}, {Token: math.MaxInt, Path: path("y")}, {Token: 77, Path: path("y"), Until: -1}, {Token: 77, Path: path("y"), Until: mostTime + 1}, {Token: 77, Path: path("y"), Until: math.MinInt}}
	for _, p := range pathsThatAreWrong() {
		if p[0] != "a" {
			l = append(l, impl.Lock{Token: 77, Path: p})
		}
	}
	return append(l, impl.Lock{Token: 77, Path: []string{"y", "a", "a", "a", "a"}, Shared: true})
}

func TestLocksWithOneThatIsNoLock(t *testing.T) {
	for _, wrong := range wrongLocks() {
		wantLocksOk(t, []impl.Lock{wrong}, false)
		for _, text := range []string{"1:a", "1:a 2:b", "1:a+ 2:a+ 3:b*", "1:a 2:b 3:c 4:d 5:e"} {
			l := someLocks(text)
			wantLocksOk(t, l, true)
			for at := range len(l) + 1 {
				wantLocksOk(t, slices.Insert(slices.Clone(l), at, wrong), false)
			}
		}
	}
}

func TestLocksOkLooksAtItsLengthAlone(t *testing.T) {
	room := someLocks("1:a 2:b 1:c 0:d 3:a")
	wantLocksOk(t, room[:2], true)
	wantLocksOk(t, room[:0], true)
	wantLocksOk(t, room[:3], false)
	wantLocksOk(t, room[1:3], true)
	names := []string{"a", "b", "", "c", "d", "e"}
	wantLocksOk(t, []impl.Lock{{Token: 1, Path: names[:1]}, {Token: 2, Path: names[:2]}, {Token: 3, Path: names[1:2]}}, true)
	if !slices.Equal(names, []string{"a", "b", "", "c", "d", "e"}) {
		t.Errorf("what lies behind a Path is written: %q", names)
	}
}

func wantAdded(t *testing.T, l []impl.Lock, x impl.Lock, want bool) []impl.Lock {
	t.Helper()
	kept, keptLock := deepLocks(l), deepLock(x)
	got, ok := impl.AddLock(l, x)
	right := kept
	if want {
		right = append(deepLocks(l), x)
	}
	if ok != want || !sameLocks(got, right) {
		t.Errorf("AddLock(%+v, %+v) is %+v, %v, not %+v, %v", l, x, got, ok, right, want)
	}
	if !sameLocks(l, kept) || !sameLock(x, keptLock) {
		t.Errorf("AddLock turns its arguments: %+v, %+v", l, x)
	}
	if ok && !impl.LocksOk(got) {
		t.Errorf("AddLock makes what is not LocksOk: %+v", got)
	}
	return got
}

func TestAddLock(t *testing.T) {
	for _, x := range []struct {
		l  string
		x  string
		ok bool
	}{
		// To none, and to some: it is the last, whatever its Token and its Path.
		{"", "1:", true}, {"", "5:a*+@7", true}, {"", "9999:a/b/c/d@9999999", true}, {"5:b", "6:c", true}, {"5:b", "4:a", true}, {"5:b 6:d", "1:c@3", true}, {"5:a*@1 6:b+@2", "7:b+@3", true}, {"5:a* 6:b", "7:", true}, {"5:a", "6:a/b*", true}, {"5:a/b*", "6:a", true}, {"5:a*+ 6:b", "7:a/b+", true}, {"5:a", "6:ab*", true},
		// A Token that is there: first, in the middle, last.
		{"5:a 6:b 7:c", "5:d", false}, {"5:a 6:b 7:c", "6:d", false}, {"5:a 6:b 7:c", "7:d", false}, {"5:a 6:b 7:c", "8:d", true}, {"5:a+", "5:a+", false}, {"5:a+", "6:a+", true},
		// One that clashes: with the first, in the middle, the last.
		{"5:a* 6:b+ 7:c", "8:a", false}, {"5:a* 6:b+ 7:c", "8:a/x+", false}, {"5:a* 6:b+ 7:c", "8:b", false}, {"5:a* 6:b+ 7:c", "8:b*+", true}, {"5:a* 6:b+ 7:c", "8:c+", false}, {"5:a* 6:b+ 7:c", "8:c/x", true}, {"5:a* 6:b+ 7:c", "8:*", false}, {"5:a* 6:b+ 7:c", "8:*+", false}, {"5:a* 6:b+ 7:c", "8:", true}, {"5:a/b", "6:a*", false}, {"5:a/b", "6:a", true}, {"5:a+ 6:a+", "7:a", false}, {"5:*", "6:a/b/c/d", false},
		// Whatever Until: what is over is there still.
		{"5:a@0", "6:a@9999999", false}, {"5:a@9999999", "6:a@0", false},
		// No locks.
		{"", "0:a", false}, {"", "10000:a", false}, {"", "-1:a", false}, {"", "1:a@-1", false}, {"", "1:a@10000000", false}, {"5:b", "0:a", false}, {"5:b", "10000:a", false},
	} {
		wantAdded(t, someLocks(x.l), oneLock(x.x), x.ok)
	}
	wantAdded(t, nil, oneLock("1:a"), true)
	for _, wrong := range wrongLocks() {
		for _, text := range []string{"", "1:a", "1:a+ 2:a+ 3:b"} {
			wantAdded(t, someLocks(text), wrong, false)
			wantAdded(t, someLocks(text), impl.Lock{Token: 9, Path: path("z")}, true)
		}
	}
}

func TestAddLocksUntilThereIsNoMore(t *testing.T) {
	beside, shared := []impl.Lock{}, []impl.Lock{}
	for i := range 10 {
		fits := i < mostLocks
		beside = wantAdded(t, beside, impl.Lock{Token: 100 - i, Path: []string{strconv.Itoa(i)}, Until: i}, fits)
		shared = wantAdded(t, shared, impl.Lock{Token: i + 1, Path: path("a"), Deep: true, Shared: true, Until: 9 - i}, fits)
		if len(beside) != min(i+1, mostLocks) || len(shared) != min(i+1, mostLocks) {
			t.Errorf("there are %d and %d", len(beside), len(shared))
		}
	}
	// There is room again where one is gone.
	beside, _ = impl.DropLock(beside, 97)
	beside = wantAdded(t, beside, oneLock("7:z"), true)
	wantAdded(t, beside, oneLock("8:y"), false)
}

func TestAddLockToWhatIsNotLocksOk(t *testing.T) {
	x := oneLock("99:z")
	for _, text := range []string{"1:a 1:b", "1:a+ 2:b 1:a+", "1:a 2:a", "1:a* 3:b 2:a/b+", "0:a", "1:a 10000:b", "1:a@-1 2:b", "1:a 2:b 3:c 4:d 5:e 6:f 7:g", "1:a 2:b 3:c 4:d 5:e 6:f 7:g 8:h"} {
		wantAdded(t, someLocks(text), x, false)
		wantAdded(t, someLocks(text), oneLock("1:a"), false)
		wantAdded(t, someLocks(text), impl.Lock{}, false)
	}
	for _, wrong := range wrongLocks() {
		wantAdded(t, []impl.Lock{wrong}, x, false)
		wantAdded(t, []impl.Lock{oneLock("1:a"), wrong, oneLock("2:b")}, x, false)
		wantAdded(t, []impl.Lock{wrong, wrong}, wrong, false)
	}
	wantAdded(t, slices.Repeat(someLocks("1:a 2:b"), 3000), x, false)
}

func TestAddLockLooksAtItsLengthAlone(t *testing.T) {
	room := someLocks("1:a 2:b 3:c 4:d")
	wantAdded(t, room[:2], oneLock("3:c"), true)
	wantAdded(t, room[:0], oneLock("1:a"), true)
	if !sameLocks(room, someLocks("1:a 2:b 3:c 4:d")) {
		t.Errorf("what lies behind the length is written: %+v", room)
	}
}

func wantDropped(t *testing.T, l string, num int, want string) {
	t.Helper()
	had := someLocks(l)
	got, ok := impl.DropLock(had, num)
	if !ok || !sameLocks(got, someLocks(want)) {
		t.Errorf("DropLock(%q, %d) is %+v, %v, not %q", l, num, got, ok, want)
	}
	if !sameLocks(had, someLocks(l)) {
		t.Errorf("DropLock turns its argument: %+v", had)
	}
}

func wantNotDropped(t *testing.T, l []impl.Lock, num int) {
	t.Helper()
	kept := deepLocks(l)
	got, ok := impl.DropLock(l, num)
	if ok || !sameLocks(got, kept) || !sameLocks(l, kept) {
		t.Errorf("DropLock(%+v, %d) is %+v, %v, not the list and false", kept, num, got, ok)
	}
}

func TestDropLock(t *testing.T) {
	wantDropped(t, "5:a", 5, "")
	wantDropped(t, "5:a*@1 6:b+@2 7:b+@3", 5, "6:b+@2 7:b+@3")
	wantDropped(t, "5:a*@1 6:b+@2 7:b+@3", 6, "5:a*@1 7:b+@3")
	wantDropped(t, "5:a*@1 6:b+@2 7:b+@3", 7, "5:a*@1 6:b+@2")
	wantDropped(t, "3:a 1:b 2:c", 1, "3:a 2:c")
	wantDropped(t, "1:a 2:b 3:c 4:d 5:e 6:f", 1, "2:b 3:c 4:d 5:e 6:f")
	wantDropped(t, "1:a 2:b 3:c 4:d 5:e 6:f", 4, "1:a 2:b 3:c 5:e 6:f")
	wantDropped(t, "1:a 2:b 3:c 4:d 5:e 6:f", 6, "1:a 2:b 3:c 4:d 5:e")
	wantDropped(t, "9999:a/b/c/d 1:", 9999, "1:")
	for _, n := range []int{0, 1, 4, 8, -5, 55, 10000, math.MaxInt, math.MinInt, 1<<32 + 5} {
		wantNotDropped(t, someLocks("5:a*@1 6:b+@2 7:b+@3"), n)
		wantNotDropped(t, nil, n)
		wantNotDropped(t, []impl.Lock{}, n)
	}
}

func TestDropLockOfWhatIsNotLocksOk(t *testing.T) {
	// Of two of one Token the first is gone alone.
	wantDropped(t, "5:a 5:b", 5, "5:b")
	wantDropped(t, "5:a 6:b 5:c", 5, "6:b 5:c")
	wantDropped(t, "6:a 5:b 5:c 7:d", 5, "6:a 5:c 7:d")
	wantDropped(t, "5:a 5:a 5:a", 5, "5:a 5:a")
	// Others stay as they are, whatever they are.
	wantDropped(t, "1:a 2:a 3:a*", 2, "1:a 3:a*")
	wantDropped(t, "0:a -1:b@-7 10000:c 5:d", 5, "0:a -1:b@-7 10000:c")
	wantDropped(t, "0:a -1:b@-7 10000:c 5:d", 0, "-1:b@-7 10000:c 5:d")
	wantDropped(t, "0:a -1:b@-7 10000:c 5:d", -1, "0:a 10000:c 5:d")
	wantDropped(t, "0:a -1:b@-7 10000:c 5:d", 10000, "0:a -1:b@-7 5:d")
	wantDropped(t, "1:a 2:b 3:c 4:d 5:e 6:f 7:g 8:h", 3, "1:a 2:b 4:d 5:e 6:f 7:g 8:h")
	wantNotDropped(t, someLocks("5:a 5:b 1:a 2:a 10000:c"), 7)
	for _, wrong := range wrongLocks() {
		wantNotDropped(t, []impl.Lock{wrong, wrong}, 5)
		got, ok := impl.DropLock([]impl.Lock{oneLock("1:a"), wrong}, wrong.Token)
		if !ok || !sameLocks(got, someLocks("1:a")) {
			t.Errorf("%+v is not dropped: %+v, %v", wrong, got, ok)
		}
	}
	// What lies behind the length is not there.
	room := someLocks("1:a 2:b 3:c")
	wantNotDropped(t, room[:2], 3)
	wantNotDropped(t, room[:0], 1)
	if got, ok := impl.DropLock(room[:2], 1); !ok || !sameLocks(got, someLocks("2:b")) || !sameLocks(room, someLocks("1:a 2:b 3:c")) {
		t.Errorf("DropLock is %+v, %v, and leaves %+v", got, ok, room)
	}
}

func wantLive(t *testing.T, l string, now int, want string) {
	t.Helper()
	had := someLocks(l)
	if got := impl.LiveLocks(had, now); !sameLocks(got, someLocks(want)) {
		t.Errorf("LiveLocks(%q, %d) is %+v, not %q", l, now, got, want)
	}
	if !sameLocks(had, someLocks(l)) {
		t.Errorf("LiveLocks turns its argument: %+v", had)
	}
}

func TestLiveLocks(t *testing.T) {
	// Below, at and above.
	for _, until := range []int{0, 1, 2, 10, 9999, mostTime - 1, mostTime} {
		one := "5:a@" + strconv.Itoa(until)
		wantLive(t, one, until-1, one)
		wantLive(t, one, until, "")
		wantLive(t, one, until+1, "")
		wantLive(t, one, math.MaxInt, "")
		wantLive(t, one, math.MinInt, one)
	}
	l := "5:a*@10 6:b+@20 7:b+@30"
	for _, x := range []struct {
		now  int
		want string
	}{{0, l}, {9, l}, {10, "6:b+@20 7:b+@30"}, {19, "6:b+@20 7:b+@30"}, {20, "7:b+@30"}, {29, "7:b+@30"}, {30, ""}, {31, ""}, {-1, l}} {
		wantLive(t, l, x.now, x.want)
	}
	// In order, not that of Until, or Token.
	wantLive(t, "9:a@30 1:b@10 5:c@20 2:d@40 8:e@9", 10, "9:a@30 5:c@20 2:d@40")
	wantLive(t, "3:a@5 2:b@5 1:c@5", 4, "3:a@5 2:b@5 1:c@5")
	wantLive(t, "3:a@5 2:b@5 1:c@5", 5, "")
	wantLive(t, "1:a@1 2:b@2 3:c@1 4:d@2 5:e@1 6:f@2", 1, "2:b@2 4:d@2 6:f@2")
	for _, now := range []int{math.MinInt, -1, 0, 1, mostTime, math.MaxInt} {
		wantLive(t, "", now, "")
		if len(impl.LiveLocks(nil, now)) != 0 {
			t.Error("there is one of none")
		}
	}
	// Lists and locks that are not Ok.
	wantLive(t, "1:a@5 1:a@6 0:a@7 10000:b@3", 4, "1:a@5 1:a@6 0:a@7")
	wantLive(t, "1:a@-5 2:b@-3 3:c@10000001", -4, "2:b@-3 3:c@10000001")
	wantLive(t, "1:@2 2:@1 3:@2 4:@1 5:@2 6:@1 7:@2 8:@1 9:@2", 1, "1:@2 3:@2 5:@2 7:@2 9:@2")
	room := someLocks("1:a@5 2:b@1 3:c@5")
	if got := impl.LiveLocks(room[:2], 2); !sameLocks(got, room[:1]) || !sameLocks(room, someLocks("1:a@5 2:b@1 3:c@5")) {
		t.Errorf("LiveLocks is %+v, and leaves %+v", got, room)
	}
}

func wantTokensAt(t *testing.T, l string, p string, want ...int) {
	t.Helper()
	had := someLocks(l)
	if got := impl.TokensAt(had, path(p)); !slices.Equal(got, want) {
		t.Errorf("TokensAt(%q, %q) is %v, not %v", l, p, got, want)
	}
	if !sameLocks(had, someLocks(l)) {
		t.Errorf("TokensAt turns its argument: %+v", had)
	}
}

func TestTokensAt(t *testing.T) {
	for _, p := range []string{"", "a", "a/b"} {
		wantTokensAt(t, "", p)
		wantTokensAt(t, "1:q 2:q/a* 3:ab*+", p)
	}
	wantTokensAt(t, "5:a", "a", 5)
	wantTokensAt(t, "5:a", "")
	wantTokensAt(t, "5:a", "a/b")
	wantTokensAt(t, "5:a", "ab")
	wantTokensAt(t, "5:a*", "a/b", 5)
	wantTokensAt(t, "5:a*", "a/b/c/d", 5)
	wantTokensAt(t, "5:a*", "ab")
	wantTokensAt(t, "5:a*", "ab/c")
	// Several, in order of the list, not of Token.
	wantTokensAt(t, "5:a* 6:b+ 7:b+", "b", 6, 7)
	wantTokensAt(t, "7:b+ 5:a* 6:b+", "b", 7, 6)
	wantTokensAt(t, "9:*+ 2:a+ 5:a/b+ 1:a*+ 3:a/b/c+", "a/b", 9, 5, 1)
	wantTokensAt(t, "9:*+ 2:a+ 5:a/b+ 1:a*+ 3:a/b/c+", "a", 9, 2, 1)
	wantTokensAt(t, "9:*+ 2:a+ 5:a/b+ 1:a*+ 3:a/b/c+", "", 9)
	wantTokensAt(t, "9:*+ 2:a+ 5:a/b+ 1:a*+ 3:a/b/c+", "a/b/c", 9, 1, 3)
	wantTokensAt(t, "9:*+ 2:a+ 5:a/b+ 1:a*+ 3:a/b/c+", "a/b/c/d", 9, 1)
	wantTokensAt(t, "9:*+ 2:a+ 5:a/b+ 1:a*+ 3:a/b/c+", "q", 9)
	wantTokensAt(t, "6:*+ 5:*+ 4:*+ 3:*+ 2:*+ 1:*+", "q/r", 6, 5, 4, 3, 2, 1)
	// The root.
	wantTokensAt(t, "1: 2:a* 3:b", "", 1)
	wantTokensAt(t, "1: 2:a* 3:b", "b", 3)
	wantTokensAt(t, "1:*", "", 1)
	wantTokensAt(t, "1:*", "a/b/c/d", 1)
	// Until is not looked at.
	wantTokensAt(t, "1:a+@0 2:a+@9999999", "a", 1, 2)
	// Lists that are not LocksOk, and locks that are not LockOk.
	wantTokensAt(t, "1:a 1:a 2:a*", "a", 1, 1, 2)
	wantTokensAt(t, "0:a -3:a@-1 10000:a 2:b", "a", 0, -3, 10000)
	wantTokensAt(t, "1: 2: 3: 4: 5: 6: 7: 8: 1:", "", 1, 2, 3, 4, 5, 6, 7, 8, 1)
	for _, p := range pathsThatAreWrong() {
		l := []impl.Lock{{Token: 1, Path: p}, {Token: 2, Deep: true}, {Token: 3}, {Token: 4, Path: p, Deep: true}}
		if got := impl.TokensAt(l, p); !slices.Equal(got, []int{1, 2, 4}) {
			t.Errorf("TokensAt of %q is %v", p, got)
		}
		if got := impl.TokensAt(l, append(slices.Clone(p), "z")); !slices.Equal(got, []int{2, 4}) {
			t.Errorf("TokensAt of what is Under %q is %v", p, got)
		}
	}
	room, names := someLocks("1:a+ 2:a/b+ 3:a+"), path("a/b/c")
	if got := impl.TokensAt(room[:2], names[:1]); !slices.Equal(got, []int{1}) {
		t.Errorf("TokensAt looks behind the length: %v", got)
	}
}

func wantMay(t *testing.T, l string, p string, deep bool, tokens []int, want bool) {
	t.Helper()
	had, kept := someLocks(l), slices.Clone(tokens)
	if impl.MayTurn(had, path(p), deep, tokens) != want {
		t.Errorf("MayTurn(%q, %q, %v, %v) is %v", l, p, deep, tokens, !want)
	}
	// Their order, and others among them, are all the same.
	slices.Reverse(tokens)
	if impl.MayTurn(had, path(p), deep, tokens) != want {
		t.Errorf("MayTurn(%q, %q, %v, %v) is %v", l, p, deep, tokens, !want)
	}
	slices.Reverse(tokens)
	for _, more := range [][]int{slices.Concat([]int{901, 902}, tokens), slices.Concat(tokens, []int{0, -1, 10000}), slices.Concat(tokens, tokens)} {
		if impl.MayTurn(had, path(p), deep, more) != want {
			t.Errorf("MayTurn(%q, %q, %v, %v) is %v", l, p, deep, more, !want)
		}
	}
	if !sameLocks(had, someLocks(l)) || !slices.Equal(tokens, kept) {
		t.Errorf("MayTurn turns its arguments: %+v, %v", had, tokens)
	}
}

// wantMayEither asks deep and not.
func wantMayEither(t *testing.T, l string, p string, tokens []int, want bool) {
	t.Helper()
	wantMay(t, l, p, false, tokens, want)
	wantMay(t, l, p, true, tokens, want)
}

func TestMayTurnWhereNoLockIs(t *testing.T) {
	for _, p := range []string{"", "a", "a/b", "a/b/c/d"} {
		for _, tokens := range [][]int{nil, {}, {1}, {0}, {5, 6}} {
			wantMayEither(t, "", p, tokens, true)
			if p != "" {
				wantMayEither(t, "1: 2:q* 3:q 4:ab*+ 5:q/a", p, tokens, true)
			}
		}
	}
}

func TestMayTurnWithOneAlone(t *testing.T) {
	for _, l := range []string{"5:a", "5:a*", "6:b 5:a", "5:a* 6:b*", "6:b+ 5:a 7:b+"} {
		wantMayEither(t, l, "a", []int{5}, true)
		wantMayEither(t, l, "a", []int{6, 5}, true)
		for _, tokens := range [][]int{nil, {}, {6}, {6, 7}, {0}, {-5}, {55}, {4}} {
			wantMayEither(t, l, "a", tokens, false)
		}
	}
	// Of what p is Under: Deep, or not.
	wantMayEither(t, "5:a", "a/b", nil, true)
	wantMayEither(t, "5:a*", "a/b", nil, false)
	wantMayEither(t, "5:a*", "a/b", []int{5}, true)
	wantMayEither(t, "5:a*", "a/b/c/d", []int{6}, false)
	wantMayEither(t, "5:", "a", nil, true)
	wantMayEither(t, "5:*", "a", nil, false)
	wantMayEither(t, "5:*", "", nil, false)
	wantMayEither(t, "5:*", "", []int{5}, true)
	wantMayEither(t, "5:a*", "ab", nil, true)
	wantMayEither(t, "5:ab*", "a", nil, true)
	wantMayEither(t, "5:ab/c", "a", nil, true)
}

func TestMayTurnWithWhatIsUnder(t *testing.T) {
	for _, x := range []struct {
		l string
		p string
	}{{"5:a", ""}, {"5:a*", ""}, {"5:a/b", "a"}, {"5:a/b*", "a"}, {"5:a/b/c/d", "a"}, {"5:a/b/c/d", "a/b/c"}, {"6:b 5:a/b", "a"}, {"5:a/b+", "a"}, {"5:a/b*+", ""}, {"6:q+ 5:a/b+ 7:q", "a"}} {
		wantMay(t, x.l, x.p, false, nil, true)
		wantMay(t, x.l, x.p, true, nil, false)
		wantMay(t, x.l, x.p, true, []int{6, 7}, false)
		wantMay(t, x.l, x.p, true, []int{5}, true)
	}
	// All of those that are alone.
	wantMay(t, "5:a/b 6:a/c", "a", true, []int{5}, false)
	wantMay(t, "5:a/b 6:a/c", "a", true, []int{6}, false)
	wantMay(t, "5:a/b 6:a/c", "a", true, []int{5, 6}, true)
	wantMay(t, "5:a/b 6:a/c", "a/b", true, []int{5}, true)
	wantMay(t, "5:a/b 6:a/c 4:a", "a", true, []int{5, 6}, false)
	wantMay(t, "5:a/b 6:a/c 4:a", "a", true, []int{4, 5, 6}, true)
	wantMay(t, "5:a/b 6:a/c 4:a", "a", false, []int{4}, true)
	wantMay(t, "5:a/b 6:a/c 4:a", "a", false, []int{5, 6}, false)
	wantMay(t, "1:a 2:b 3:c 4:d 5:e 6:", "", true, []int{1, 2, 3, 4, 5, 6}, true)
	for n := 1; n <= 6; n++ {
		wantMay(t, "1:a 2:b 3:c 4:d 5:e 6:", "", true, slices.DeleteFunc([]int{1, 2, 3, 4, 5, 6}, func(x int) bool { return x == n }), false)
	}
}

func TestMayTurnWithSharedOnes(t *testing.T) {
	for _, l := range []string{"6:b+ 7:b+", "5:a* 6:b+ 7:b+", "6:b*+ 5:a 7:b+", "6:*+ 7:b+ 4:b/c+", "7:b+ 6:b+ 4:a+"} {
		wantMay(t, l, "b", false, []int{6}, true)
		wantMay(t, l, "b", false, []int{7}, true)
		wantMay(t, l, "b", false, []int{6, 7}, true)
		for _, tokens := range [][]int{nil, {}, {5}, {4}, {67}, {-6}, {0}, {4, 5}} {
			wantMay(t, l, "b", false, tokens, false)
		}
	}
	wantMayEither(t, "6:b+", "b", nil, false)
	wantMayEither(t, "6:b+", "b", []int{6}, true)
	wantMayEither(t, "6:b+", "b/c", nil, true)
	wantMayEither(t, "6:b*+", "b/c", nil, false)
	wantMayEither(t, "6:b*+", "b/c", []int{6}, true)
	// One of all that are Shared is enough, at whichever Path it is.
	wantMay(t, "6:a/b+ 7:a/c+", "a", true, []int{6}, true)
	wantMay(t, "6:a/b+ 7:a/c+", "a", true, []int{7}, true)
	wantMay(t, "6:a/b+ 7:a/c+", "a", true, nil, false)
	wantMay(t, "6:a+ 7:a/c+", "a", true, []int{7}, true)
	wantMay(t, "6:a+ 7:a/c+", "a", false, []int{7}, false)
	wantMay(t, "6:*+ 7:a/c+", "a", true, []int{7}, true)
	wantMay(t, "6:*+ 7:a/c+", "a", false, []int{7}, false)
	wantMay(t, "1:*+ 2:*+ 3:*+ 4:*+ 5:*+ 6:*+", "a", false, []int{6}, true)
	wantMay(t, "1:*+ 2:*+ 3:*+ 4:*+ 5:*+ 6:*+", "a", false, []int{7}, false)
}

func TestMayTurnWithBothKinds(t *testing.T) {
	// Where both are Under p, or one is at p.
	for _, x := range []struct {
		l string
		p string
	}{{"5:a* 6:b+ 7:b+", ""}, {"6:b+ 5:a 7:b+", ""}, {"6:x/b*+ 7:x/b/c+ 5:x", "x"}, {"5:x/a 6:x+ 7:x+", "x"}, {"9:q 5:x/a/b* 6:x+ 8:r+ 7:x/c+", "x"}} {
		for _, y := range []struct {
			tokens []int
			want   bool
		}{{nil, false}, {[]int{5}, false}, {[]int{6}, false}, {[]int{7}, false}, {[]int{6, 7}, false}, {[]int{5, 6}, true}, {[]int{5, 7}, true}, {[]int{5, 6, 7}, true}, {[]int{5, 8, 9}, false}, {[]int{6, 8, 9}, false}} {
			wantMay(t, x.l, x.p, true, y.tokens, y.want)
		}
	}
	// At one Path, in a list that is not LocksOk.
	wantMayEither(t, "5:a 6:a+ 7:a+", "a", []int{5}, false)
	wantMayEither(t, "5:a 6:a+ 7:a+", "a", []int{6}, false)
	wantMayEither(t, "5:a 6:a+ 7:a+", "a", []int{5, 7}, true)
	wantMayEither(t, "5:a 5:a+", "a", []int{5}, true)
	wantMayEither(t, "5:a 5:a+", "a", nil, false)
	wantMayEither(t, "5:a 8:a", "a", []int{5}, false)
	wantMayEither(t, "5:a 8:a", "a", []int{5, 8}, true)
	if impl.MayTurn(someLocks("0:a@-1"), path("a"), false, nil) || !impl.MayTurn(someLocks("0:a@-1"), path("a"), false, []int{0}) || !impl.MayTurn(someLocks("10000:a -2:a"), path("a"), true, []int{-2, 10000}) {
		t.Error("a number is a number")
	}
}

func TestMayTurnOfPathsThatAreNone(t *testing.T) {
	for _, p := range pathsThatAreWrong() {
		l := []impl.Lock{{Token: 5, Path: append(slices.Clone(p), "z")}, {Token: 6, Path: p, Shared: true}, {Token: 7, Path: path("y")}}
		if !impl.MayTurn(nil, p, true, nil) || !impl.MayTurn(l, p, false, []int{6}) || impl.MayTurn(l, p, false, []int{5}) || impl.MayTurn(l, p, true, []int{6}) || !impl.MayTurn(l, p, true, []int{5, 6}) {
			t.Errorf("MayTurn of %q is wrong", p)
		}
	}
	// What lies behind a length is not there.
	names, room, tokens := path("a/b/c"), someLocks("5:a 6:a/b 7:a"), []int{5, 6, 7}
	if !impl.MayTurn(room[:2], names[:1], false, tokens[:1]) || impl.MayTurn(room[:2], names[:2], false, tokens[:1]) || impl.MayTurn(room, names[:1], false, tokens[:2]) || !impl.MayTurn(room[:0], names[:1], true, tokens[:0]) {
		t.Error("what lies behind a length is looked at")
	}
	if !slices.Equal(names, path("a/b/c")) || !sameLocks(room, someLocks("5:a 6:a/b 7:a")) || !slices.Equal(tokens, []int{5, 6, 7}) {
		t.Errorf("MayTurn turns its arguments: %q, %+v, %v", names, room, tokens)
	}
}

// coversByWords tells paths by their keys: what is Under one has it ahead.
func coversByWords(x impl.Lock, p []string) bool {
	return keyOf(x.Path) == keyOf(p) || x.Deep && strings.HasPrefix(keyOf(p), keyOf(x.Path))
}

func lockByWords(x impl.Lock) bool {
	return x.Token > 0 && x.Token < 10000 && pathByWords(x.Path) && x.Until > -1 && x.Until < 10000000
}

func clashByWords(a impl.Lock, b impl.Lock) bool {
	if a.Shared && b.Shared {
		return false
	}
	return coversByWords(a, b.Path) || coversByWords(b, a.Path)
}

func locksByWords(l []impl.Lock) bool {
	for i, a := range l {
		if !lockByWords(a) {
			return false
		}
		for j, b := range l {
			if i != j && (a.Token == b.Token || clashByWords(a, b)) {
				return false
			}
		}
	}
	return len(l) <= 6
}

func mayByWords(l []impl.Lock, p []string, deep bool, tokens []int) bool {
	lacks, shared, some := 0, 0, false
	for _, x := range l {
		has := slices.Contains(tokens, x.Token)
		switch under := keyOf(x.Path) != keyOf(p) && strings.HasPrefix(keyOf(x.Path), keyOf(p)); {
		case !coversByWords(x, p) && !(deep && under):
		case x.Shared:
			shared++
			some = some || has
		case !has:
			lacks++
		}
	}
	return lacks == 0 && (shared == 0 || some)
}

func wantLocksByWords(t *testing.T, l []impl.Lock) bool {
	t.Helper()
	right := locksByWords(l)
	wantLocksOk(t, l, right)
	for _, x := range l {
		if impl.LockOk(x) != lockByWords(x) {
			t.Errorf("LockOk(%+v) is wrong", x)
		}
	}
	if len(l) > 0 {
		last := len(l) - 1
		wantAdded(t, l[:last], l[last], right)
	}
	return right
}

// wantOneAlone is the promise: what a lock of one alone covers no other covers.
func wantOneAlone(t *testing.T, l []impl.Lock, p []string) {
	t.Helper()
	over := []impl.Lock{}
	for _, x := range l {
		if impl.Covers(x, p) {
			over = append(over, x)
		}
	}
	if len(over) > 1 && slices.ContainsFunc(over, func(x impl.Lock) bool { return !x.Shared }) {
		t.Errorf("%q is covered by one alone, and by another: %+v", p, over)
	}
}

func wantAtPathByWords(t *testing.T, l []impl.Lock, p []string, tokens []int) {
	t.Helper()
	at := []int{}
	for _, x := range l {
		if impl.Covers(x, p) != coversByWords(x, p) {
			t.Errorf("Covers(%+v, %q) is wrong", x, p)
		}
		if coversByWords(x, p) {
			at = append(at, x.Token)
		}
	}
	if got := impl.TokensAt(l, p); !slices.Equal(got, at) {
		t.Errorf("TokensAt(%+v, %q) is %v, not %v", l, p, got, at)
	}
	for _, deep := range []bool{false, true} {
		if impl.MayTurn(l, p, deep, tokens) != mayByWords(l, p, deep, tokens) {
			t.Errorf("MayTurn(%+v, %q, %v, %v) is wrong", l, p, deep, tokens)
		}
	}
}

// smallLocks has each way of each small path, with Tokens that are the same for
// some.
func smallLocks() []impl.Lock {
	l := []impl.Lock{}
	for _, p := range []string{"", "a", "a/b", "ab"} {
		for _, x := range eachFlag(impl.Lock{Path: path(p)}) {
			x.Token, x.Until = 1+len(l)%5, len(l)%3
			l = append(l, x)
		}
	}
	return l
}

func TestAllSmallLocks(t *testing.T) {
	seen := map[bool]int{}
	asked := allPaths([]string{"a", "b", "ab"}, 3)
	for _, l := range allListsOf(smallLocks(), 3) {
		right := wantLocksByWords(t, l)
		seen[right]++
		for _, p := range asked {
			if right {
				wantOneAlone(t, l, p)
			}
			if len(p) < 3 && len(l) < 3 {
				for _, tokens := range [][]int{nil, {1}, {2}, {1, 3}, {2, 4, 5}} {
					wantAtPathByWords(t, l, p, tokens)
				}
			}
		}
	}
	if seen[false] < 1000 || seen[true] < 500 {
		t.Errorf("%d are LocksOk, %d are not", seen[true], seen[false])
	}
	for _, a := range smallLocks() {
		for _, b := range smallLocks() {
			if impl.LockClash(a, b) != clashByWords(a, b) {
				t.Errorf("LockClash(%+v, %+v) is wrong", a, b)
			}
		}
	}
}

func drawLock(draw *rand.Rand) impl.Lock {
	names := []string{"a", "ab", "b"}
	x := impl.Lock{Token: 1 + draw.IntN(12), Deep: draw.IntN(3) == 0, Shared: draw.IntN(2) == 0, Until: draw.IntN(12)}
	for range draw.IntN(4) {
		x.Path = append(x.Path, names[draw.IntN(len(names))])
	}
	if draw.IntN(80) == 0 {
		return wrongLocks()[draw.IntN(len(wrongLocks()))]
	}
	return x
}

func drawTokens(draw *rand.Rand) []int {
	tokens := []int{}
	for range draw.IntN(9) {
		tokens = append(tokens, draw.IntN(14))
	}
	return tokens
}

func wantTakenByWords(t *testing.T, l []impl.Lock, num int, now int) {
	t.Helper()
	at := slices.IndexFunc(l, func(x impl.Lock) bool { return x.Token == num })
	want := l
	if at >= 0 {
		want = slices.Concat(l[:at], l[at+1:])
	}
	if got, ok := impl.DropLock(l, num); ok != (at >= 0) || !sameLocks(got, want) {
		t.Errorf("DropLock(%+v, %d) is %+v, %v", l, num, got, ok)
	}
	live := slices.DeleteFunc(slices.Clone(l), func(x impl.Lock) bool { return x.Until <= now })
	if got := impl.LiveLocks(l, now); !sameLocks(got, live) {
		t.Errorf("LiveLocks(%+v, %d) is %+v", l, now, got)
	}
}

func TestDrawnLocks(t *testing.T) {
	draw := rand.New(rand.NewPCG(13, 1))
	seen := map[bool]int{}
	for range 20000 {
		l := []impl.Lock{}
		for range draw.IntN(9) {
			x := drawLock(draw)
			// What would not be LocksOk is left out mostly.
			if next := append(slices.Clone(l), x); locksByWords(next) || draw.IntN(8) == 0 {
				l = next
			}
		}
		seen[wantLocksByWords(t, l)]++
		for range 4 {
			wantAtPathByWords(t, l, drawLock(draw).Path, drawTokens(draw))
		}
		wantTakenByWords(t, l, draw.IntN(14), draw.IntN(13))
	}
	if seen[false] < 2000 || seen[true] < 2000 {
		t.Errorf("%d are LocksOk, %d are not", seen[true], seen[false])
	}
}

// However locks come and go, what one alone covers no other covers, and what
// it covers is turned with its Token alone.
func TestOneAlone(t *testing.T) {
	draw := rand.New(rand.NewPCG(13, 2))
	asked := allPaths([]string{"a", "ab", "b"}, 3)
	l, now, most := []impl.Lock{}, 0, 0
	for step := range 20000 {
		switch draw.IntN(6) {
		case 0:
			l, _ = impl.DropLock(l, draw.IntN(14))
		case 1:
			now = draw.IntN(12)
			l = impl.LiveLocks(l, now)
		default:
			l, _ = impl.AddLock(l, drawLock(draw))
		}
		if !impl.LocksOk(l) || !locksByWords(l) {
			t.Fatalf("step %d: not LocksOk: %+v", step, l)
		}
		most = max(most, len(l))
		p := asked[draw.IntN(len(asked))]
		wantOneAlone(t, l, p)
		for _, x := range l {
			others := slices.DeleteFunc([]int{1, 2, 3, 4, 5, 6, 7, 8, 9, 10, 11, 12, 77}, func(n int) bool { return n == x.Token })
			if !x.Shared && impl.Covers(x, p) && (impl.MayTurn(l, p, false, others) || !impl.MayTurn(l, p, false, []int{x.Token})) {
				t.Fatalf("step %d: %q is turned without %+v, or not with it", step, p, x)
			}
		}
	}
	if most != mostLocks {
		t.Errorf("there were at most %d", most)
	}
}

// roomyLocks has room behind the list and each Path, with something in it that
// is not to be turned.
func roomyLocks(text string) []impl.Lock {
	l := someLocks(text)
	for i, x := range l {
		l[i].Path = roomyPath(x.Path)
	}
	return append(l, oneLock("901:room"), oneLock("902:behind"))[:len(l)]
}

// wholeLocks are roomyLocks with all that room.
func wholeLocks(l []impl.Lock) []impl.Lock {
	whole := []impl.Lock{}
	for _, x := range l {
		x.Path = slices.Clone(x.Path[:len(x.Path)+2])
		whole = append(whole, x)
	}
	return append(whole, deepLocks(l[:len(l)+2][len(l):])...)
}

func spoilLocks(l []impl.Lock) {
	for _, x := range l {
		spoilNames(x.Path)
	}
	for i := range l[:cap(l)] {
		l[:cap(l)][i] = impl.Lock{Token: -9, Path: []string{"spoilt"}, Deep: true, Shared: true, Until: -9}
	}
}

func namesOfLocks(l []impl.Lock) []string {
	names := []string{}
	for _, x := range l {
		names = append(names, x.Path...)
	}
	return names
}

func wantNoLocksBehind(t *testing.T, l []impl.Lock) {
	t.Helper()
	for _, x := range l[len(l):cap(l)] {
		if !sameLock(x, impl.Lock{}) {
			t.Errorf("%+v is handed out behind the list", x)
		}
	}
	for _, x := range l {
		for _, name := range x.Path[len(x.Path):cap(x.Path)] {
			if name != "" {
				t.Errorf("%q is handed out behind a Path", name)
			}
		}
	}
}

// wantLocksInNewMemory asks three times: one answer is held against the
// argument, one against itself, and one is kept.
func wantLocksInNewMemory(t *testing.T, text string, lock string, ask func(l []impl.Lock, x impl.Lock) []impl.Lock) {
	t.Helper()
	l, x := roomyLocks(text), oneLock(lock)
	x.Path = roomyPath(x.Path)
	kept, keptPath := wholeLocks(l), slices.Clone(x.Path[:len(x.Path)+2])
	got, one, again := ask(l, x), ask(l, x), ask(l, x)
	want := deepLocks(got)
	wantNoneShared(t, slices.Concat(namesOfLocks(l), x.Path), namesOfLocks(got))
	wantNoLocksBehind(t, got)
	for i := range one {
		spoilNames(one[i].Path)
		if !sameLocks(one[i+1:], want[i+1:]) {
			t.Fatalf("%q, %q: two Paths of one answer share: %+v", text, lock, one)
		}
	}
	spoilLocks(got)
	if !sameLocks(wholeLocks(l), kept) || !slices.Equal(x.Path[:len(x.Path)+2], keptPath) {
		t.Errorf("%q, %q: what is written into the answer turns an argument: %+v, %q", text, lock, wholeLocks(l), x.Path[:len(x.Path)+2])
	}
	spoilNames(x.Path)
	spoilLocks(l)
	if !sameLocks(again, want) {
		t.Errorf("%q, %q: what was answered turns: %+v", text, lock, again)
	}
}

func TestLocksAreNewMemory(t *testing.T) {
	added, dropped := map[bool]int{}, map[bool]int{}
	for _, text := range []string{"", "1:", "1:alpha", "5:alpha/beta*@10 6:gamma+@20 7:gamma+@30", "3:alpha@5 2:alpha/beta@1 1:gamma/delta/eps/zeta*@9 4:@3", "1:a@1 2:b@2 3:c@3 4:d@4 5:e@5 6:f@6", "1:alpha@7 1:alpha@8", "0:alpha@-1 10000:beta@2"} {
		for _, lock := range []string{"1:omega", "8:alpha/kappa/mu*@3", "8:gamma+", "9:", "9:*+", "0:omega", "8:a"} {
			wantLocksInNewMemory(t, text, lock, func(l []impl.Lock, x impl.Lock) []impl.Lock {
				next, ok := impl.AddLock(l, x)
				added[ok]++
				return next
			})
		}
		for n := range 8 {
			wantLocksInNewMemory(t, text, "1:", func(l []impl.Lock, x impl.Lock) []impl.Lock {
				next, ok := impl.DropLock(l, n)
				dropped[ok]++
				return next
			})
		}
		for now := -2; now < 12; now++ {
			wantLocksInNewMemory(t, text, "1:", func(l []impl.Lock, x impl.Lock) []impl.Lock { return impl.LiveLocks(l, now) })
		}
	}
	if added[true] == 0 || added[false] == 0 || dropped[true] == 0 || dropped[false] == 0 {
		t.Errorf("added %v, dropped %v", added, dropped)
	}
}

// A lock that is added may be one that shares its Path with the list.
func TestLocksThatShareTheirPaths(t *testing.T) {
	names := path("a/b/c")
	l := []impl.Lock{{Token: 1, Path: names[:2], Shared: true}, {Token: 2, Path: names[:2], Shared: true}}
	x := impl.Lock{Token: 3, Path: names, Shared: true}
	for i := range 3 {
		got, ok := impl.AddLock(l, x)
		if !ok || !sameLocks(got, append(slices.Clone(l), x)) {
			t.Fatalf("AddLock is %+v, %v", got, ok)
		}
		want := deepLocks(got)
		spoilNames(got[i].Path)
		for j := range got {
			if j != i && !sameLock(got[j], want[j]) {
				t.Errorf("%d and %d share a Path: %+v", i, j, got)
			}
		}
	}
	got, _ := impl.DropLock(l, 2)
	live := impl.LiveLocks(l, -1)
	spoilLocks(got)
	spoilNames(live[0].Path)
	if !slices.Equal(live[1].Path, path("a/b")) || !slices.Equal(names, path("a/b/c")) {
		t.Errorf("%+v, %q: what is written into an answer turns others", live, names)
	}
}

func TestQuestionsLeaveTheirLocks(t *testing.T) {
	l, p, tokens := roomyLocks("5:alpha/beta*@10 6:gamma+@20 7:gamma+@30"), roomyPath(path("alpha/beta")), []int{5, 6, 77, 78}
	kept := wholeLocks(l)
	for n := range 3 {
		impl.LockOk(l[n])
		impl.Covers(l[n], p[:n])
		impl.LockClash(l[n], l[(n+1)%3])
		impl.LocksOk(l)
		impl.MayTurn(l, p[:n], n == 1, tokens[:n])
		at := impl.TokensAt(l, p[:n])
		for i := range at[:cap(at)] {
			at[:cap(at)][i] = -9
		}
	}
	if !sameLocks(wholeLocks(l), kept) || !slices.Equal(p[:4], path("alpha/beta/room/behind")) || !slices.Equal(tokens, []int{5, 6, 77, 78}) {
		t.Errorf("%+v, %q, %v: an argument is turned", wholeLocks(l), p[:4], tokens)
	}
	one := impl.TokensAt(l, path("gamma"))
	two := impl.TokensAt(l, path("gamma"))
	one[0], one[1] = -1, -2
	if !slices.Equal(two, []int{6, 7}) {
		t.Errorf("two answers share: %v", two)
	}
	for _, n := range two[len(two):cap(two)] {
		if n != 0 {
			t.Errorf("%d is handed out behind the Tokens", n)
		}
	}
}

func TestWhatLocksRefuseLeavesNothingBehind(t *testing.T) {
	for _, wrong := range wrongLocks() {
		wantAdded(t, someLocks("1:a"), wrong, false)
		wantAdded(t, someLocks("1:a"), oneLock("77:y"), true)
		wantNotDropped(t, someLocks("1:a 2:b"), wrong.Token)
		wantDropped(t, "1:a 2:b", 1, "2:b")
	}
}

// Locks in order are a generic type; they are copied by copy.
func TestLocksInOrderAreAGenericType(t *testing.T) {
	f, err := parser.ParseFile(token.NewFileSet(), "../impl/l13_lock.go", nil, parser.SkipObjectResolution)
	if err != nil {
		t.Fatal(err)
	}
	generic, ofLocks, copies := map[string]bool{}, map[string]bool{}, 0
	ast.Inspect(f, func(n ast.Node) bool {
		switch x := n.(type) {
		case *ast.TypeSpec:
			generic[x.Name.Name] = x.TypeParams != nil
		case *ast.IndexExpr:
			name, isName := x.X.(*ast.Ident)
			if of, ok := x.Index.(*ast.Ident); ok && isName && of.Name == "Lock" {
				ofLocks[name.Name] = true
			}
		case *ast.CallExpr:
			if name, ok := x.Fun.(*ast.Ident); ok && name.Name == "copy" {
				copies++
			}
		}
		return true
	})
	used := false
	for name := range ofLocks {
		used = used || generic[name]
	}
	if !used || copies == 0 {
		t.Errorf("l13_lock.go: locks in a generic type: %v, calls of copy: %d", used, copies)
	}
}
