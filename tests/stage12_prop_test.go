package tests

import (
	"go/ast"
	"go/parser"
	"go/token"
	"math/rand/v2"
	"slices"
	"strings"
	"testing"

	"loop.example/g00452/impl"
)

const mostSets = 8

// oneProp is of a text as `u:a=1`: a space, if there is one, a name, and a
// Val, if there is one.
func oneProp(text string) impl.Prop {
	ns, rest, ok := strings.Cut(text, ":")
	if !ok {
		ns, rest = "", text
	}
	name, val, _ := strings.Cut(rest, "=")
	return impl.Prop{Ns: ns, Name: name, Val: val}
}

// someProps is of such texts, with blanks between.
func someProps(text string) []impl.Prop {
	l := []impl.Prop{}
	for _, one := range strings.Fields(text) {
		l = append(l, oneProp(one))
	}
	return l
}

// someSets is of such texts, with `!` ahead of each that is Del.
func someSets(text string) []impl.Set {
	l := []impl.Set{}
	for _, one := range strings.Fields(text) {
		one, del := strings.CutPrefix(one, "!")
		l = append(l, impl.Set{Del: del, P: oneProp(one)})
	}
	return l
}

func wantKnown(t *testing.T, l []impl.Prop, ns string, name string, want string) {
	t.Helper()
	if val, ok := impl.PropOf(l, ns, name); !ok || val != want {
		t.Errorf("PropOf(%+v, %q, %q) is %q, %v, not %q", l, ns, name, val, ok, want)
	}
}

func wantNotKnown(t *testing.T, l []impl.Prop, ns string, name string) {
	t.Helper()
	if val, ok := impl.PropOf(l, ns, name); ok || val != "" {
		t.Errorf("PropOf(%+v, %q, %q) is %q, %v, not nothing and false", l, ns, name, val, ok)
	}
}

func TestPropOf(t *testing.T) {
	l := someProps("a=1 b=2 u:a=3 v:a")
	for _, p := range l {
		wantKnown(t, l, p.Ns, p.Name, p.Val)
		wantKnown(t, []impl.Prop{p}, p.Ns, p.Name, p.Val)
		for _, none := range [][]impl.Prop{nil, {}} {
			wantNotKnown(t, none, p.Ns, p.Name)
		}
	}
	// Of the same Ns and another Name, and the other way round.
	for _, x := range [][2]string{{"", "c"}, {"u", "b"}, {"u", "c"}, {"v", "b"}, {"w", "a"}, {"U", "a"}, {"u", "A"}, {"uu", "a"}, {"u", "aa"}, {"", "ua"}, {"ua", ""}, {"u", ""}, {"a", "u"}, {"a", ""}, {"", ""}, {" ", "a"}, {"u ", "a"}, {"3", "a"}, {"u", "3"}} {
		wantNotKnown(t, l, x[0], x[1])
	}
	// A Val of no bytes is known; that of another is not.
	wantKnown(t, l, "v", "a", "")
	wantKnown(t, []impl.Prop{{Name: "a"}}, "", "a", "")
	wantNotKnown(t, []impl.Prop{{Name: "a"}}, "", "b")
	// Where the one ends and the other begins is looked at, too.
	l = []impl.Prop{{Ns: "a", Name: "bc", Val: "1"}, {Ns: "ab", Name: "c", Val: "2"}, {Ns: "abc", Val: "3"}, {Name: "abc", Val: "4"}}
	for _, p := range l {
		wantKnown(t, l, p.Ns, p.Name, p.Val)
	}
	wantNotKnown(t, l[:1], "ab", "c")
	wantNotKnown(t, l[1:2], "a", "bc")
	wantNotKnown(t, l[2:3], "", "abc")
	wantNotKnown(t, l[3:], "abc", "")
}

func TestPropOfListsThatAreWrong(t *testing.T) {
	// Of two alike the first counts, wherever the other stands.
	wantKnown(t, someProps("a=1 a=2"), "", "a", "1")
	wantKnown(t, someProps("a a=2"), "", "a", "")
	wantKnown(t, someProps("a=2 a"), "", "a", "2")
	wantKnown(t, someProps("b=9 u:a=5 b=1 u:a=2 b=3 u:a"), "u", "a", "5")
	wantKnown(t, someProps("b=9 u:a=5 b=1 u:a=2 b=3 u:a"), "", "b", "9")
	wantKnown(t, slices.Repeat(someProps("c=1 b=2 a=3"), 500), "", "a", "3")
	// Out of order, too many, or no Props.
	l := []impl.Prop{{Ns: "u", Name: "z", Val: "1"}, {}, {Name: "A", Val: "2"}, {Ns: "\xff", Name: "\x00", Val: everyByte()}, {Ns: strings.Repeat("n", 99), Name: "n", Val: "3"}, {Name: "a", Val: "4"}}
	for _, p := range l {
		wantKnown(t, l, p.Ns, p.Name, p.Val)
	}
	wantNotKnown(t, l, "\xfe", "\x00")
	wantNotKnown(t, l, "", "z")
	wantKnown(t, []impl.Prop{{Val: "x"}}, "", "", "x")
}

func TestPropOfLooksAtItsLengthAlone(t *testing.T) {
	room := someProps("a=1 b=2 a=3")
	wantNotKnown(t, room[:1], "", "b")
	wantNotKnown(t, room[:0], "", "a")
	wantKnown(t, room[1:], "", "a", "3")
	if val, _ := impl.PropOf(room, "", "b"); shareMemory(room[1].Val, val) || !slices.Equal(room, someProps("a=1 b=2 a=3")) {
		t.Error("PropOf shares its answer, or turns its argument")
	}
}

func wantSetTo(t *testing.T, l []impl.Prop, sets []impl.Set, want []impl.Prop) {
	t.Helper()
	kept, keptSets := slices.Clone(l), slices.Clone(sets)
	x, ok := impl.SetProps(l, sets)
	if !ok || !slices.Equal(x, want) {
		t.Errorf("SetProps(%+v, %+v) is %+v, %v, not %+v", l, sets, x, ok, want)
	}
	if ok && !impl.PropsOk(x) {
		t.Errorf("SetProps(%+v, %+v) is not PropsOk: %+v", l, sets, x)
	}
	if !slices.Equal(l, kept) || !slices.Equal(sets, keptSets) {
		t.Errorf("SetProps turns its arguments: %+v, %+v", l, sets)
	}
}

func wantNotSet(t *testing.T, l []impl.Prop, sets []impl.Set) {
	t.Helper()
	kept, keptSets := slices.Clone(l), slices.Clone(sets)
	x, ok := impl.SetProps(l, sets)
	if ok || !slices.Equal(x, kept) {
		t.Errorf("SetProps(%+v, %+v) is %+v, %v, not the list and false", l, sets, x, ok)
	}
	if !slices.Equal(l, kept) || !slices.Equal(sets, keptSets) {
		t.Errorf("SetProps turns its arguments: %+v, %+v", l, sets)
	}
}

func TestSetPropsOfOne(t *testing.T) {
	for _, x := range [][3]string{
		{"", "", ""}, {"a=1 u:b=2", "", "a=1 u:b=2"}, {"a b c d", "", "a b c d"},
		// New: alone, ahead of all, between two, behind all.
		{"", "a=1", "a=1"}, {"", "u:a", "u:a"},
		{"b=1 c=2", "a=3", "a=3 b=1 c=2"}, {"a=1 c=2", "b=3", "a=1 b=3 c=2"}, {"a=1 b=2", "c=3", "a=1 b=2 c=3"}, {"a b c", "d", "a b c d"},
		// By Ns ahead of Name, a beginning ahead of what goes on.
		{"u:b v:a", "a=1", "a=1 u:b v:a"}, {"u:b v:a", "z=1", "z=1 u:b v:a"}, {"u:b v:a", "u:a=1", "u:a=1 u:b v:a"}, {"u:b v:a", "u:z=1", "u:b u:z=1 v:a"}, {"u:b v:a", "uu:a=1", "u:b uu:a=1 v:a"}, {"u:b v:a", "v:z=1", "u:b v:a v:z=1"}, {"u:b v:a", "w:a=1", "u:b v:a w:a=1"}, {"u:b v:a", "U:z=1", "U:z=1 u:b v:a"},
		{"ab", "a", "a ab"}, {"a", "ab", "a ab"}, {"ab", "a-", "a- ab"}, {"u:z", "ua:a", "u:z ua:a"}, {"a=9 b=1", "a0=5", "a=9 a0=5 b=1"}, {"a9", "a10", "a10 a9"},
		// There already, with another Val, or the same, or none.
		{"a=1", "a=2", "a=2"}, {"a=1", "a=1", "a=1"}, {"a=1", "a", "a"}, {"a", "a=1", "a=1"}, {"a=1 b=2 c=3", "a=9", "a=9 b=2 c=3"}, {"a=1 b=2 c=3", "b=9", "a=1 b=9 c=3"}, {"a=1 b=2 c=3", "c=9", "a=1 b=2 c=9"}, {"a=1 b=2 c=3 d=4", "d", "a=1 b=2 c=3 d"}, {"a=1 u:a=2 v:a=3", "u:a=9", "a=1 u:a=9 v:a=3"}, {"a=1 u:a=2 v:a=3", "a=9", "a=9 u:a=2 v:a=3"},
		// Del of one that is there, and of one that is not; its Val is not looked at.
		{"a=1", "!a", ""}, {"a=1", "!a=1", ""}, {"a=1", "!a=2", ""}, {"a=1 b=2 c=3", "!a", "b=2 c=3"}, {"a=1 b=2 c=3", "!b", "a=1 c=3"}, {"a=1 b=2 c=3", "!c", "a=1 b=2"}, {"a=1 u:a=2 v:a=3", "!u:a", "a=1 v:a=3"}, {"a=1 u:a=2 v:a=3", "!a", "u:a=2 v:a=3"},
		{"", "!a", ""}, {"a=1", "!b", "a=1"}, {"b=1", "!a=2", "b=1"}, {"a=1", "!u:a", "a=1"}, {"u:a=1", "!a", "u:a=1"}, {"u:a", "!v:a", "u:a"}, {"a=1 c=2", "!b=3", "a=1 c=2"}, {"a b c d", "!e", "a b c d"}, {"a b c d", "!d", "a b c"},
	} {
		wantSetTo(t, someProps(x[0]), someSets(x[1]), someProps(x[2]))
	}
	wantSetTo(t, nil, nil, nil)
	wantSetTo(t, []impl.Prop{}, []impl.Set{}, nil)
	spaced := impl.Prop{Ns: " ", Name: "a", Val: " x "}
	wantSetTo(t, someProps("a u:a"), []impl.Set{{P: spaced}}, []impl.Prop{{Name: "a"}, spaced, {Ns: "u", Name: "a"}})
}

func TestSetPropsOneBehindTheOther(t *testing.T) {
	for _, x := range [][3]string{
		{"", "a=1 b=2", "a=1 b=2"}, {"", "b=2 a=1", "a=1 b=2"}, {"", "c v:a u:a a", "a c u:a v:a"}, {"b=1", "a=2 b=3 !z", "a=2 b=3"},
		// They take, bring and turn the same one.
		{"a=1", "!a a=2", "a=2"}, {"a=1", "a=2 !a", ""}, {"a=1", "a=2 a=3", "a=3"}, {"a=1", "a=2 !a a=4", "a=4"}, {"a=1", "!a !a", ""}, {"", "a=1 !a", ""}, {"", "!a a=1", "a=1"}, {"", "a=1 a=2 a=3", "a=3"}, {"", "a=1 !a !a a a=5 !a", ""},
		{"a=1 b=2", "!a !b", ""}, {"a=1 b=2", "!a !b b=1 a=2", "a=2 b=1"}, {"a=1 b=2", "b=9 !a", "b=9"}, {"a=1 b=2", "u:a=1 !a a=7 !u:a", "a=7 b=2"}, {"a=1 u:a=2", "u:a=3 a=4 u:a=5", "a=4 u:a=5"},
		{"a=1 b=2 c=3 d=4", "d=1 c=2 b=3 a=4", "a=4 b=3 c=2 d=1"}, {"a b c d", "!a !b !c !d", ""}, {"a b c d", "!a e", "b c d e"}, {"a b c d", "!a !b !c !d u:a u:b u:c u:d", "u:a u:b u:c u:d"},
	} {
		wantSetTo(t, someProps(x[0]), someSets(x[1]), someProps(x[2]))
	}
	wantSetTo(t, someProps("a=1"), slices.Repeat(someSets("a=2 !a b=3 a=4"), 300), someProps("a=4 b=3"))
}

func TestHowManyMayBeKnown(t *testing.T) {
	all := someProps("a=1 b=2 c=3 d=4 u:a=5 u:b=6 v:a=7")
	for n := range mostProps + 1 {
		for more := range len(all) - mostProps + 1 {
			sets := []impl.Set{}
			for _, p := range all[n : n+more] {
				sets = append(sets, impl.Set{P: p})
			}
			for range 2 {
				if n+more <= mostProps {
					wantSetTo(t, all[:n], sets, all[:n+more])
				} else {
					wantNotSet(t, all[:n], sets)
				}
				slices.Reverse(sets)
			}
		}
	}
	for _, x := range [][3]string{
		// More than MaxProps on the way, no more at the end.
		{"a b c d", "e !a", "b c d e"}, {"a b c d", "e f g h !a !b !c !d", "e f g h"}, {"a b c d", "e !e", "a b c d"}, {"", "a b c d e f !a !f", "b c d e"}, {"a b c d", "a0 !d !c !b", "a a0"}, {"a=1 b c d", "e a=2 !e", "a=2 b c d"},
		// One that is there is not one more.
		{"a=1 b=2 c=3 d=4", "d=5", "a=1 b=2 c=3 d=5"}, {"a=1 b=2 c=3 d=4", "a=5 b=6", "a=5 b=6 c=3 d=4"},
	} {
		wantSetTo(t, someProps(x[0]), someSets(x[1]), someProps(x[2]))
	}
	for _, x := range [][2]string{{"a=1 b=2 c=3 d=4", "e"}, {"a=1 b=2 c=3 d=4", "u:a"}, {"b c d e", "a=1"}, {"a b c d", "e f !a"}, {"a b c d", "!a e f"}, {"a b c d", "e !u:e"}, {"a b c d", "e e"}, {"a b c", "d e"}, {"", "a b c d e"}, {"", "e d c b a"}} {
		wantNotSet(t, someProps(x[0]), someSets(x[1]))
	}
}

// wrongProps are no Props, of Ns, of Name or of Val.
func wrongProps() []impl.Prop {
	long := strings.Repeat("x", 21)
	return []impl.Prop{
		{}, {Ns: "u"}, {Ns: "u", Val: "1"}, {Name: "A"}, {Ns: "u", Name: "1"}, {Name: "-"}, {Name: "a b"}, {Name: "a_b"}, {Name: " a"}, {Name: "a\u00e9"}, {Name: long}, {Name: "a\n"},
		{Ns: long, Name: "a"}, {Ns: "\n", Name: "a"}, {Ns: "\x7f", Name: "a"}, {Ns: "\u00e9", Name: "a"}, {Ns: "u\x00", Name: "a"},
		{Name: "a", Val: long}, {Name: "a", Val: "\t"}, {Name: "a", Val: "\xff"}, {Name: "a", Val: "x\x1f"}, {Ns: "u", Name: "b", Val: "\x7f"}, {Name: "zz", Val: everyByte()},
	}
}

func TestSetsThatAreWrong(t *testing.T) {
	for _, p := range wrongProps() {
		for _, del := range []bool{false, true} {
			wrong := impl.Set{Del: del, P: p}
			for _, l := range []string{"", "a=1", "a=1 u:b=2", "a b c d", "b a", "a a"} {
				for _, right := range []string{"", "a=9", "!a b=9", "a=5 b=6 !c u:b=7", "!a !b !c !d !u:b"} {
					sets := someSets(right)
					for at := range len(sets) + 1 {
						// Whether the others alone would be taken, or not.
						wantNotSet(t, someProps(l), slices.Insert(slices.Clone(sets), at, wrong))
					}
				}
				// What is wrong is not gone by another that takes it, or comes in its place.
				wantNotSet(t, someProps(l), []impl.Set{wrong, {Del: true, P: p}})
				wantNotSet(t, someProps(l), []impl.Set{wrong, {Del: true, P: impl.Prop{Ns: p.Ns, Name: p.Name}}})
				wantNotSet(t, someProps(l), []impl.Set{wrong, {P: impl.Prop{Ns: p.Ns, Name: p.Name}}})
			}
		}
	}
}

func TestEdgesOfSets(t *testing.T) {
	for n := range 45 {
		s := strings.Repeat("x", n)
		for _, p := range []impl.Prop{{Ns: s, Name: "a"}, {Name: "a", Val: s}, {Name: s}} {
			right := n <= 20 && p.Name != ""
			for _, del := range []bool{false, true} {
				sets := []impl.Set{{Del: del, P: p}}
				switch {
				case !right:
					wantNotSet(t, someProps("b=1"), sets)
				case del:
					wantSetTo(t, nil, sets, nil)
					wantSetTo(t, []impl.Prop{p}, sets, nil)
				default:
					wantSetTo(t, nil, sets, []impl.Prop{p})
					wantSetTo(t, []impl.Prop{p}, sets, []impl.Prop{p})
				}
			}
		}
	}
	for c := range 256 {
		one := string([]byte{byte(c)})
		plain := c >= 32 && c <= 126
		for _, x := range []struct {
			p     impl.Prop
			right bool
		}{{impl.Prop{Ns: one, Name: "a"}, plain}, {impl.Prop{Name: "a", Val: one}, plain}, {impl.Prop{Name: one}, impl.SmallName(one)}, {impl.Prop{Name: "a" + one}, impl.SmallName("a" + one)}} {
			if x.right {
				wantSetTo(t, nil, []impl.Set{{P: x.p}}, []impl.Prop{x.p})
				wantSetTo(t, nil, []impl.Set{{Del: true, P: x.p}}, nil)
			} else {
				wantNotSet(t, nil, []impl.Set{{P: x.p}})
				wantNotSet(t, nil, []impl.Set{{Del: true, P: x.p}})
			}
		}
	}
}

func TestSetPropsOfListsThatAreWrong(t *testing.T) {
	// Made right by the sets.
	for _, x := range [][3]string{
		// Two alike: all of both go, wherever they stand.
		{"a=1 a=2", "a=3", "a=3"}, {"a=1 a=1", "a=1", "a=1"}, {"a=1 a=2", "!a", ""}, {"a=1 a=2 b=3", "a=4", "a=4 b=3"}, {"a=1 b=2 b=3", "b=4", "a=1 b=4"}, {"a=1 b=2 b=3 c=4", "!b", "a=1 c=4"}, {"a=1 b=2 a=3", "a=4", "a=4 b=2"}, {"a=1 b=2 a=3", "!a", "b=2"}, {"a a a a a a a a", "a=1", "a=1"}, {"u:a=1 u:a=2 v:a", "u:a=3", "u:a=3 v:a"},
		// Out of order: it comes ahead of the first that was not less.
		{"b=1 a=2", "a=3", "a=3 b=1"}, {"b=1 a=2", "!a", "b=1"}, {"b=1 a=2", "!b", "a=2"}, {"c a b", "!c", "a b"}, {"c=1 a=2 b=3", "a=4 b=5", "a=4 b=5 c=1"}, {"b=1 a=2", "!b b=3", "a=2 b=3"}, {"b=1 a=2", "!a a=3", "a=3 b=1"}, {"u:a b=1", "b=2", "b=2 u:a"}, {"u:a b", "!u:a u:a", "b u:a"},
		// Too many.
		{"a b c d e", "!a", "b c d e"}, {"a b c d e", "!c", "a b d e"}, {"a b c d e f", "!f !e", "a b c d"}, {"a b c d d", "d=1", "a b c d=1"}, {"e d c b a", "d c b a !e", "a b c d"},
	} {
		wantNotSet(t, someProps(x[0]), nil)
		wantSetTo(t, someProps(x[0]), someSets(x[1]), someProps(x[2]))
	}
	// And not.
	for _, x := range [][2]string{
		{"a=1 a=2", "b=3"}, {"a=1 a=2", "!b"}, {"a=1 a=2", "u:a"}, {"a=1 a=2 b=3 b=4", "a=5"}, {"a=1 a=2 b=3 b=4", "!b"},
		{"b=1 a=2", "c=3"}, {"b=1 a=2", "!c"}, {"c a b", "d"}, {"c=1 b=2 a=3", "a=4"}, {"c b a", "!b"}, {"a c b", "a=1"},
		// The first that was not less is one of those that go: it stands in its place.
		{"b=1 a=2", "b=3"}, {"b=1 a=2 b=3", "b=4"}, {"c a b", "c=1"}, {"u:a b", "u:a=1"}, {"b a c", "b=1"},
		{"a b c d e", "e=1"}, {"a b c d e", "!f"}, {"a b c d e f", "!f"}, {"a b c d e", "f !a"},
	} {
		wantNotSet(t, someProps(x[0]), someSets(x[1]))
	}
	// No Props: another that is right comes in the place, or they are gone by none.
	bad := []impl.Prop{{Name: "a", Val: "\n"}, {Name: "b"}}
	wantNotSet(t, bad, nil)
	wantNotSet(t, bad, someSets("b=1"))
	wantSetTo(t, bad, someSets("a=1"), someProps("a=1 b"))
	wantSetTo(t, bad, someSets("!a"), someProps("b"))
	for _, p := range wrongProps() {
		wantNotSet(t, []impl.Prop{p}, nil)
		wantNotSet(t, []impl.Prop{p}, someSets("c=1 !d"))
		wantNotSet(t, []impl.Prop{p, p}, someSets("c=1"))
	}
	wantNotSet(t, slices.Repeat(someProps("a=1 b=2"), 500), someSets("a=1"))
	wantSetTo(t, slices.Repeat(someProps("a=1 b=2"), 500), someSets("a=1 b=3"), someProps("a=1 b=3"))
}

func keyOfProp(p impl.Prop) string { return p.Ns + "\x00" + p.Name }

// setByWords goes through the list once, as the document tells of it.
func setByWords(l []impl.Prop, x impl.Set) []impl.Prop {
	next, came := []impl.Prop{}, x.Del
	for _, p := range l {
		if !came && keyOfProp(p) >= keyOfProp(x.P) {
			next, came = append(next, x.P), true
		}
		if keyOfProp(p) != keyOfProp(x.P) {
			next = append(next, p)
		}
	}
	if !came {
		next = append(next, x.P)
	}
	return next
}

func setAllByWords(l []impl.Prop, sets []impl.Set) ([]impl.Prop, bool) {
	next := l
	for _, x := range sets {
		if !propsByWords([]impl.Prop{x.P}) {
			return l, false
		}
		next = setByWords(next, x)
	}
	if !propsByWords(next) {
		return l, false
	}
	return next, true
}

func wantSetByWords(t *testing.T, l []impl.Prop, sets []impl.Set) bool {
	t.Helper()
	want, ok := setAllByWords(l, sets)
	if ok {
		wantSetTo(t, l, sets, want)
	} else {
		wantNotSet(t, l, sets)
	}
	return ok
}

// allListsOf has all of up to this many of these.
func allListsOf[T any](each []T, most int) [][]T {
	l := [][]T{nil}
	for from, n := 0, 0; n < most; n++ {
		to := len(l)
		for _, one := range l[from:to] {
			for _, x := range each {
				l = append(l, append(slices.Clone(one), x))
			}
		}
		from = to
	}
	return l
}

func TestAllSmallSets(t *testing.T) {
	seen := map[bool]int{}
	lists := allListsOf(someProps("a=1 b=2 u:a=3"), 4)
	for _, sets := range allListsOf(someSets("a=5 !a b=6 !b u:a=7 !u:a"), 2) {
		for _, l := range lists {
			seen[wantSetByWords(t, l, sets)]++
		}
	}
	for _, sets := range allListsOf(someSets("a=5 !a b=6 u:a=7 !u:a c=8"), 4) {
		for _, l := range []string{"", "b=2", "a=1 b=2 u:a=3", "a=1 b=2 u:a=3 v:a=4", "b=1 a=2"} {
			seen[wantSetByWords(t, someProps(l), sets)]++
		}
	}
	if seen[false] < 1000 || seen[true] < 1000 {
		t.Errorf("%d are set, %d are not", seen[true], seen[false])
	}
}

func drawProp(draw *rand.Rand) impl.Prop {
	p := impl.Prop{Ns: []string{"", "u", "ua", "DAV:"}[draw.IntN(4)], Name: []string{"a", "b", "ab", "a-"}[draw.IntN(4)], Val: drawPlain(draw, 0, 20)}
	if draw.IntN(60) == 0 {
		wrong := wrongProps()
		return wrong[draw.IntN(len(wrong))]
	}
	return p
}

func drawSets(draw *rand.Rand, l []impl.Prop) []impl.Set {
	sets := []impl.Set{}
	for range draw.IntN(7) {
		x := impl.Set{Del: draw.IntN(3) == 0, P: drawProp(draw)}
		if len(l) > 0 && draw.IntN(3) == 0 {
			x.P = l[draw.IntN(len(l))]
		}
		sets = append(sets, x)
	}
	return sets
}

func TestDrawnSets(t *testing.T) {
	draw := rand.New(rand.NewPCG(12, 1))
	seen := map[bool]int{}
	for range 40000 {
		l := []impl.Prop{}
		for range draw.IntN(6) {
			l = append(l, drawProp(draw))
		}
		if draw.IntN(3) > 0 {
			slices.SortFunc(l, func(a impl.Prop, b impl.Prop) int { return strings.Compare(keyOfProp(a), keyOfProp(b)) })
		}
		seen[wantSetByWords(t, l, drawSets(draw, l))]++
	}
	if seen[false] < 5000 || seen[true] < 5000 {
		t.Errorf("%d are set, %d are not", seen[true], seen[false])
	}
}

func TestWhatIsSetIsKnown(t *testing.T) {
	draw := rand.New(rand.NewPCG(12, 2))
	taken := 0
	for range 20000 {
		l, _ := impl.SetProps(nil, drawSets(draw, nil))
		x := impl.Set{Del: draw.IntN(3) == 0, P: drawProp(draw)}
		after, ok := impl.SetProps(l, []impl.Set{x})
		if !ok {
			continue
		}
		taken++
		if x.Del {
			wantNotKnown(t, after, x.P.Ns, x.P.Name)
		} else {
			wantKnown(t, after, x.P.Ns, x.P.Name, x.P.Val)
		}
		for _, p := range l {
			if p.Ns != x.P.Ns || p.Name != x.P.Name {
				wantKnown(t, after, p.Ns, p.Name, p.Val)
			}
		}
		// The same again turns nothing more.
		wantSetTo(t, after, []impl.Set{x}, after)
		if _, was := impl.PropOf(l, x.P.Ns, x.P.Name); !was {
			x.Del = true
			wantSetTo(t, after, []impl.Set{x}, l)
		}
	}
	if taken < 10000 {
		t.Errorf("%d were taken", taken)
	}
}

func textsOfProps(l []impl.Prop) []string { return textsOfRes(impl.Res{Props: l}) }

func textsOfSets(l []impl.Set) []string {
	texts := []string{}
	for _, x := range l {
		texts = append(texts, x.P.Ns, x.P.Name, x.P.Val)
	}
	return texts
}

// roomyProps has room behind it, with something in it that is not to be
// turned.
func roomyProps(text string) []impl.Prop {
	l := someProps(text)
	return append(l, oneProp("room=1"), oneProp("behind=2"))[:len(l)]
}

func roomySets(text string) []impl.Set {
	l := someSets(text)
	return append(l, impl.Set{P: oneProp("room=1")}, impl.Set{Del: true, P: oneProp("behind=2")})[:len(l)]
}

func spoilSets(l []impl.Set) {
	for i := range l[:cap(l)] {
		l[:cap(l)][i] = impl.Set{Del: true, P: impl.Prop{Ns: "spoilt", Name: "spoilt", Val: "spoilt"}}
	}
}

func TestSetPropsAnswersNewMemory(t *testing.T) {
	for _, x := range [][2]string{
		{"name=text", ""}, {"name=text u:name=more", "u:name=other new=one"}, {"name=text", "!name"}, {"name=text b=2", "!b"}, {"a=1 b=2 c=3 d=4", "e=5 !e"}, {"", "name=text"}, {"", ""},
		// What is refused.
		{"name=text u:name=more", "new=one A=2"}, {"a=1 b=2 c=3 d=4", "e=5"}, {"name=text a=1", ""}, {"b=1 b=2", "c=3"},
	} {
		l, sets := roomyProps(x[0]), roomySets(x[1])
		room, roomSets := slices.Clone(l[:len(l)+2]), slices.Clone(sets[:len(sets)+2])
		got, ok := impl.SetProps(l, sets)
		again, _ := impl.SetProps(l, sets)
		want := slices.Clone(got)
		wantNoneShared(t, append(textsOfProps(l), textsOfSets(sets)...), textsOfProps(got))
		wantNothingBehind(t, []impl.Res{{Props: got}})
		spoilRes(impl.Res{Props: got})
		if !slices.Equal(l[:len(l)+2], room) || !slices.Equal(sets[:len(sets)+2], roomSets) {
			t.Errorf("SetProps of %q, %q (%v) turns its arguments, or the room behind them: %+v, %+v", x[0], x[1], ok, l[:len(l)+2], sets[:len(sets)+2])
		}
		spoilRes(impl.Res{Props: l})
		spoilSets(sets)
		if !slices.Equal(again, want) {
			t.Errorf("SetProps of %q, %q (%v): what was answered turns: %+v", x[0], x[1], ok, again)
		}
	}
	room, sets := someProps("a=1 b=2 a=3"), someSets("c=4 A=5")
	wantSetTo(t, room[:2], sets[:1], someProps("a=1 b=2 c=4"))
	wantSetTo(t, room[:1], sets[:0], someProps("a=1"))
}

// A patchAsk is all that Patch is handed.
type patchAsk struct {
	l    []impl.Res
	p    []string
	sets []impl.Set
}

func (a patchAsk) want(t *testing.T, code int, want []impl.Res) {
	t.Helper()
	kept, p, sets := deepTree(a.l), slices.Clone(a.p), slices.Clone(a.sets)
	l, c := impl.Patch(a.l, a.p, a.sets)
	if c != code || !sameTreeByParts(l, want) {
		t.Errorf("Patch(%+v, %q, %+v) is %+v, %d, not %+v, %d", a.l, a.p, a.sets, l, c, want, code)
	}
	if !sameTreeByParts(a.l, kept) || !slices.Equal(a.p, p) || !slices.Equal(a.sets, sets) {
		t.Errorf("Patch turns its arguments: %+v, %q, %+v", a.l, a.p, a.sets)
	}
	if c == 207 && !impl.TreeOk(l) {
		t.Errorf("Patch(%+v, %q, %+v) is no tree: %+v", a.l, a.p, a.sets, l)
	}
}

func (a patchAsk) wantRefused(t *testing.T, code int) {
	t.Helper()
	a.want(t, code, deepTree(a.l))
}

// wantPatched says what is known behind it; all else stays.
func wantPatched(t *testing.T, l []impl.Res, p string, sets string, props string) {
	t.Helper()
	want := deepTree(l)
	for i, r := range want {
		if keyOf(r.Path) == keyOf(path(p)) {
			want[i].Props = someProps(props)
		}
	}
	patchAsk{l, path(p), someSets(sets)}.want(t, 207, want)
}

func TestPatch(t *testing.T) {
	l := someTree()
	// Of a text.
	wantPatched(t, l, "a/b", "p=9", "p=9 q=2 u:p=3")
	wantPatched(t, l, "a/b", "!p !q !u:p", "")
	wantPatched(t, l, "a/b", "o=0", "o=0 p q=2 u:p=3")
	wantPatched(t, l, "a/b", "p0=0", "p p0=0 q=2 u:p=3")
	wantPatched(t, l, "a/b", "v:a=0", "p q=2 u:p=3 v:a=0")
	wantPatched(t, l, "a/b", "v:a=0 v:b=0 !v:a", "p q=2 u:p=3 v:b=0")
	wantPatched(t, l, "a/b", "!v:a", "p q=2 u:p=3")
	wantPatched(t, l, "a/cd", "z=1 a=2", "a=2 z=1")
	wantPatched(t, l, "a-", "a=1", "a=1")
	wantPatched(t, l, "ab/b", "u:a", "u:a")
	wantPatched(t, l, "a/c/d/e", "!u:r r=1", "r=1")
	// Of a shelf, with things on it or not: what is on it stays.
	wantPatched(t, l, "a", "p=2 q=3", "p=2 q=3")
	wantPatched(t, l, "a", "!p", "")
	wantPatched(t, l, "a/c", "p=2", "p=2")
	wantPatched(t, l, "a/c/d", "u:r=1", "u:r=1")
	wantPatched(t, l, "ab", "a b c d", "a b c d")
	wantPatched(t, l, "b", "u:a=1", "u:a=1")
	// No sets.
	for _, r := range append(someTree(), fullTree()...) {
		patchAsk{fullTree(), r.Path, nil}.want(t, 207, fullTree())
		patchAsk{fullTree(), r.Path, []impl.Set{}}.want(t, 207, fullTree())
		patchAsk{fullTree(), r.Path, someSets("!none")}.want(t, 207, fullTree())
	}
	for _, ver := range []int{0, 1, mostVer} {
		r := impl.Res{Path: path("a"), Body: everyByte()[:impl.MaxBody], Ver: ver}
		wantPatched(t, []impl.Res{r}, "a", "x=1", "x=1")
	}
}

func TestPatchOfOneAlone(t *testing.T) {
	// Names that begin alike, and things that are known by the same.
	l := []impl.Res{}
	for _, p := range []string{"a", "a/a", "a/a/a", "a/aa", "a-", "aa", "aa/a"} {
		r := shelf(p)
		r.Props = someProps("a=1 b=2")
		l = append(l, r)
	}
	wantTree(t, l...)
	for i, r := range l {
		want := deepTree(l)
		want[i].Props = someProps("a=9 c=3")
		patchAsk{l, r.Path, someSets("a=9 !b c=3")}.want(t, 207, want)
	}
}

func TestPatchOfWhatIsNoTree(t *testing.T) {
	for _, l := range treesThatAreWrong() {
		for _, p := range append(pathsThatAreWrong(), nil, path("a"), path("a/b"), path("q"), path("ab")) {
			for _, sets := range [][]impl.Set{nil, someSets("a=1"), someSets("!a !b"), someSets("A"), someSets("a b c d e")} {
				patchAsk{l, p, sets}.wantRefused(t, 500)
			}
		}
	}
	// One that its sets would make right.
	l := []impl.Res{{Path: path("a"), Props: someProps("b=1 a=2")}}
	patchAsk{l, path("a"), someSets("a=3")}.wantRefused(t, 500)
	patchAsk{l, path("a"), someSets("!a")}.wantRefused(t, 500)
}

func TestPatchRefused(t *testing.T) {
	wrong := [][]impl.Set{someSets("A"), someSets("!A"), someSets("a=1 A"), someSets("a b c d e"), someSets("v:a v:b v:c v:d v:e")}
	for _, p := range wrongProps() {
		wrong = append(wrong, []impl.Set{{P: p}}, []impl.Set{{Del: true, P: p}}, append(someSets("p=9 !q"), impl.Set{P: p}))
	}
	for _, sets := range append(wrong, nil, someSets("a=1"), someSets("!p")) {
		for _, l := range [][]impl.Res{nil, someTree(), fullTree()} {
			patchAsk{l, nil, sets}.wantRefused(t, 403)
			patchAsk{l, []string{}, sets}.wantRefused(t, 403)
			for _, p := range append(pathsThatAreWrong(), path("q"), path("A"), path("aa"), path("a/a"), path("a/b/c"), path("a/c/e"), path("abc"), path("a-/x"), path("c/d"), path("q/r/s/t")) {
				patchAsk{l, p, sets}.wantRefused(t, 404)
			}
		}
	}
	for _, sets := range wrong {
		for _, r := range fullTree() {
			patchAsk{fullTree(), r.Path, sets}.wantRefused(t, 409)
		}
	}
	// One more than may be, of what is there and what comes.
	patchAsk{someTree(), path("a/b"), someSets("v:a v:b")}.wantRefused(t, 409)
	patchAsk{someTree(), path("a/b"), someSets("v:a !p !v:c v:b v:c")}.wantRefused(t, 409)
	patchAsk{someTree(), path("a"), someSets("a b c d")}.wantRefused(t, 409)
	wantPatched(t, someTree(), "a", "a b c", "a b c p=1")
	wantPatched(t, someTree(), "b", "a b c d", "a b c d")
}

func TestPatchLooksAtItsLengthAlone(t *testing.T) {
	room := []impl.Res{shelf("a"), file("b"), file("c"), {}}
	patchAsk{room[:2], path("c"), nil}.wantRefused(t, 404)
	names := []string{"a", "b", "c"}
	patchAsk{room[:2], names[:1], someSets("a=1 A")[:1]}.want(t, 207, []impl.Res{{Path: path("a"), Coll: true, Props: someProps("a=1")}, file("b")})
	patchAsk{room[:2], names[:0], nil}.wantRefused(t, 403)
	if !sameTreeByParts(room, []impl.Res{shelf("a"), file("b"), file("c"), {}}) {
		t.Errorf("what lies behind the length is written: %+v", room)
	}
}

func wantPatchInNewMemory(t *testing.T, l []impl.Res, p []string, text string) int {
	t.Helper()
	p, sets := roomyPath(p), roomySets(text)
	kept, keptPath, keptSets := wholeTree(l), slices.Clone(p[:len(p)+2]), slices.Clone(sets[:len(sets)+2])
	got, code := impl.Patch(l, p, sets)
	one, _ := impl.Patch(l, p, sets)
	again, _ := impl.Patch(l, p, sets)
	want := deepTree(got)
	wantNoneShared(t, slices.Concat(textsOfTree(l), p, textsOfSets(sets)), textsOfTree(got))
	wantNothingBehind(t, got)
	for i := range one {
		spoilRes(one[i])
		if !sameTreeByParts(one[i+1:], want[i+1:]) {
			t.Fatalf("%q, %q: two lists of one answer share: %+v", p, text, one)
		}
	}
	for _, r := range got {
		spoilRes(r)
	}
	for i := range got[:cap(got)] {
		got[:cap(got)][i] = impl.Res{Body: "spoilt"}
	}
	if !sameTreeByParts(wholeTree(l), kept) || !slices.Equal(p[:len(p)+2], keptPath) || !slices.Equal(sets[:len(sets)+2], keptSets) {
		t.Errorf("%q, %q: what is written into the answer turns an argument: %+v, %q, %+v", p, text, wholeTree(l), p[:len(p)+2], sets[:len(sets)+2])
	}
	for i, r := range l {
		spoilRes(r)
		l[i] = impl.Res{Body: "spoilt"}
	}
	spoilNames(p)
	spoilSets(sets)
	if !sameTreeByParts(again, want) {
		t.Errorf("%q, %q: what was answered turns: %+v", p, text, again)
	}
	return code
}

func TestPatchAnswersNewMemory(t *testing.T) {
	codes := map[int]int{}
	for _, p := range append(pathsThatAreWrong(), nil, path("a"), path("a/b"), path("a/c"), path("a/c/d/e"), path("b"), path("q")) {
		for _, text := range []string{"", "name=text", "p=text !q", "!p", "u:p=other p=text", "A", "p=text u:B", "a b c d e"} {
			codes[wantPatchInNewMemory(t, roomyTree(), p, text)]++
			l := roomyTree()
			l[3], l[4] = l[4], l[3]
			codes[wantPatchInNewMemory(t, l, p, text)]++
		}
	}
	for _, code := range []int{207, 403, 404, 409, 500} {
		if codes[code] < 5 {
			t.Errorf("%d: %v", code, codes)
		}
	}
}

// Two things of a tree may share a list; what is answered shares none, and
// only one of both is turned.
func TestPatchOfListsThatAreShared(t *testing.T) {
	props, names := someProps("p=1 q=2"), []string{"a", "b"}
	l := []impl.Res{{Path: names[:1], Coll: true, Props: props}, {Path: names, Props: props}, {Path: names[1:], Props: props[:1]}}
	want := deepTree(l)
	want[1].Props = someProps("p=9")
	patchAsk{l, names, someSets("p=9 !q")}.want(t, 207, want)
	got, _ := impl.Patch(l, names, someSets("p=9 !q"))
	for i := range got {
		spoilRes(got[i])
		if !sameTreeByParts(got[i+1:], want[i+1:]) {
			t.Errorf("two lists of one answer share: %+v", got)
		}
	}
	if !slices.Equal(props, someProps("p=1 q=2")) {
		t.Errorf("what is written into the answer turns the argument: %+v", props)
	}
}

func TestDrawnPatches(t *testing.T) {
	draw := rand.New(rand.NewPCG(12, 3))
	codes := map[int]int{}
	for range 30000 {
		l := drawTree(draw)
		if draw.IntN(20) == 0 && len(l) > 1 {
			i := draw.IntN(len(l) - 1)
			l[i], l[i+1] = l[i+1], l[i]
		}
		p := drawPath(draw, l)
		at := slices.IndexFunc(l, func(r impl.Res) bool { return keyOf(r.Path) == keyOf(p) })
		var known []impl.Prop
		if at >= 0 {
			known = l[at].Props
		}
		a := patchAsk{l, p, drawSets(draw, known)}
		props, ok := setAllByWords(known, a.sets)
		code := 207
		switch {
		case !treeByWords(l):
			code = 500
		case len(p) == 0:
			code = 403
		case at < 0:
			code = 404
		case !ok:
			code = 409
		}
		codes[code]++
		want := deepTree(l)
		if code == 207 {
			want[at].Props = props
		}
		a.want(t, code, want)
	}
	for _, code := range []int{207, 403, 404, 409, 500} {
		if codes[code] < 300 {
			t.Errorf("%d was seen %d times", code, codes[code])
		}
	}
}

// davOf is a Node of the space that updates are of.
func davOf(name string, kids ...impl.Node) impl.Node { return nodeIn("DAV:", nodeOf(name, kids...)) }

func setNode(leaves ...impl.Node) impl.Node { return davOf("set", davOf("prop", leaves...)) }

func removeNode(leaves ...impl.Node) impl.Node { return davOf("remove", davOf("prop", leaves...)) }

func update(kids ...impl.Node) impl.Node { return davOf("propertyupdate", kids...) }

func wantSets(t *testing.T, n impl.Node, want []impl.Set) {
	t.Helper()
	if l, ok := impl.SetsOf(n); !ok || !slices.Equal(l, want) {
		t.Errorf("SetsOf(%+v) is %+v, %v, not %+v", n, l, ok, want)
	}
}

func wantNoSets(t *testing.T, n impl.Node) {
	t.Helper()
	if l, ok := impl.SetsOf(n); ok || len(l) != 0 {
		t.Errorf("SetsOf(%+v) is %+v, %v, not nothing and false", n, l, ok)
	}
}

func TestSetsOf(t *testing.T) {
	a, b := nodeIn("u", textNode("a", "1")), textNode("b", "2")
	wantSets(t, update(), nil)
	wantSets(t, update(setNode()), nil)
	wantSets(t, update(removeNode()), nil)
	wantSets(t, update(setNode(), removeNode(), setNode()), nil)
	wantSets(t, update(setNode(a)), someSets("u:a=1"))
	wantSets(t, update(removeNode(nodeOf("a"))), someSets("!a"))
	wantSets(t, update(setNode(nodeOf("a"))), someSets("a"))
	wantSets(t, update(setNode(a, b)), someSets("u:a=1 b=2"))
	wantSets(t, update(setNode(b, a)), someSets("b=2 u:a=1"))
	wantSets(t, update(setNode(a, a)), someSets("u:a=1 u:a=1"))
	wantSets(t, update(setNode(a), setNode(b)), someSets("u:a=1 b=2"))
	wantSets(t, update(setNode(b), setNode(a)), someSets("b=2 u:a=1"))
	// Del has no Text.
	wantSets(t, update(removeNode(a)), someSets("!u:a"))
	wantSets(t, update(removeNode(a, b), setNode(a, b)), someSets("!u:a !b u:a=1 b=2"))
	wantSets(t, update(setNode(a), removeNode(b), setNode(b), setNode(), removeNode(a)), someSets("u:a=1 !b b=2 !u:a"))
	// Of the space itself, and of the names that stand around it.
	for _, name := range []string{"propertyupdate", "set", "remove", "prop", "a"} {
		leaf := davOf(name)
		leaf.Text = "x"
		wantSets(t, update(setNode(leaf), removeNode(leaf)), []impl.Set{{P: impl.Prop{Ns: "DAV:", Name: name, Val: "x"}}, {Del: true, P: impl.Prop{Ns: "DAV:", Name: name}}})
	}
	// Whether they are Props is not asked here.
	odd := impl.Node{Ns: strings.Repeat("n", 99), Name: "A b", Text: everyByte()}
	wantSets(t, update(setNode(odd, impl.Node{}), removeNode(odd)), []impl.Set{{P: impl.Prop{Ns: odd.Ns, Name: odd.Name, Val: odd.Text}}, {}, {Del: true, P: impl.Prop{Ns: odd.Ns, Name: odd.Name}}})
	wantSets(t, update(setNode(textNode("a", strings.Repeat("x", 60)))), []impl.Set{{P: impl.Prop{Name: "a", Val: strings.Repeat("x", 60)}}})
	wantSets(t, update(setNode(impl.Node{Name: "a", Kids: []impl.Node{}})), someSets("a"))
}

func TestOtherTextsAreNotLookedAt(t *testing.T) {
	for _, text := range []string{" ", "x", "\n", everyByte()} {
		n := update(setNode(textNode("a", "1")), removeNode(textNode("b", "2")))
		n.Text = text
		wantSets(t, n, someSets("a=1 !b"))
		for i := range n.Kids {
			n.Kids[i].Text = text
			wantSets(t, n, someSets("a=1 !b"))
			n.Kids[i].Kids[0].Text = text
			wantSets(t, n, someSets("a=1 !b"))
		}
		for i := range n.Kids {
			n.Kids[i].Kids[0].Kids = nil
		}
		wantSets(t, n, nil)
		n.Kids = nil
		wantSets(t, n, nil)
	}
}

func TestNodesThatHaveNoSets(t *testing.T) {
	a, deep := textNode("a", "1"), nodeOf("a", nodeOf("b"))
	prop := davOf("prop", a)
	for _, n := range []impl.Node{
		{}, nodeOf("x"), nodeOf("propertyupdate"), nodeIn("dav:", nodeOf("propertyupdate")), nodeIn("DAV", nodeOf("propertyupdate")), nodeIn("DAV: ", nodeOf("propertyupdate")), nodeIn("u", nodeOf("propertyupdate")), nodeIn("propertyupdate", nodeOf("DAV:")),
		davOf("propertyupdat"), davOf("propertyupdates"), davOf("PropertyUpdate"), davOf(""), davOf("prop"), davOf("set"), davOf("multistatus"),
		nodeOf("propertyupdate", setNode(a)), nodeIn("u", nodeOf("propertyupdate", setNode(a))), davOf("update", setNode(a)), setNode(a), prop,
	} {
		wantNoSets(t, n)
	}
	for _, kid := range []impl.Node{
		// Of another name, or of another space.
		{}, davOf("put", prop), davOf("Set", prop), davOf("sets", prop), davOf("", prop), davOf("delete", prop), davOf("removed", prop), davOf("prop", a), davOf("prop", prop), davOf("propertyupdate", prop), nodeOf("set", prop), nodeOf("remove", prop), nodeIn("u", nodeOf("set", prop)), nodeIn("dav:", nodeOf("remove", prop)), nodeIn("DAV", nodeOf("set", prop)), nodeIn("set", nodeOf("DAV:", prop)), nodeOf("set"), a,
		// Without a Kid, with two, or with another one.
		davOf("set"), davOf("remove"), davOf("set", prop, prop), davOf("remove", prop, prop), davOf("set", davOf("prop"), davOf("prop")), davOf("set", prop, a), davOf("set", a, prop), davOf("remove", davOf("prop"), davOf("x")), davOf("set", a), davOf("remove", a), davOf("set", davOf("props", a)), davOf("set", davOf("Prop", a)), davOf("remove", davOf("", a)), davOf("set", nodeOf("prop", a)), davOf("remove", nodeOf("prop", a)), davOf("set", nodeIn("u", nodeOf("prop", a))), davOf("remove", nodeIn("dav:", nodeOf("prop", a))), davOf("set", nodeIn("prop", nodeOf("DAV:", a))), davOf("set", davOf("set", prop)), davOf("set", impl.Node{}), davOf("set", prop, prop, prop),
		// One of these has Kids itself.
		setNode(deep), removeNode(deep), setNode(a, deep), setNode(deep, a), removeNode(a, deep, a), setNode(impl.Node{Name: "a", Text: "both", Kids: []impl.Node{{}}}), setNode(nodeOf("a", impl.Node{})), setNode(davOf("prop", a)), setNode(setNode(a)),
	} {
		for _, n := range []impl.Node{update(kid), update(kid, setNode(a)), update(setNode(a), kid), update(removeNode(), kid, removeNode(a)), update(setNode(a), setNode(a), kid)} {
			wantNoSets(t, n)
		}
	}
}

func TestHowManySetsThereAre(t *testing.T) {
	for n := range 3 * mostSets {
		leaves, kids, pairs, want, dels, both := []impl.Node{}, []impl.Node{}, []impl.Node{}, []impl.Set{}, []impl.Set{}, []impl.Set{}
		for i := range n {
			leaf := textNode("a"+impl.NumText(i), impl.NumText(i))
			set, del := impl.Set{P: impl.Prop{Name: leaf.Name, Val: leaf.Text}}, impl.Set{Del: true, P: impl.Prop{Name: leaf.Name}}
			leaves, kids = append(leaves, leaf), append(kids, setNode(leaf))
			want, dels = append(want, set), append(dels, del)
			if i%2 == 0 {
				pairs, both = append(pairs, setNode(leaf)), append(both, set)
			} else {
				pairs, both = append(pairs, removeNode(), removeNode(leaf)), append(both, del)
			}
		}
		if n > mostSets {
			for _, node := range []impl.Node{update(setNode(leaves...)), update(removeNode(leaves...)), update(kids...), update(pairs...), update(setNode(leaves[:n-1]...), removeNode(leaves[n-1])), update(setNode(leaves[0]), removeNode(leaves[1:]...))} {
				wantNoSets(t, node)
			}
			continue
		}
		wantSets(t, update(setNode(leaves...)), want)
		wantSets(t, update(removeNode(leaves...)), dels)
		wantSets(t, update(kids...), want)
		wantSets(t, update(pairs...), both)
	}
	// Kids that have no sets do not count.
	wantSets(t, update(slices.Repeat([]impl.Node{setNode(), removeNode()}, 50)...), nil)
	wantSets(t, update(append(slices.Repeat([]impl.Node{removeNode()}, 50), setNode(slices.Repeat([]impl.Node{nodeOf("a")}, mostSets)...))...), someSets(strings.Repeat("a ", mostSets)))
}

func TestSetsOfNodesThatHaveNoEnd(t *testing.T) {
	loop := []impl.Node{davOf("propertyupdate"), davOf("set"), davOf("prop")}
	for i := range loop {
		loop[i].Kids = loop
	}
	in := []impl.Node{davOf("set")}
	in[0].Kids = in
	prop := []impl.Node{davOf("prop")}
	prop[0].Kids = prop
	// None of these could be printed.
	for i, n := range []impl.Node{loop[0], update(loop...), update(in...), update(davOf("set", prop...)), update(setNode(prop...)), update(removeNode(wideNode(100000).Kids...))} {
		if l, ok := impl.SetsOf(n); ok || len(l) != 0 {
			t.Errorf("the Node %d has sets", i)
		}
	}
}

// setsByWords looks at all, and counts at the end.
func setsByWords(n impl.Node) ([]impl.Set, bool) {
	is := func(n impl.Node, names ...string) bool { return n.Ns == "DAV:" && slices.Contains(names, n.Name) }
	ok := is(n, "propertyupdate")
	l := []impl.Set{}
	for _, kid := range n.Kids {
		ok = ok && is(kid, "set", "remove") && len(kid.Kids) == 1
		for _, prop := range kid.Kids {
			ok = ok && is(prop, "prop")
			for _, leaf := range prop.Kids {
				ok = ok && len(leaf.Kids) == 0
				x := impl.Set{Del: kid.Name == "remove", P: impl.Prop{Ns: leaf.Ns, Name: leaf.Name, Val: leaf.Text}}
				if x.Del {
					x.P.Val = ""
				}
				l = append(l, x)
			}
		}
	}
	if !ok || len(l) > mostSets {
		return nil, false
	}
	return l, true
}

func drawUpdate(draw *rand.Rand) impl.Node {
	n := update()
	for range draw.IntN(5) {
		prop := davOf("prop")
		for range draw.IntN(5) {
			leaf := nodeIn([]string{"", "u", "DAV:"}[draw.IntN(3)], textNode([]string{"a", "b", "prop", "set"}[draw.IntN(4)], drawPlain(draw, 0, 20)))
			prop.Kids = append(prop.Kids, leaf)
		}
		n.Kids = append(n.Kids, davOf([]string{"set", "remove"}[draw.IntN(2)], prop))
	}
	return n
}

// nodesIn has all of n, so that each may be turned.
func nodesIn(n *impl.Node) []*impl.Node {
	l := []*impl.Node{n}
	for i := range n.Kids {
		l = append(l, nodesIn(&n.Kids[i])...)
	}
	return l
}

func turnOneNode(draw *rand.Rand, n *impl.Node) {
	all := nodesIn(n)
	x := all[draw.IntN(len(all))]
	switch draw.IntN(6) {
	case 0:
		x.Ns = []string{"", "u", "DAV:", "dav:"}[draw.IntN(4)]
	case 1:
		x.Name = []string{"", "set", "remove", "prop", "propertyupdate", "put"}[draw.IntN(6)]
	case 2:
		x.Text = drawPlain(draw, 0, 20)
	case 3:
		x.Kids = append(slices.Clone(x.Kids), deepCopy(*all[draw.IntN(len(all))]))
	case 4:
		x.Kids = nil
	case 5:
		*x = deepCopy(*all[draw.IntN(len(all))])
	}
}

func TestDrawnUpdates(t *testing.T) {
	draw := rand.New(rand.NewPCG(12, 4))
	seen := map[bool]int{}
	for i := range 30000 {
		n := drawUpdate(draw)
		if i%2 == 0 {
			turnOneNode(draw, &n)
		}
		want, ok := setsByWords(n)
		seen[ok]++
		if ok {
			wantSets(t, n, want)
		} else {
			wantNoSets(t, n)
		}
		// Through its text, where it has one.
		if back, read := impl.ParseNode(impl.NodeText(n)); read {
			if l, same := impl.SetsOf(back); same != ok || !slices.Equal(l, want) {
				t.Errorf("SetsOf(%+v) is %+v, %v, not %+v, %v", back, l, same, want, ok)
			}
		}
	}
	if seen[false] < 5000 || seen[true] < 5000 {
		t.Errorf("%d have sets, %d have none", seen[true], seen[false])
	}
}

func wantSetsNode(t *testing.T, sets []impl.Set, want impl.Node) {
	t.Helper()
	if n := impl.SetsNode(sets); !sameByParts(n, want) {
		t.Errorf("SetsNode(%+v) is %+v, not %+v", sets, n, want)
	}
}

func TestSetsNode(t *testing.T) {
	a, b := nodeIn("u", textNode("a", "1")), textNode("b", "2")
	wantSetsNode(t, nil, update())
	wantSetsNode(t, []impl.Set{}, update())
	wantSetsNode(t, someSets("u:a=1"), update(setNode(a)))
	wantSetsNode(t, someSets("a"), update(setNode(nodeOf("a"))))
	wantSetsNode(t, someSets("!a"), update(removeNode(nodeOf("a"))))
	// Del has no Text.
	wantSetsNode(t, someSets("!a=1"), update(removeNode(nodeOf("a"))))
	wantSetsNode(t, someSets("u:a=1 b=2"), update(setNode(a), setNode(b)))
	wantSetsNode(t, someSets("b=2 u:a=1"), update(setNode(b), setNode(a)))
	wantSetsNode(t, someSets("b=2 b=2"), update(setNode(b), setNode(b)))
	wantSetsNode(t, someSets("u:a=1 !b !u:a b=2"), update(setNode(a), removeNode(nodeOf("b")), removeNode(nodeIn("u", nodeOf("a"))), setNode(b)))
	// Whatever the Props are, and however many.
	for _, p := range wrongProps() {
		wantSetsNode(t, []impl.Set{{P: p}, {Del: true, P: p}}, update(setNode(impl.Node{Ns: p.Ns, Name: p.Name, Text: p.Val}), removeNode(impl.Node{Ns: p.Ns, Name: p.Name})))
	}
	for n := range 3 * mostSets {
		wantSetsNode(t, slices.Repeat(someSets("b=2"), n), update(slices.Repeat([]impl.Node{setNode(b)}, n)...))
	}
	room := someSets("a b")
	wantSetsNode(t, room[:1], update(setNode(nodeOf("a"))))
}

func TestTextsOfUpdates(t *testing.T) {
	for text, want := range map[string]string{
		"":               `<propertyupdate xmlns="DAV:"/>`,
		"a":              `<propertyupdate xmlns="DAV:"><set><prop><a xmlns=""/></prop></set></propertyupdate>`,
		"u:a=1":          `<propertyupdate xmlns="DAV:"><set><prop><a xmlns="u">1</a></prop></set></propertyupdate>`,
		"!a=1":           `<propertyupdate xmlns="DAV:"><remove><prop><a xmlns=""/></prop></remove></propertyupdate>`,
		"a=&<> !u:b b=2": `<propertyupdate xmlns="DAV:"><set><prop><a xmlns="">&amp;&lt;&gt;</a></prop></set><remove><prop><b xmlns="u"/></prop></remove><set><prop><b xmlns="">2</b></prop></set></propertyupdate>`,
	} {
		n := impl.SetsNode(someSets(text))
		if s := impl.NodeText(n); s != want {
			t.Errorf("the text of %q is %q, not %q", text, s, want)
		}
		wantNode(t, want, n)
	}
}

// davSets is of the space that updates are of.
func davSets(text string) []impl.Set {
	l := someSets(text)
	for i := range l {
		l[i].P.Ns = "DAV:"
	}
	return l
}

func TestSetsOfTexts(t *testing.T) {
	parsed := func(inner string) impl.Node {
		n, ok := impl.ParseNode(`<propertyupdate xmlns="DAV:">` + inner + `</propertyupdate>`)
		if !ok {
			t.Fatalf("%q is no text of Nodes", inner)
		}
		return n
	}
	eight, names := "<a/><b/><c/><d/><e/><f/><g/><h/>", "a b c d e f g h"
	for _, x := range []struct {
		inner string
		want  []impl.Set
	}{
		{"", nil}, {"x", nil}, {" ", nil}, {"<set><prop/></set>", nil}, {"<set><prop>x</prop></set>", nil}, {"<remove><prop> </prop></remove>", nil},
		{" <set> <prop> <a>1</a> <b/> </prop> </set> <remove><prop/></remove> ", davSets("a=1 b")},
		{"<set><prop><a> </a></prop></set>", []impl.Set{{P: impl.Prop{Ns: "DAV:", Name: "a", Val: " "}}}},
		{`<set><prop><a xmlns="">1</a><b xmlns="u">2</b></prop></set>`, someSets("a=1 u:b=2")},
		{`<remove><prop><c xmlns="">3</c></prop></remove>`, someSets("!c")},
		{"<remove><prop><a/></prop></remove><set><prop><a>&lt;</a></prop></set>", davSets("!a a=<")},
		{`<set><prop xmlns="DAV:"><a>1</a></prop></set>`, davSets("a=1")},
		{"<set><prop>" + eight + "</prop></set>", davSets(names)},
		{"<remove><prop>" + eight + "</prop></remove>", davSets("!" + strings.ReplaceAll(names, " ", " !"))},
	} {
		wantSets(t, parsed(x.inner), x.want)
	}
	for _, inner := range []string{
		"<set><prop>" + eight + "<i/></prop></set>", "<set><prop>" + eight + "</prop></set><remove><prop><i/></prop></remove>",
		`<set xmlns="u"><prop xmlns="DAV:"><a>1</a></prop></set>`, `<set><prop xmlns="u"><a>1</a></prop></set>`, `<set xmlns=""><prop/></set>`,
		"<set><prop><a><b/></a></prop></set>", "<set><prop><a>1</a></prop></set><bad/>", "<set>x</set>", "<set/>", "<remove/>", "<put><prop/></put>", "<prop/>", "<set><prop/><prop/></set>",
	} {
		wantNoSets(t, parsed(inner))
	}
}

func TestSetsComeBackOfTheirNode(t *testing.T) {
	draw := rand.New(rand.NewPCG(12, 5))
	told, many := 0, 0
	for range 10000 {
		sets := []impl.Set{}
		for range draw.IntN(11) {
			sets = append(sets, impl.Set{Del: draw.IntN(3) == 0, P: drawProp(draw)})
		}
		n := impl.SetsNode(sets)
		if len(sets) > mostSets {
			many++
			wantNoSets(t, n)
			continue
		}
		want := slices.Clone(sets)
		for i, x := range want {
			if x.Del {
				want[i].P.Val = ""
			}
		}
		wantSets(t, n, want)
		s := impl.NodeText(n)
		if impl.NodeOk(n) != (s != "") {
			t.Fatalf("NodeText(%+v) is %q", n, s)
		}
		if s == "" {
			continue
		}
		told++
		back, ok := impl.ParseNode(s)
		if !ok || !sameByParts(back, n) {
			t.Fatalf("ParseNode(%q) is %+v, %v", s, back, ok)
		}
		wantSets(t, back, want)
		wantSetsNode(t, want, n)
	}
	if told < 3000 || many < 500 {
		t.Errorf("%d have a text, %d are too many", told, many)
	}
}

func TestSetsAreNewMemory(t *testing.T) {
	made := update(setNode(nodeIn("space", textNode("name", "text")), textNode("more", "words")), removeNode(nodeIn("space", textNode("gone", "text"))))
	n := deepCopy(made)
	for _, x := range nodesIn(&n) {
		if len(x.Kids) > 0 {
			x.Kids[:cap(x.Kids)][len(x.Kids)] = nodeOf("room")
		}
	}
	l, _ := impl.SetsOf(n)
	again, _ := impl.SetsOf(n)
	want := slices.Clone(l)
	wantNoneShared(t, partsOf(n), textsOfSets(l))
	for _, x := range l[len(l):cap(l)] {
		if x != (impl.Set{}) {
			t.Errorf("%+v is handed out behind the list", x)
		}
	}
	spoilSets(l)
	if !sameByParts(n, made) {
		t.Errorf("SetsOf turns its argument: %+v", n)
	}
	for _, x := range nodesIn(&n) {
		if len(x.Kids) > 0 && x.Kids[:cap(x.Kids)][len(x.Kids)].Name != "room" {
			t.Errorf("SetsOf writes behind a list: %+v", x.Kids[:cap(x.Kids)])
		}
	}
	spoil(n)
	if !slices.Equal(again, want) {
		t.Errorf("what was answered turns: %+v", again)
	}
}

func TestSetsNodesAreNewMemory(t *testing.T) {
	const text = "space:name=text more=words !space:gone=text more=words"
	sets := roomySets(text)
	kept := slices.Clone(sets[:len(sets)+2])
	n, again := impl.SetsNode(sets), impl.SetsNode(sets)
	want := deepCopy(n)
	wantNoneShared(t, textsOfSets(sets), partsOf(n))
	for i := range n.Kids {
		one := impl.SetsNode(sets)
		spoil(one.Kids[i])
		for j, kid := range one.Kids {
			if j != i && !sameByParts(kid, want.Kids[j]) {
				t.Errorf("two lists of one answer share: %+v", one)
			}
		}
	}
	for _, x := range nodesIn(&n) {
		for _, kid := range x.Kids[len(x.Kids):cap(x.Kids)] {
			if !sameByParts(kid, impl.Node{}) {
				t.Errorf("%+v is handed out behind a list", kid)
			}
		}
	}
	spoil(n)
	if !slices.Equal(sets[:len(sets)+2], kept) {
		t.Errorf("SetsNode turns its argument: %+v", sets[:len(sets)+2])
	}
	spoilSets(sets)
	if !sameByParts(again, want) {
		t.Errorf("what was answered turns: %+v", again)
	}
}

func TestWhatSetsRefuseLeavesNothingBehind(t *testing.T) {
	for _, p := range wrongProps() {
		wantNotSet(t, someProps("a=1"), []impl.Set{{P: oneProp("b=2")}, {P: p}})
		wantSetTo(t, someProps("a=1"), someSets("c=3"), someProps("a=1 c=3"))
		patchAsk{someTree(), path("a"), []impl.Set{{P: oneProp("b=2")}, {P: p}}}.wantRefused(t, 409)
		wantPatched(t, someTree(), "a", "c=3", "c=3 p=1")
		wantNoSets(t, update(setNode(nodeOf("a")), nodeOf("b")))
		wantSets(t, update(setNode(nodeOf("c"))), someSets("c"))
	}
}

// Things are keyed by a struct.
func TestThingsAreKeyedByAStruct(t *testing.T) {
	f, err := parser.ParseFile(token.NewFileSet(), "../impl/l12_prop.go", nil, parser.SkipObjectResolution)
	if err != nil {
		t.Fatal(err)
	}
	structs, keys := map[string]bool{}, []string{}
	ast.Inspect(f, func(n ast.Node) bool {
		switch x := n.(type) {
		case *ast.TypeSpec:
			_, structs[x.Name.Name] = x.Type.(*ast.StructType)
		case *ast.MapType:
			if key, ok := x.Key.(*ast.Ident); ok {
				keys = append(keys, key.Name)
			}
		}
		return true
	})
	if !slices.ContainsFunc(keys, func(key string) bool { return structs[key] }) {
		t.Error("no map of l12_prop.go is keyed by a struct")
	}
}
