package tests

import (
	"go/ast"
	"go/parser"
	"go/token"
	"math/rand/v2"
	"regexp"
	"slices"
	"strings"
	"testing"

	"loop.example/g00452/impl"
)

const (
	mostDeep     = 5
	mostNodes    = 20
	mostNodeText = 60
)

// nodeOf is of no space.
func nodeOf(name string, kids ...impl.Node) impl.Node { return impl.Node{Name: name, Kids: kids} }

func textNode(name string, text string) impl.Node { return impl.Node{Name: name, Text: text} }

func nodeIn(ns string, n impl.Node) impl.Node {
	n.Ns = ns
	return n
}

// deepNode has one Kid within the other, the innermost one at the end.
func deepNode(deep int, innermost impl.Node) impl.Node {
	for range deep - 1 {
		innermost = nodeOf("a", innermost)
	}
	return innermost
}

func wideNode(kids int) impl.Node {
	return nodeOf("a", slices.Repeat([]impl.Node{nodeOf("b")}, kids)...)
}

func wantNode(t *testing.T, s string, want impl.Node) {
	t.Helper()
	if n, ok := impl.ParseNode(s); !ok || !sameByParts(n, want) {
		t.Errorf("ParseNode(%q) is %#v, %v, not %#v", s, n, ok, want)
	}
}

func wantNoNode(t *testing.T, s string) {
	t.Helper()
	if n, ok := impl.ParseNode(s); ok || n.Ns != "" || n.Name != "" || n.Text != "" || len(n.Kids) != 0 {
		t.Errorf("ParseNode(%q) is %#v, %v, not the zero one and false", s, n, ok)
	}
}

// sameByParts is what SameNode itself is held against, too.
func sameByParts(a impl.Node, b impl.Node) bool {
	if a.Ns != b.Ns || a.Name != b.Name || a.Text != b.Text || len(a.Kids) != len(b.Kids) {
		return false
	}
	for i := range a.Kids {
		if !sameByParts(a.Kids[i], b.Kids[i]) {
			return false
		}
	}
	return true
}

func wantNodeOk(t *testing.T, n impl.Node) {
	t.Helper()
	if !impl.NodeOk(n) {
		t.Errorf("NodeOk(%#v) is false", n)
	}
	wantNode(t, impl.NodeText(n), n)
}

func wantNotNodeOk(t *testing.T, n impl.Node) {
	t.Helper()
	if impl.NodeOk(n) {
		t.Errorf("NodeOk(%#v) is true", n)
	}
	if s := impl.NodeText(n); s != "" {
		t.Errorf("NodeText(%#v) is %q, not nothing", n, s)
	}
}

// eachPlace puts n where a Node may stand.
func eachPlace(n impl.Node) []impl.Node {
	return []impl.Node{
		n, nodeOf("a", n), nodeOf("a", nodeOf("b"), n), nodeOf("a", n, nodeOf("b")), nodeOf("a", nodeOf("b", n)),
		nodeOf("a", nodeOf("b"), nodeOf("c", nodeOf("d"), n)), deepNode(mostDeep, n), nodeIn("u", nodeOf("a", n)),
	}
}

func TestPartsOfNodesThatAreRight(t *testing.T) {
	right := []impl.Node{
		nodeOf("a"), nodeOf("z9-"), nodeOf("twenty-letters-long0"), {Name: "a", Kids: []impl.Node{}},
		nodeIn("u", nodeOf("a")), nodeIn(" ", nodeOf("a")), nodeIn("DAV:", nodeOf("a")), nodeIn("<&>\"'", nodeOf("a")), nodeIn(strings.Repeat("~", mostSpace), nodeOf("a")),
		textNode("a", "x"), textNode("a", " "), textNode("a", "<b/>&\"'"), textNode("a", strings.Repeat("~", mostNodeText)), textNode("a", strings.Repeat("&", mostNodeText)),
		textNode("a", strings.Repeat(" ", mostNodeText)), {Name: "a", Text: "x", Kids: []impl.Node{}},
	}
	for _, n := range right {
		for _, n := range eachPlace(n) {
			wantNodeOk(t, n)
		}
	}
}

func TestPartsOfNodesThatAreWrong(t *testing.T) {
	wrong := []impl.Node{
		{}, {Ns: "u"}, {Text: "x"}, {Kids: []impl.Node{nodeOf("a")}},
		nodeOf("A"), nodeOf("aB"), nodeOf("1"), nodeOf("-a"), nodeOf(" a"), nodeOf("a "), nodeOf("a_b"), nodeOf("a:b"), nodeOf("a\u00e9"), nodeOf("twenty-one-letters-00"),
		nodeIn(strings.Repeat("u", mostSpace+1), nodeOf("a")), nodeIn(strings.Repeat("\u00e9", mostSpace/2), nodeOf("a")), nodeIn("\t", nodeOf("a")),
		textNode("a", strings.Repeat("x", mostNodeText+1)), textNode("a", strings.Repeat(" ", mostNodeText+1)), textNode("a", "\t"), textNode("a", "\u00e9"),
		{Name: "a", Text: "x", Kids: []impl.Node{nodeOf("b")}}, {Name: "a", Text: " ", Kids: []impl.Node{nodeOf("b")}}, {Name: "a", Kids: make([]impl.Node, 1)},
	}
	for _, n := range wrong {
		for _, n := range eachPlace(n) {
			wantNotNodeOk(t, n)
		}
	}
}

func TestNodeOkOfEachByte(t *testing.T) {
	for c := range 256 {
		one := string([]byte{byte(c)})
		for _, s := range []string{one, "a" + one, one + "a", strings.Repeat("a", mostSpace-1) + one} {
			want := c >= 32 && c <= 126
			for _, n := range []impl.Node{nodeIn(s, nodeOf("a")), textNode("a", s)} {
				if impl.NodeOk(n) != want || impl.NodeOk(nodeOf("b", n)) != want {
					t.Errorf("NodeOk(%#v) is not %v", n, want)
				}
			}
			if n := nodeOf(s); impl.NodeOk(n) != impl.SmallName(s) {
				t.Errorf("NodeOk(%#v) is not %v", n, impl.SmallName(s))
			}
		}
	}
}

func TestHowDeepNodesAre(t *testing.T) {
	for deep := 1; deep <= 3*mostDeep; deep++ {
		for _, n := range []impl.Node{deepNode(deep, nodeOf("z")), deepNode(deep, textNode("z", "x")), deepNode(deep, nodeIn("u", nodeOf("z")))} {
			if deep <= mostDeep {
				wantNodeOk(t, n)
			} else {
				wantNotNodeOk(t, n)
			}
		}
		marks := strings.Repeat("<a>", deep-1) + "<b/>" + strings.Repeat("</a>", deep-1)
		text := strings.Repeat("<a>", deep) + "x" + strings.Repeat("</a>", deep)
		if deep <= mostDeep {
			wantNode(t, marks, deepNode(deep, nodeOf("b")))
			wantNode(t, text, deepNode(deep, textNode("a", "x")))
		} else {
			wantNoNode(t, marks)
			wantNoNode(t, text)
		}
	}
	// One of many is too deep, the last or the first.
	low, high := deepNode(mostDeep-1, nodeOf("z")), deepNode(mostDeep, nodeOf("z"))
	wantNodeOk(t, nodeOf("a", low, low, low))
	wantNotNodeOk(t, nodeOf("a", low, low, high))
	wantNotNodeOk(t, nodeOf("a", high, low, low))
}

func TestHowManyNodesThereAre(t *testing.T) {
	for n := range 3 * mostNodes {
		if n < mostNodes {
			wantNodeOk(t, wideNode(n))
			wantNode(t, "<a>"+strings.Repeat("<b/>", n)+"</a>", wideNode(n))
		} else {
			wantNotNodeOk(t, wideNode(n))
			wantNoNode(t, "<a>"+strings.Repeat("<b/>", n)+"</a>")
		}
	}
	// 1, 4 with 3 each, and 3 more are 20; the last is too much, wherever it is.
	four := slices.Repeat([]impl.Node{nodeOf("b", nodeOf("c"), nodeOf("c"), nodeOf("c"))}, 4)
	twenty := nodeOf("a", append(slices.Clone(four), nodeOf("d", nodeOf("e"), nodeOf("f")))...)
	wantNodeOk(t, twenty)
	for _, n := range []impl.Node{
		nodeOf("a", append(slices.Clone(four), nodeOf("d", nodeOf("e"), nodeOf("f")), nodeOf("g"))...),
		nodeOf("a", append(slices.Clone(four), nodeOf("d", nodeOf("e"), nodeOf("f"), nodeOf("g")))...),
		nodeOf("a", append(slices.Clone(four), nodeOf("d", nodeOf("e"), nodeOf("f", nodeOf("g"))))...),
		nodeOf("a", append([]impl.Node{nodeOf("g"), nodeOf("d", nodeOf("e"), nodeOf("f"))}, four...)...),
	} {
		wantNotNodeOk(t, n)
		wantNoNode(t, markedByHand(n))
	}
	// 5 deep, 4 at each step but the outermost one: 17, with 3 and 4 more.
	wantNodeOk(t, stairs(3))
	wantNode(t, markedByHand(stairs(3)), stairs(3))
	wantNotNodeOk(t, stairs(4))
	wantNoNode(t, markedByHand(stairs(4)))
}

// stairs is as deep as may be, with four Nodes at each step and some more at
// the lowest.
func stairs(more int) impl.Node {
	n := nodeOf("s")
	for i := range mostDeep - 1 {
		kids := []impl.Node{nodeOf("x"), nodeOf("y"), nodeOf("z"), n}
		if i == 0 {
			kids = append(kids, slices.Repeat([]impl.Node{textNode("m", "x")}, more)...)
		}
		n = nodeOf("s", kids...)
	}
	return n
}

func TestNodesThatHaveNoEnd(t *testing.T) {
	loop := []impl.Node{nodeOf("a"), nodeOf("b")}
	loop[1].Kids = loop
	many := nodeOf("a")
	for range 100 {
		many = nodeOf("a", many, many)
	}
	// None of these could be printed.
	for i, n := range []impl.Node{loop[1], nodeOf("a", loop...), many, wideNode(1000000)} {
		if impl.NodeOk(n) || impl.NodeText(n) != "" {
			t.Errorf("the Node %d is right", i)
		}
	}
}

func TestSameNode(t *testing.T) {
	b, c := textNode("b", "x"), nodeIn("u", nodeOf("c"))
	all := []impl.Node{
		{}, nodeOf("a"), nodeOf("b"), nodeOf("ab"), nodeIn("u", nodeOf("a")), nodeIn("v", nodeOf("a")), nodeIn("a", nodeOf("")), textNode("a", "x"), textNode("a", "y"), textNode("a", " "), textNode("", "a"),
		nodeOf("a", b), nodeOf("a", c), nodeOf("a", b, c), nodeOf("a", c, b), nodeOf("a", b, b), nodeOf("a", b, b, b), nodeOf("a", b, c, b), nodeOf("a", nodeOf("b")), nodeOf("a", textNode("b", "y")), nodeOf("a", nodeIn("u", b)),
		nodeOf("a", impl.Node{}), nodeOf("a", impl.Node{}, impl.Node{}), nodeIn("u", nodeOf("a", b)), {Name: "a", Text: "x", Kids: []impl.Node{b}}, {Name: "A", Text: "\n"},
		nodeOf("a", nodeOf("b", b)), nodeOf("a", nodeOf("b", c)), nodeOf("a", nodeOf("b", b, c)), nodeOf("a", nodeOf("b", b), c), nodeOf("a", nodeOf("b", nodeOf("c", b))), nodeOf("a", nodeOf("b", nodeOf("c", c))),
		deepNode(9, nodeOf("y")), deepNode(9, nodeOf("z")), deepNode(9, textNode("z", "x")), deepNode(9, nodeIn("u", nodeOf("z"))), deepNode(10, nodeOf("z")), wideNode(30), wideNode(31),
	}
	for i, a := range all {
		for j, b := range all {
			if impl.SameNode(a, deepCopy(b)) != (i == j) {
				t.Errorf("SameNode(%#v, %#v) is not %v", a, b, i == j)
			}
		}
	}
}

func deepCopy(n impl.Node) impl.Node {
	kids := make([]impl.Node, len(n.Kids), len(n.Kids)+3)
	for i, k := range n.Kids {
		kids[i] = deepCopy(k)
	}
	n.Ns, n.Name, n.Text, n.Kids = strings.Clone(n.Ns), strings.Clone(n.Name), strings.Clone(n.Text), kids
	return n
}

func TestNoKidsAndAnEmptyListAreTheSame(t *testing.T) {
	none, empty := impl.Node{Name: "a"}, impl.Node{Name: "a", Kids: []impl.Node{}}
	spare := impl.Node{Name: "a", Kids: wideNode(3).Kids[:0]}
	for _, a := range []impl.Node{none, empty, spare} {
		for _, b := range []impl.Node{none, empty, spare} {
			if !impl.SameNode(a, b) || !impl.SameNode(nodeOf("b", a), nodeOf("b", b)) {
				t.Errorf("SameNode(%#v, %#v) is false", a, b)
			}
		}
		if !impl.NodeOk(a) || impl.NodeText(a) != "<a/>" || impl.NodeText(nodeOf("b", a)) != "<b><a/></b>" {
			t.Errorf("NodeText(%#v) is %q", a, impl.NodeText(a))
		}
	}
}

func TestNodeText(t *testing.T) {
	for _, x := range []struct {
		n    impl.Node
		want string
	}{
		{nodeOf("a"), "<a/>"},
		{nodeIn("u", nodeOf("a")), `<a xmlns="u"/>`},
		{nodeIn(" ", nodeOf("a")), `<a xmlns=" "/>`},
		{nodeIn("<&>\"'", nodeOf("a")), `<a xmlns="&lt;&amp;&gt;&quot;'"/>`},
		{textNode("a", "x"), "<a>x</a>"},
		{textNode("a", " "), "<a> </a>"},
		{textNode("a", "   "), "<a>   </a>"},
		{textNode("a", " x "), "<a> x </a>"},
		{textNode("a", "<b/>&\"'"), "<a>&lt;b/&gt;&amp;&quot;'</a>"},
		{textNode("a", "&lt;"), "<a>&amp;lt;</a>"},
		{nodeIn("u", textNode("a", "x")), `<a xmlns="u">x</a>`},
		{nodeOf("a", nodeOf("b")), "<a><b/></a>"},
		{nodeOf("a", nodeOf("a")), "<a><a/></a>"},
		{nodeOf("a", nodeOf("b"), nodeOf("c"), nodeOf("b")), "<a><b/><c/><b/></a>"},
		{nodeOf("a", textNode("b", "x"), nodeOf("c", textNode("d", "y"))), "<a><b>x</b><c><d>y</d></c></a>"},
		{nodeIn("u", nodeOf("a", nodeIn("u", nodeOf("b")))), `<a xmlns="u"><b/></a>`},
		{nodeIn("u", nodeOf("a", nodeIn("v", nodeOf("b")))), `<a xmlns="u"><b xmlns="v"/></a>`},
		{nodeIn("u", nodeOf("a", nodeOf("b"))), `<a xmlns="u"><b xmlns=""/></a>`},
		{nodeOf("a", nodeIn("u", nodeOf("b"))), `<a><b xmlns="u"/></a>`},
		{nodeIn("u", nodeOf("a", nodeIn("u", textNode("b", "x")))), `<a xmlns="u"><b>x</b></a>`},
		{nodeIn("u", nodeOf("a", textNode("b", "x"))), `<a xmlns="u"><b xmlns="">x</b></a>`},
		{nodeIn("u", nodeOf("a", nodeIn("v", nodeOf("b", nodeIn("u", nodeOf("c")), nodeIn("v", nodeOf("d")))), nodeIn("u", nodeOf("e")))), `<a xmlns="u"><b xmlns="v"><c xmlns="u"/><d/></b><e/></a>`},
		{nodeIn("u", nodeOf("a", nodeOf("b", nodeOf("c"), nodeIn("u", nodeOf("d"))))), `<a xmlns="u"><b xmlns=""><c/><d xmlns="u"/></b></a>`},
		{nodeIn("u", nodeOf("a", nodeIn("v", nodeOf("b")), nodeIn("v", nodeOf("c")))), `<a xmlns="u"><b xmlns="v"/><c xmlns="v"/></a>`},
	} {
		if s := impl.NodeText(x.n); s != x.want {
			t.Errorf("NodeText(%#v) is %q, not %q", x.n, s, x.want)
		}
		wantNodeOk(t, x.n)
	}
}

// markedByHand tells Nodes that are not NodeOk, too; each names its space.
func markedByHand(n impl.Node) string {
	s := "<" + n.Name + ` xmlns="` + impl.Escape(n.Ns) + `">` + impl.Escape(n.Text)
	for _, k := range n.Kids {
		s += markedByHand(k)
	}
	return s + "</" + n.Name + ">"
}

// drawNode draws no more than left Nodes, and gives how many it left.
func drawNode(draw *rand.Rand, deep int, left int) (impl.Node, int) {
	n := nodeIn([]string{"", "u", "DAV:", drawPlain(draw, 0, mostSpace)}[draw.IntN(4)], nodeOf(drawSmallName(draw)))
	left--
	if deep == 1 || draw.IntN(4) == 0 {
		n.Text = drawPlain(draw, 0, mostNodeText)
		if draw.IntN(4) == 0 {
			n.Text = strings.Repeat(" ", draw.IntN(mostNodeText+1))
		}
		return n, left
	}
	for range draw.IntN(8) {
		if left > 0 {
			var k impl.Node
			k, left = drawNode(draw, deep-1, left)
			n.Kids = append(n.Kids, k)
		}
	}
	return n, left
}

// spacedOut puts blanks beside each mark of a text where they are passed over.
func spacedOut(draw *rand.Rand, s string) string {
	l, _ := impl.Pieces(s)
	blanks := func() string { return strings.Repeat(" ", draw.IntN(3)) }
	out := blanks()
	for i, p := range l {
		out += impl.PieceText(p)
		leaf := p.K == impl.XText || i+1 < len(l) && (l[i+1].K == impl.XText || p.K == impl.XOpen && l[i+1].K == impl.XClose)
		if !leaf {
			out += blanks()
		}
	}
	return out
}

func TestTreesComeBackOfTheirText(t *testing.T) {
	draw := rand.New(rand.NewPCG(8, 1))
	full, deep := 0, 0
	for range 4000 {
		n, left := drawNode(draw, mostDeep, mostNodes)
		wantNodeOk(t, n)
		s := impl.NodeText(n)
		for _, told := range []string{s, markedByHand(n), " " + s, s + " "} {
			if pieces, ok := impl.Pieces(told); ok {
				wantNode(t, told, n)
			} else if told == s {
				t.Errorf("NodeText(%#v) has %d pieces", n, len(pieces))
			}
		}
		if told := spacedOut(draw, s); len(piecesOf(told)) > 0 {
			wantNode(t, told, n)
		}
		if back, _ := impl.ParseNode(s); !impl.SameNode(back, n) || impl.NodeText(back) != s {
			t.Errorf("NodeText of %q is %q", s, impl.NodeText(back))
		}
		if left == 0 {
			full++
			wantNotNodeOk(t, nodeOf("a", n))
		}
		if strings.Count(s, "<") > 4 {
			deep++
		}
	}
	if full < 20 || deep < 20 {
		t.Errorf("%d of all Nodes that may be, %d of some", full, deep)
	}
}

func piecesOf(s string) []impl.Piece {
	l, _ := impl.Pieces(s)
	return l
}

func TestTheMostPiecesThatANodeHas(t *testing.T) {
	kids := slices.Repeat([]impl.Node{nodeIn(strings.Repeat("\"", mostSpace), textNode("twenty-letters-long0", strings.Repeat("\"", mostNodeText)))}, mostNodes-1)
	n := nodeOf("twenty-letters-long0", kids...)
	if l := piecesOf(impl.NodeText(n)); len(l) != 3*(mostNodes-1)+2 {
		t.Errorf("%d pieces", len(l))
	}
	wantNodeOk(t, n)
	// One text of blanks is the last of 60 pieces that may be; another is too much.
	s := impl.NodeText(n)
	wantNode(t, " "+s, n)
	wantNode(t, s+" ", n)
	wantNoNode(t, " "+s+" ")
}

func TestSpacesOfNodes(t *testing.T) {
	a, b, c := nodeOf("a"), nodeOf("b"), nodeOf("c")
	for s, want := range map[string]impl.Node{
		`<a/>`:                                                       a,
		`<a xmlns=""/>`:                                              a,
		`<a xmlns="u"/>`:                                             nodeIn("u", a),
		`<a xmlns="&#117;"/>`:                                        nodeIn("u", a),
		`<a xmlns=" "/>`:                                             nodeIn(" ", a),
		`<a xmlns="u"></a>`:                                          nodeIn("u", a),
		`<a xmlns="">x</a>`:                                          textNode("a", "x"),
		`<a><b/></a>`:                                                nodeOf("a", b),
		`<a><b xmlns=""/></a>`:                                       nodeOf("a", b),
		`<a><b xmlns="u"/></a>`:                                      nodeOf("a", nodeIn("u", b)),
		`<a><b xmlns="u"/><c/></a>`:                                  nodeOf("a", nodeIn("u", b), c),
		`<a><b xmlns="u"></b><c/></a>`:                               nodeOf("a", nodeIn("u", b), c),
		`<a xmlns="u"><b/></a>`:                                      nodeIn("u", nodeOf("a", nodeIn("u", b))),
		`<a xmlns="u"><b></b></a>`:                                   nodeIn("u", nodeOf("a", nodeIn("u", b))),
		`<a xmlns="u"><b xmlns="u"/></a>`:                            nodeIn("u", nodeOf("a", nodeIn("u", b))),
		`<a xmlns="u"><b xmlns=""/></a>`:                             nodeIn("u", nodeOf("a", b)),
		`<a xmlns="u"><b xmlns="">x</b></a>`:                         nodeIn("u", nodeOf("a", textNode("b", "x"))),
		`<a xmlns="u"><b xmlns="v"/><c/></a>`:                        nodeIn("u", nodeOf("a", nodeIn("v", b), nodeIn("u", c))),
		`<a xmlns="u"><b xmlns=""><c/></b></a>`:                      nodeIn("u", nodeOf("a", nodeOf("b", c))),
		`<a xmlns="u"><b xmlns=""><c/></b><c/></a>`:                  nodeIn("u", nodeOf("a", nodeOf("b", c), nodeIn("u", c))),
		`<a xmlns="u"><b><c/></b></a>`:                               nodeIn("u", nodeOf("a", nodeIn("u", nodeOf("b", nodeIn("u", c))))),
		`<a xmlns="u"><b xmlns="v"><c/><c xmlns="u"/></b><b/></a>`:   nodeIn("u", nodeOf("a", nodeIn("v", nodeOf("b", nodeIn("v", c), nodeIn("u", c))), nodeIn("u", b))),
		`<a xmlns="u"><a xmlns="v"><a xmlns="w"/><a/></a><a/></a>`:   nodeIn("u", nodeOf("a", nodeIn("v", nodeOf("a", nodeIn("w", a), nodeIn("v", a))), nodeIn("u", a))),
		`<a xmlns="twenty-bytes-of-text"/>`:                          nodeIn("twenty-bytes-of-text", a),
		`<a xmlns="` + strings.Repeat("&quot;", mostSpace) + `"/>`:   nodeIn(strings.Repeat("\"", mostSpace), a),
		`<a xmlns="u"><b xmlns="v">x</b><c>y</c></a>`:                nodeIn("u", nodeOf("a", nodeIn("v", textNode("b", "x")), nodeIn("u", textNode("c", "y")))),
		` <a xmlns="u"> <b xmlns="v"> <c/> </b> <c xmlns=""/> </a> `: nodeIn("u", nodeOf("a", nodeIn("v", nodeOf("b", nodeIn("v", c))), c)),
	} {
		wantNode(t, s, want)
	}
}

func TestNodesAreTakenApart(t *testing.T) {
	a, b, c := nodeOf("a"), nodeOf("b"), nodeOf("c")
	for s, want := range map[string]impl.Node{
		"<a/>":                           a,
		"<a></a>":                        a,
		"<a>x</a>":                       textNode("a", "x"),
		"<a>&lt;&#65;&apos;</a>":         textNode("a", "<A'"),
		"<a>></a>":                       textNode("a", ">"),
		"<a>&lt;b/></a>":                 textNode("a", "<b/>"),
		"<a><b/></a>":                    nodeOf("a", b),
		"<a><b></b></a>":                 nodeOf("a", b),
		"<a><b>x</b></a>":                nodeOf("a", textNode("b", "x")),
		"<a><b/><b/></a>":                nodeOf("a", b, b),
		"<a><b/><c/></a>":                nodeOf("a", b, c),
		"<a><c/><b/></a>":                nodeOf("a", c, b),
		"<a><b></b><c></c></a>":          nodeOf("a", b, c),
		"<a><b><c/></b></a>":             nodeOf("a", nodeOf("b", c)),
		"<a><b><c/></b><c/></a>":         nodeOf("a", nodeOf("b", c), c),
		"<a><a/></a>":                    nodeOf("a", a),
		"<a><a></a></a>":                 nodeOf("a", a),
		"<a><a><a>x</a></a><a>y</a></a>": nodeOf("a", nodeOf("a", textNode("a", "x")), textNode("a", "y")),
		"<twenty-letters-long0/>":        nodeOf("twenty-letters-long0"),
		"<a>" + strings.Repeat("x", mostNodeText) + "</a>":             textNode("a", strings.Repeat("x", mostNodeText)),
		"<a>" + strings.Repeat("&amp;", mostNodeText) + "</a>":         textNode("a", strings.Repeat("&", mostNodeText)),
		"<a><b>" + strings.Repeat(" ", mostNodeText) + "</b></a>":      nodeOf("a", textNode("b", strings.Repeat(" ", mostNodeText))),
		"<a><b>" + strings.Repeat("&#32;", mostNodeText) + "</b></a> ": nodeOf("a", textNode("b", strings.Repeat(" ", mostNodeText))),
	} {
		wantNode(t, s, want)
	}
}

func TestBlanksBesideMarks(t *testing.T) {
	b, c := nodeOf("b"), nodeOf("c")
	for _, blank := range []string{" ", "  ", strings.Repeat(" ", mostNodeText), strings.Repeat(" ", mostNodeText+1), strings.Repeat(" ", 1000), "&#32;", " &#32; "} {
		wantNode(t, blank+"<a/>", nodeOf("a"))
		wantNode(t, "<a/>"+blank, nodeOf("a"))
		wantNode(t, blank+"<a></a>"+blank, nodeOf("a"))
		wantNode(t, blank+"<a>x</a>"+blank, textNode("a", "x"))
		wantNode(t, "<a>"+blank+"<b/></a>", nodeOf("a", b))
		wantNode(t, "<a><b/>"+blank+"</a>", nodeOf("a", b))
		wantNode(t, "<a>"+blank+"<b/>"+blank+"</a>", nodeOf("a", b))
		wantNode(t, "<a><b/>"+blank+"<c/></a>", nodeOf("a", b, c))
		wantNode(t, "<a><b></b>"+blank+"<c></c></a>", nodeOf("a", b, c))
		wantNode(t, blank+"<a>"+blank+"<b>"+blank+"<c/>"+blank+"</b>"+blank+"<c/>"+blank+"</a>"+blank, nodeOf("a", nodeOf("b", c), c))
		for _, s := range []string{blank, blank + blank, blank + "x", "x" + blank, blank + "<a>", blank + "</a>", "<a>" + blank, "</a>" + blank, blank + "<a/>x", "x" + blank + "<a/>", blank + "x<a/>", "<a/>" + blank + "x", "<a/>" + blank + "<b/>", "<a/>" + blank + "</a>", blank + "<a/>" + blank + "<a/>" + blank, "<a>" + blank + "x<b/></a>", "<a>x" + blank + "<b/></a>", "<a><b/>" + blank + "x</a>", "<a><b/>x" + blank + "</a>", "<a>" + blank + "<b/>x</a>", "<a>x<b/>" + blank + "</a>", "<a>" + blank + "<b>" + blank + "</a>"} {
			wantNoNode(t, s)
		}
	}
}

func TestTextsOfBlanks(t *testing.T) {
	for n := 1; n <= 2*mostNodeText; n++ {
		blanks := strings.Repeat(" ", n)
		if n > mostNodeText {
			wantNoNode(t, "<a>"+blanks+"</a>")
			wantNoNode(t, "<b> <a>"+blanks+"</a> </b>")
			continue
		}
		wantNode(t, "<a>"+blanks+"</a>", textNode("a", blanks))
		wantNode(t, " <a>"+blanks+"</a> ", textNode("a", blanks))
		wantNode(t, "<b> <a>"+blanks+"</a> </b>", nodeOf("b", textNode("a", blanks)))
		wantNode(t, "<b>"+blanks+"<a>"+blanks+"</a><c></c></b>", nodeOf("b", textNode("a", blanks), nodeOf("c")))
		if n < mostNodeText {
			wantNode(t, "<a>"+blanks+"x</a>", textNode("a", blanks+"x"))
			wantNode(t, "<a>x"+blanks+"</a>", textNode("a", "x"+blanks))
		}
	}
	wantNode(t, "<a> x </a>", textNode("a", " x "))
	wantNode(t, "<b><a> x </a> <a>x</a></b>", nodeOf("b", textNode("a", " x "), textNode("a", "x")))
	// A tab is a blank, but no plain byte.
	for _, s := range []string{"\t<a/>", "<a/>\t", "<a>\t</a>", "<a>\t<b/></a>", "<a><b/>\t</a>", "<a> \t <b/></a>", "<a>&#9;<b/></a>", "\n<a/>", "<a>\r\n<b/></a>"} {
		wantNoNode(t, s)
	}
}

func TestTextsThatAreNoNode(t *testing.T) {
	for _, s := range []string{
		"", "x", "<a>", "</a>", "<a>x", "x</a>", "<a><b/>", "<a><b></b>", "<a></b>", "<a>x</b>", "<ab></a>", "<a></ab>", "<a><b></a>", "<a></b></a>", "<a/></a>", "<a></a></a>", "<a><a></a>", "<a><b></a></b>", "<a><b></c></a>", "<a></a><b>", "<a><b/></b>",
		"</a><a>", "</a><a/>", "<a/><a/>", "<a/><b/>", "<a></a><a></a>", "<a/>x", "x<a/>", "<a/>x<b/>", "<a></a>x", "x<a></a>", "<a/><", "<a/>&", "<a/>&amp;",
		"<a>x<b/></a>", "<a><b/>x</a>", "<a><b/>x<c/></a>", "<a>x<b/>y</a>", "<a>x<b>y</b></a>", "<a><b>y</b>x</a>", "<a>&lt;<b/></a>", "<a><b/>></a>", "<c><a>x<b/></a></c>", "<c><a><b/>x</a></c>", "<c><b/><a><b/>x</a></c>",
		"<A/>", "<a >x</a>", "<a/ >", "<a b=\"c\"/>", "<a xmlns='u'/>", "<a xmlns=\"twenty-one-bytes-text\"/>", "<a>&</a>", "<a>&x;</a>", "<a>\n</a>", "<a>\u00e9</a>", "<a/>\x00", "<!-- --><a/>", "<?xml?><a/>", "<twenty-one-letters-00/>",
		"<a>" + strings.Repeat("x", mostNodeText+1) + "</a>", "<a>" + strings.Repeat("&amp;", mostNodeText+1) + "</a>", "<b><a>" + strings.Repeat("x", mostNodeText+1) + "</a></b>",
		strings.Repeat("<a>", mostPieces), strings.Repeat("<a>", mostPieces/2) + strings.Repeat("</a>", mostPieces/2), strings.Repeat("</a>", mostPieces), "<a>" + strings.Repeat("<b/>", mostPieces) + "</a>", strings.Repeat("<a>", 100000),
	} {
		wantNoNode(t, s)
	}
}

// A reading by patterns: what is innermost is replaced by its place, until
// there is one alone.
var (
	leafForm  = regexp.MustCompile(`<([a-z][a-z0-9-]{0,19})( xmlns="([^"<]*)")?(?:/>|>([^<]*)</([a-z][a-z0-9-]{0,19})>)`)
	placeForm = regexp.MustCompile("\x00([^\x01]*)\x01")
	onlyForm  = regexp.MustCompile("\\A *\x00([^\x01]*)\x01 *\\z")
)

// drafts are Nodes whose space is not yet known.
type draft struct {
	node  impl.Node
	named bool
	kids  []int
}

func draftOf(m []string) (draft, bool) {
	ns, nsOk := unescapeByForm(m[3])
	d := draft{node: nodeIn(ns, nodeOf(m[1])), named: m[2] != ""}
	ok := nsOk && len(ns) <= mostSpace && (m[5] == "" || m[5] == m[1])
	if !strings.Contains(m[4], "\x00") {
		text, textOk := unescapeByForm(m[4])
		d.node.Text = text
		return d, ok && textOk
	}
	beside := placeForm.ReplaceAllString(m[4], "")
	for _, k := range placeForm.FindAllStringSubmatch(m[4], -1) {
		d.kids = append(d.kids, len(k[1])-1)
	}
	beside, besideOk := unescapeByForm(beside)
	return d, ok && besideOk && strings.Trim(beside, " ") == ""
}

func nodeOfDraft(all []draft, i int, outer string) impl.Node {
	n := all[i].node
	if !all[i].named {
		n.Ns = outer
	}
	for _, k := range all[i].kids {
		n.Kids = append(n.Kids, nodeOfDraft(all, k, n.Ns))
	}
	return n
}

func countByParts(n impl.Node) (deep int, all int) {
	all = 1
	for _, k := range n.Kids {
		d, a := countByParts(k)
		deep, all = max(deep, d), all+a
	}
	return deep + 1, all
}

func textsFit(n impl.Node) bool {
	return len(n.Text) <= mostNodeText && !slices.ContainsFunc(n.Kids, func(k impl.Node) bool { return !textsFit(k) })
}

func nodeByForm(s string) (impl.Node, bool) {
	if _, ok := piecesByForm(s); !ok {
		return impl.Node{}, false
	}
	all := []draft{}
	for {
		at := leafForm.FindStringSubmatchIndex(s)
		if at == nil {
			break
		}
		d, ok := draftOf(leafForm.FindStringSubmatch(s))
		if !ok {
			return impl.Node{}, false
		}
		all = append(all, d)
		s = s[:at[0]] + "\x00" + strings.Repeat("n", len(all)) + "\x01" + s[at[1]:]
	}
	m := onlyForm.FindStringSubmatch(strings.ReplaceAll(s, "&#32;", " "))
	if m == nil {
		return impl.Node{}, false
	}
	n := nodeOfDraft(all, len(m[1])-1, "")
	deep, count := countByParts(n)
	return n, deep <= mostDeep && count <= mostNodes && textsFit(n)
}

// wantNodeAsByForm tells whether there is a Node.
func wantNodeAsByForm(t *testing.T, s string) bool {
	t.Helper()
	n, ok := nodeByForm(s)
	if ok {
		wantNode(t, s, n)
		wantNodeOk(t, n)
	} else {
		wantNoNode(t, s)
	}
	return ok
}

func TestNodesOfWhateverIsTurned(t *testing.T) {
	seen := map[bool]int{}
	for _, s := range []string{
		`<a xmlns="u"><b>x</b> <c xmlns=""/></a>`,
		` <a> <b><b/><b></b></b><c> </c> </a> `,
		`<p xmlns="DAV:"><a>x&lt;</a><b xmlns="u"/>&#32;<c xmlns="v"><d/></c></p>`,
	} {
		for i := range len(s) {
			turned := []string{s[:i] + s[i:i+1] + s[i:]}
			for _, one := range "\t &/<>ab\"x=;" {
				turned = append(turned, s[:i]+string(one)+s[i+1:], s[:i]+string(one)+s[i:])
			}
			for _, put := range []string{"<a>", "</a>", "<b/>", "</b>", "<b xmlns=\"\">", "<c xmlns=\"u\"/>", "&#32;", "&amp;"} {
				turned = append(turned, s[:i]+put+s[i:])
			}
			for k := i; k <= len(s); k++ {
				turned = append(turned, s[i:k], s[:i]+s[k:])
			}
			for _, s := range turned {
				seen[wantNodeAsByForm(t, s)]++
			}
		}
	}
	if seen[false] < 500 || seen[true] < 500 {
		t.Errorf("of %d there is a Node, of %d there is none", seen[true], seen[false])
	}
}

func TestNodesOfDrawnMarks(t *testing.T) {
	draw := rand.New(rand.NewPCG(8, 2))
	marks := []string{"<a>", "<a>", "<b>", "</a>", "</a>", "</b>", "<a/>", "<b/>", "<a xmlns=\"\">", "<b xmlns=\"u\">", "<a xmlns=\"u\"/>", " ", " ", "x", "&lt;"}
	seen := map[bool]int{}
	for range 150000 {
		s := ""
		for range 1 + draw.IntN(9) {
			s += marks[draw.IntN(len(marks))]
		}
		seen[wantNodeAsByForm(t, s)]++
	}
	if seen[false] < 1000 || seen[true] < 1000 {
		t.Errorf("of %d there is a Node, of %d there is none", seen[true], seen[false])
	}
}

func TestKidOf(t *testing.T) {
	first, second := nodeIn("u", textNode("b", "1")), nodeIn("u", textNode("b", "2"))
	n := nodeIn("u", nodeOf("a", nodeIn("v", textNode("b", "0")), nodeOf("b", nodeOf("deep", nodeOf("deeper"))), nodeIn("u", nodeOf("c")), first, second))
	for _, x := range []struct {
		ns, name string
		want     int
	}{
		{"u", "b", 3}, {"v", "b", 0}, {"", "b", 1}, {"u", "c", 2},
		{"v", "c", -1}, {"", "c", -1}, {"u", "a", -1}, {"", "a", -1}, {"", "deep", -1}, {"", "deeper", -1}, {"u", "", -1}, {"", "", -1}, {"b", "u", -1}, {"U", "b", -1}, {"u", "B", -1}, {"ub", "", -1}, {"u ", "b", -1}, {"\xff", "\n", -1},
	} {
		k, ok := impl.KidOf(n, x.ns, x.name)
		want := impl.Node{}
		if x.want >= 0 {
			want = n.Kids[x.want]
		}
		if ok != (x.want >= 0) || !sameByParts(k, want) {
			t.Errorf("KidOf(%q, %q) is %#v, %v", x.ns, x.name, k, ok)
		}
	}
	for _, n := range []impl.Node{{}, nodeOf("a"), textNode("a", "b"), {Name: "a", Kids: []impl.Node{}}, {Name: "a", Kids: []impl.Node{first}[:0]}} {
		if k, ok := impl.KidOf(n, n.Ns, n.Name); ok || !sameByParts(k, impl.Node{}) {
			t.Errorf("KidOf(%#v) is %#v, %v", n, k, ok)
		}
		if k, ok := impl.KidOf(n, "u", "b"); ok || !sameByParts(k, impl.Node{}) {
			t.Errorf("KidOf(%#v) is %#v, %v", n, k, ok)
		}
	}
}

func TestKidOfWhatIsNoNode(t *testing.T) {
	odd := impl.Node{Ns: "\n", Name: "A", Text: "both", Kids: []impl.Node{{Name: "9"}}}
	n := impl.Node{Text: "x", Kids: []impl.Node{{}, odd}}
	if k, ok := impl.KidOf(n, "\n", "A"); !ok || !sameByParts(k, odd) {
		t.Errorf("KidOf is %#v, %v", k, ok)
	}
	if k, ok := impl.KidOf(n, "", ""); !ok || !sameByParts(k, impl.Node{}) {
		t.Errorf("KidOf is %#v, %v", k, ok)
	}
	if k, ok := impl.KidOf(deepNode(30, nodeOf("z")), "", "a"); !ok || !sameByParts(k, deepNode(29, nodeOf("z"))) {
		t.Errorf("KidOf is %#v, %v", k, ok)
	}
}

// spoil writes over all Kids and the spare room behind them.
func spoil(n impl.Node) {
	kids := n.Kids[:cap(n.Kids)]
	for i := range kids {
		spoil(kids[i])
		kids[i] = impl.Node{Ns: "spoilt", Name: "spoilt", Text: "spoilt"}
	}
}

func partsOf(n impl.Node) []string {
	l := []string{n.Ns, n.Name, n.Text}
	for _, k := range n.Kids {
		l = append(l, partsOf(k)...)
	}
	return l
}

func TestKidsAreNewMemory(t *testing.T) {
	made := nodeOf("out", nodeIn("space", nodeOf("kid", nodeIn("inner", nodeOf("grandkid", textNode("last", "text"))), textNode("side", "words"))))
	n := deepCopy(made)
	k, ok := impl.KidOf(n, "space", "kid")
	if !ok || !sameByParts(k, made.Kids[0]) {
		t.Fatalf("KidOf is %#v, %v", k, ok)
	}
	for _, a := range partsOf(n) {
		for _, b := range partsOf(k) {
			if shareMemory(a, b) {
				t.Errorf("%q shares memory with the argument", b)
			}
		}
	}
	again, _ := impl.KidOf(n, "space", "kid")
	spoil(k)
	if !sameByParts(n, made) || !sameByParts(again, made.Kids[0]) {
		t.Error("what was answered shares memory")
	}
	spoil(n)
	if !sameByParts(again, made.Kids[0]) {
		t.Error("what was answered shares memory with the argument")
	}
}

func TestParsedNodesAreNewMemory(t *testing.T) {
	s := strings.Clone(`<outer xmlns="space"><inner>text here</inner> <inner xmlns=""><last/><last></last></inner></outer>`)
	want, _ := nodeByForm(s)
	n, _ := impl.ParseNode(s)
	again, _ := impl.ParseNode(s)
	for _, x := range partsOf(n) {
		if shareMemory(s, x) {
			t.Errorf("%q shares memory with the argument", x)
		}
	}
	for i := range n.Kids {
		n, _ := impl.ParseNode(s)
		spoil(n.Kids[i])
		n.Kids[i].Kids = nil
		for j, k := range n.Kids {
			if j != i && !sameByParts(k, want.Kids[j]) {
				t.Errorf("two lists of one answer share: %#v", n)
			}
		}
	}
	spoil(n)
	if !sameByParts(again, want) {
		t.Errorf("two answers share: %#v", again)
	}
}

func TestNodesLeaveTheirArguments(t *testing.T) {
	made := nodeIn("u", nodeOf("a", nodeIn("v", nodeOf("b", textNode("c", "x"))), textNode("d", "<"), nodeOf("e")))
	n := deepCopy(made)
	spare := n.Kids[:cap(n.Kids)]
	spare[len(n.Kids)] = nodeOf("spare")
	other := deepCopy(made)
	impl.NodeOk(n)
	impl.SameNode(n, other)
	impl.NodeText(n)
	impl.KidOf(n, "v", "b")
	if !sameByParts(n, made) || !sameByParts(other, made) || spare[len(n.Kids)].Name != "spare" {
		t.Errorf("an argument is turned: %#v", n)
	}
}

func TestWhatStandsBehindAListIsNotRead(t *testing.T) {
	room := []impl.Node{nodeOf("b"), nodeOf("c"), {Name: "WRONG"}}
	n := impl.Node{Name: "a", Kids: room[:1]}
	wantNodeOk(t, n)
	if impl.NodeText(n) != "<a><b/></a>" || !impl.SameNode(n, nodeOf("a", nodeOf("b"))) {
		t.Error("what stands behind the list is read")
	}
	if k, ok := impl.KidOf(n, "", "c"); ok || k.Name != "" {
		t.Errorf("KidOf is %#v, %v", k, ok)
	}
}

func TestWhatCannotBeReadGivesUpByAPanic(t *testing.T) {
	f, err := parser.ParseFile(token.NewFileSet(), "../impl/l08_node.go", nil, parser.SkipObjectResolution)
	if err != nil {
		t.Fatal(err)
	}
	panics, caught := 0, 0
	ast.Inspect(f, func(n ast.Node) bool {
		if c, ok := n.(*ast.CallExpr); ok {
			if id, ok := c.Fun.(*ast.Ident); ok && id.Name == "panic" {
				panics++
			}
		}
		if d, ok := n.(*ast.FuncDecl); ok && d.Name.Name == "ParseNode" {
			caught += deferredRecovers(d)
		}
		return true
	})
	if panics == 0 || caught == 0 {
		t.Errorf("%d panics, %d deferred recovers at the face", panics, caught)
	}
}

func deferredRecovers(d *ast.FuncDecl) int {
	n := 0
	for _, s := range d.Body.List {
		if later, ok := s.(*ast.DeferStmt); ok {
			if lit, ok := later.Call.Fun.(*ast.FuncLit); ok && names(lit)["recover"] {
				n++
			}
		}
	}
	return n
}
