package text

import (
	"math"
	"strings"
	"testing"

	"kinshape/api"
)

type pair struct {
	g    api.Graph
	text string
}

// pairs has graphs and their texts.
func pairs() []pair {
	return []pair{
		{api.Graph{}, ""},
		// Nodes alone.
		{nodes(node(1, "a")), "node 1 a -\n"},
		{nodes(node(1000, "abcdefgh")), "node 1000 abcdefgh -\n"},
		{nodes(node(1, "b"), node(9, "a"), node(10, "b"), node(99, "node"), node(100, "tie"), node(999, "z")), "node 1 b -\nnode 9 a -\nnode 10 b -\nnode 99 node -\nnode 100 tie -\nnode 999 z -\n"},
		{someNodes(60), nodeLines(60)},
		// Ties alone, whose ends may be no nodes.
		{ties(tie("p", 1, 1)), "tie p 1 1\n"},
		{ties(tie("abcdefgh", 1000, 999)), "tie abcdefgh 1000 999\n"},
		{ties(tie("node", 1, 2), tie("node", 2, 1), tie("tie", 1, 1)), "tie node 1 2\ntie node 2 1\ntie tie 1 1\n"},
		{ties(tie("abc", 9, 9), tie("b", 1, 1)), "tie abc 9 9\ntie b 1 1\n"},
		{ties(tie("p", 2, 999), tie("p", 10, 1), tie("p", 10, 2), tie("p", 10, 10)), "tie p 2 999\ntie p 10 1\ntie p 10 2\ntie p 10 10\n"},
		{someTies(120), tieLines(120)},
		// Both.
		{both(nodes(node(3, "a")), ties(tie("p", 1, 2))), "node 3 a -\ntie p 1 2\n"},
		{both(nodes(node(1, "a"), node(2, "b")), ties(tie("p", 1, 2), tie("p", 2, 2), tie("q", 2, 1))), "node 1 a -\nnode 2 b -\ntie p 1 2\ntie p 2 2\ntie q 2 1\n"},
		{both(someNodes(60), someTies(120)), nodeLines(60) + tieLines(120)},
		// Each kind of value.
		{nodes(node(1, "a", prop("x", number(0)))), "node 1 a x=0\n"},
		{nodes(node(1, "a", prop("x", number(1000000)))), "node 1 a x=1000000\n"},
		{nodes(node(1, "a", prop("x", number(-1000000)))), "node 1 a x=-1000000\n"},
		{nodes(node(1, "a", prop("x", truth(0)), prop("y", truth(1)))), "node 1 a x=false,y=true\n"},
		{nodes(node(1, "a", prop("x", words("")))), "node 1 a x=''\n"},
		{nodes(node(1, "a", prop("i", number(-7)), prop("is", truth(1)), prop("text", words("u"))), node(2, "b")), "node 1 a i=-7,is=true,text='u'\nnode 2 b -\n"},
		{nodes(node(1, "a", someProps(8)...)), "node 1 a a=0,b=1,c=2,d=3,e=4,f=5,g=6,h=7\n"},
		// Texts of bytes that stand between other things.
		{nodes(node(1, "a", prop("x", words(" ")))), "node 1 a x=' '\n"},
		{nodes(node(1, "a", prop("x", words("  a  b ")))), "node 1 a x='  a  b '\n"},
		{nodes(node(1, "a", prop("x", words(",")), prop("y", words("a,b=1")))), "node 1 a x=',',y='a,b=1'\n"},
		{nodes(node(1, "a", prop("x", words("'")), prop("y", words("it's")), prop("z", words("''")))), "node 1 a x='''',y='it''s',z=''''''\n"},
		{nodes(node(1, "a", prop("x", words("', '")))), "node 1 a x=''', '''\n"},
		{nodes(node(1, "a", prop("x", words("-")), prop("y", words("node 1 a -")))), "node 1 a x='-',y='node 1 a -'\n"},
		{both(nodes(node(1, "a", prop("x", words("tie p 1 1")))), ties(tie("p", 1, 1))), "node 1 a x='tie p 1 1'\ntie p 1 1\n"},
		{nodes(node(1, "a", prop("x", words("\\n\"~")))), "node 1 a x='\\n\"~'\n"},
		{nodes(node(1, "a", prop("x", words(strings.Repeat(" ", 20))))), "node 1 a x='" + strings.Repeat(" ", 20) + "'\n"},
		{nodes(node(1, "a", prop("x", words(strings.Repeat("'", 20))))), "node 1 a x=" + strings.Repeat("'", 42) + "\n"},
	}
}

// TestPrintParse: T1, graphs and their texts, there and back.
func TestPrintParse(t *testing.T) {
	for _, p := range pairs() {
		testBoth(t, p.g, p.text)
	}
}

// TestPrintBytes: T1, every byte in a Text: those that one may have stand in its line, byte 10 and others are Check's error.
func TestPrintBytes(t *testing.T) {
	for c := range 256 {
		s := "u" + string([]byte{byte(c)}) + "v"
		g := nodes(node(1, "a", prop("x", words(s))), node(2, "b"))
		if 32 <= c && c <= 126 {
			testBoth(t, g, "node 1 a x='"+strings.ReplaceAll(s, "'", "''")+"'\nnode 2 b -\n")
			continue
		}
		if got, err := Print(g); got != "" || told(err) != api.ErrSyntax {
			t.Errorf("Print with byte %d: got %q, %v", c, got, err)
		}
	}
}

// TestPrintLines: T1, a line a Node, then a line a Tie, each ended by byte 10, and one blank between its words.
func TestPrintLines(t *testing.T) {
	for n := range 61 {
		for _, m := range []int{0, 1, 2, 3, 119, 120} {
			testBoth(t, both(someNodes(n), someTies(m)), nodeLines(n)+tieLines(m))
		}
	}
}

type badGraph struct {
	g    api.Graph
	want api.Errno
}

// badNodes has nodes that are none behind 5, each with several faults: that which is told comes first.
func badNodes() (l []badGraph) {
	wrong := api.Record{prop("x", number(1000001)), prop("X", number(1))}
	records := []struct {
		r    api.Record
		want api.Errno
	}{
		{make(api.Record, 9), api.ErrFull},
		{someProps(9), api.ErrFull},
		{wrong, api.ErrRange},
		{wrong[1:], api.ErrSyntax},
		{api.Record{prop("x", api.Value{})}, api.ErrType},
		{api.Record{prop("x", words(strings.Repeat("z", 21)))}, api.ErrFull},
		{api.Record{prop("x", words("\n"))}, api.ErrSyntax},
		{api.Record{prop("x", api.Value{Type: api.Int, S: "1"})}, api.ErrSyntax},
		{api.Record{prop("x", number(1)), prop("x", number(1))}, api.ErrClash},
		{api.Record{prop("y", number(1)), prop("x", number(1))}, api.ErrClash},
	}
	for _, r := range records {
		for _, kind := range append(noNames(), "", "a b", "a\n", "a") {
			for _, id := range []int{0, -1, 1001, math.MaxInt, math.MinInt} {
				l = append(l, badGraph{nodes(node(id, kind, r.r...)), api.ErrRange})
			}
			l = append(l, badGraph{nodes(node(5, kind, r.r...)), api.ErrClash}, badGraph{nodes(node(4, kind, r.r...)), api.ErrClash})
			if kind == "a" {
				l = append(l, badGraph{nodes(node(6, kind, r.r...)), r.want})
				continue
			}
			l = append(l, badGraph{nodes(node(6, kind, r.r...)), api.ErrSyntax})
		}
	}
	return l
}

// badTies has ties that are none behind p 5 5, so, too.
func badTies() (l []badGraph) {
	for _, id := range []int{0, -1, 1001, math.MaxInt, math.MinInt} {
		for _, bond := range append(noNames(), "", "p p", "p\n") {
			l = append(l, badGraph{ties(tie(bond, id, 1)), api.ErrSyntax}, badGraph{ties(tie(bond, 1, id)), api.ErrSyntax}, badGraph{ties(tie(bond, 6, 6)), api.ErrSyntax})
		}
		l = append(l, badGraph{ties(tie("p", id, 1)), api.ErrRange}, badGraph{ties(tie("o", 1, id)), api.ErrRange}, badGraph{ties(tie("p", 5, id)), api.ErrRange})
	}
	for _, b := range []api.Tie{tie("p", 5, 5), tie("p", 5, 4), tie("p", 4, 6), tie("o", 6, 6)} {
		l = append(l, badGraph{ties(b), api.ErrClash})
	}
	return l
}

// badGraphs has graphs that are none, and which of their errors comes first.
func badGraphs() []badGraph {
	five, tied := nodes(node(5, "a")), ties(tie("p", 5, 5))
	l := []badGraph{
		{someNodes(61), api.ErrFull},
		{someTies(121), api.ErrFull},
		{both(someNodes(61), someTies(121)), api.ErrFull},
		{nodes(make([]api.Node, 61)...), api.ErrFull},
		{ties(make([]api.Tie, 121)...), api.ErrFull},
		{both(nodes(node(0, "A")), someTies(121)), api.ErrFull},
		{both(someNodes(61), ties(tie("P", 0, 0))), api.ErrFull},
	}
	for _, b := range badNodes() {
		l = append(l, badGraph{nodes(append(five.Nodes[:1:1], b.g.Nodes...)...), b.want})
		// What is wrong with a node comes ahead of what is with one behind it, and of what is with a tie.
		more := nodes(append(five.Nodes[:1:1], b.g.Nodes[0], node(0, "a"), node(1, "A"))...)
		l = append(l, badGraph{more, b.want}, badGraph{both(more, ties(tie("P", 0, 0))), b.want})
	}
	for _, b := range badTies() {
		l = append(l, badGraph{both(five, ties(append(tied.Ties[:1:1], b.g.Ties...)...)), b.want})
		l = append(l, badGraph{ties(append(tied.Ties[:1:1], b.g.Ties[0], tie("P", 0, 0), tie("a", 1, 1))...), b.want})
	}
	return l
}

// TestPrintErrors: T1 and P1, each error of chapter 5's Check, which comes first, and no text with it.
func TestPrintErrors(t *testing.T) {
	for _, b := range badGraphs() {
		if got, err := Print(b.g); got != "" || told(err) != b.want {
			t.Errorf("Print(%v): got %q, %v, want %v", b.g, got, err, b.want)
		}
	}
}
