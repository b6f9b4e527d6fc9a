package text

import (
	"fmt"
	"slices"
	"strconv"
	"strings"
	"testing"

	"kinshape/api"
	"kinshape/plain"
)

func told(err error) api.Errno { return plain.Told(err) }

func number(n int) api.Value   { return api.Value{Type: api.Int, N: n} }
func truth(n int) api.Value    { return api.Value{Type: api.Bool, N: n} }
func words(s string) api.Value { return api.Value{Type: api.Text, S: s} }

func prop(name string, v api.Value) api.Prop { return api.Prop{Name: name, Value: v} }

func tie(bond string, from, to int) api.Tie { return api.Tie{Bond: bond, From: from, To: to} }

func node(id int, kind string, l ...api.Prop) api.Node {
	return api.Node{Id: id, Kind: kind, Record: l}
}

func nodes(l ...api.Node) api.Graph { return api.Graph{Nodes: l} }
func ties(l ...api.Tie) api.Graph   { return api.Graph{Ties: l} }

// both makes a graph of the nodes of one and the ties of another one.
func both(a, b api.Graph) api.Graph { return api.Graph{Nodes: a.Nodes, Ties: b.Ties} }

// someNodes makes a graph of n nodes, 1, 2, 3 and so on.
func someNodes(n int) (g api.Graph) {
	for i := range n {
		g.Nodes = append(g.Nodes, node(i+1, "a"))
	}
	return g
}

// someTies makes a graph of n ties out of 1, to 1, 2, 3 and so on.
func someTies(n int) (g api.Graph) {
	for i := range n {
		g.Ties = append(g.Ties, tie("p", 1, i+1))
	}
	return g
}

// nodeLines has the text of someNodes, and tieLines that of someTies.
func nodeLines(n int) (text string) {
	for i := range n {
		text += fmt.Sprintf("node %d a -\n", i+1)
	}
	return text
}

func tieLines(n int) (text string) {
	for i := range n {
		text += fmt.Sprintf("tie p 1 %d\n", i+1)
	}
	return text
}

// someProps makes a record of n properties a, b, c and so on.
func someProps(n int) (r api.Record) {
	for i := range n {
		r = append(r, prop(string(rune('a'+i)), number(i)))
	}
	return r
}

// noNames has words without a blank that are no names.
func noNames() []string {
	return []string{"A", "a1", "aB", "ä", "a\x00", "\xff", "a!", "a,b", "=", "-", "'", "a\r", "\t", "1", "abcdefghi", strings.Repeat("a", 1000)}
}

func sameNode(a, b api.Node) bool {
	return a.Id == b.Id && a.Kind == b.Kind && slices.Equal(a.Record, b.Record)
}

func sameGraph(a, b api.Graph) bool {
	return slices.EqualFunc(a.Nodes, b.Nodes, sameNode) && slices.Equal(a.Ties, b.Ties)
}

func isEmpty(g api.Graph) bool { return g.Nodes == nil && g.Ties == nil }

// numberOf lines of a text that end.
func numberOf(text string) int { return strings.Count(text, "\n") }

// testBoth asks Print of a graph for a text, and Parse of it for the graph.
func testBoth(t *testing.T, g api.Graph, text string) {
	t.Helper()
	if got, err := Print(g); got != text || err != nil {
		t.Errorf("Print(%v): got %q, %v, want %q", g, got, err, text)
	}
	if got, at, err := Parse(text); !sameGraph(got, g) || at != 0 || err != nil {
		t.Errorf("Parse(%q): got %v, %d, %v, want %v", text, got, at, err, g)
	}
}

// testBad asks Parse for an error, at a line.
func testBad(t *testing.T, text string, at int, want api.Errno) {
	t.Helper()
	if g, n, err := Parse(text); !isEmpty(g) || n != at || told(err) != want {
		t.Errorf("Parse(%q): got %v, %d, %v, want %d, %v", text, g, n, err, at, want)
	}
}

// testNoLine asks Parse for ErrSyntax at that line.
func testNoLine(t *testing.T, text string, at int) {
	t.Helper()
	testBad(t, text, at, api.ErrSyntax)
}

// digits has a number as it is written, and with needless ones or signs ahead.
func digits(n int) []string {
	s := strconv.Itoa(n)
	return []string{s, "0" + s, "00" + s, "-" + s, "+" + s, s + "0"}
}
