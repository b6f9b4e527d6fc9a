package check

import (
	"math"
	"strings"
	"testing"

	"kinshape/api"
)

type badSchema struct {
	s    api.Schema
	want api.Errno
}

// badSchemas has one of each error of chapters 3 and 4.
func badSchemas() []badSchema {
	kinds := func(l ...api.Kind) api.Schema { return api.Schema{Kinds: l} }
	bonds := func(l ...api.Bond) api.Schema { return api.Schema{Kinds: []api.Kind{{Name: "a"}}, Bonds: l} }
	fields := func(l ...api.Field) api.Schema { return kinds(api.Kind{Name: "a", Fields: l}) }
	manyKinds, manyBonds := fullSchema(), fullSchema()
	manyKinds.Kinds = append(manyKinds.Kinds, api.Kind{Name: "zz"})
	manyBonds.Bonds = append(manyBonds.Bonds, api.Bond{Name: "zz", From: "a", To: "a"})
	return []badSchema{
		{manyKinds, api.ErrFull},
		{manyBonds, api.ErrFull},
		{kinds(api.Kind{}), api.ErrSyntax},
		{kinds(api.Kind{Name: "a"}, api.Kind{Name: "a"}), api.ErrClash},
		{kinds(api.Kind{Name: "a", Of: []string{"a"}}), api.ErrNone},
		{fields(api.Field{Name: "A", Type: api.Int}), api.ErrSyntax},
		{fields(api.Field{Name: "k"}), api.ErrType},
		{fields(api.Field{Name: "k", Type: api.Int, Key: true}), api.ErrShape},
		{fields(api.Field{Name: "k", Type: api.Int}, api.Field{Name: "k", Type: api.Int}), api.ErrClash},
		{bonds(api.Bond{From: "a", To: "a"}), api.ErrSyntax},
		{bonds(api.Bond{Name: "p", From: "a", To: "a"}, api.Bond{Name: "p", From: "a", To: "a"}), api.ErrClash},
		{bonds(api.Bond{Name: "p", From: "zz", To: "a"}), api.ErrNone},
		{bonds(api.Bond{Name: "p", From: "a", To: "zz"}), api.ErrNone},
		{bonds(api.Bond{Name: "p", From: "a", To: "a", Max: -2}), api.ErrRange},
		{bonds(api.Bond{Name: "p", From: "a", To: "a", Min: 1}), api.ErrRange},
		{api.Schema{Bonds: []api.Bond{{Name: "p", From: "a", To: "a"}}}, api.ErrNone},
	}
}

type badNode struct {
	n    api.Node
	want api.Errno
}

// badNodes has one of each error of a node, of chapters 1, 2 and 5, and where two stand, the one that is told.
func badNodes() []badNode {
	prop := func(name string, n int) api.Prop {
		return api.Prop{Name: name, Value: api.Value{Type: api.Int, N: n}}
	}
	of := func(l ...api.Prop) api.Node { return api.Node{Id: 1, Kind: "a", Record: l} }
	one := func(v api.Value) api.Node { return of(api.Prop{Name: "k", Value: v}) }
	many := of()
	for i := range api.MaxProps + 1 {
		many.Record = append(many.Record, prop(letter(i), 1))
	}
	bad := []badNode{
		{api.Node{}, api.ErrRange},
		{api.Node{Id: 1}, api.ErrSyntax},
		{api.Node{Id: 1, Kind: "A"}, api.ErrSyntax},
		{api.Node{Id: 1, Kind: "abcdefghi"}, api.ErrSyntax},
		{many, api.ErrFull},
		{of(prop("", 1)), api.ErrSyntax},
		{one(api.Value{}), api.ErrType},
		{one(api.Value{Type: 4}), api.ErrType},
		{one(api.Value{Type: api.Int, N: 1_000_001}), api.ErrRange},
		{one(api.Value{Type: api.Int, S: "1"}), api.ErrSyntax},
		{one(api.Value{Type: api.Bool, N: 2}), api.ErrRange},
		{one(api.Value{Type: api.Text, S: strings.Repeat("x", 21)}), api.ErrFull},
		{one(api.Value{Type: api.Text, S: "\n"}), api.ErrSyntax},
		// The record's own clash is told, of one node, too.
		{of(prop("k", 1), prop("k", 1)), api.ErrClash},
		{of(prop("l", 1), prop("k", 1)), api.ErrClash},
		// The id ahead of the kind, the kind ahead of the record.
		{api.Node{Id: 1001, Kind: "A", Record: many.Record}, api.ErrRange},
		{api.Node{Id: 1, Kind: "A", Record: many.Record}, api.ErrSyntax},
	}
	for _, id := range []int{0, -1, 1001, math.MaxInt, math.MinInt, 1 << 32} {
		bad = append(bad, badNode{api.Node{Id: id, Kind: "a"}, api.ErrRange})
	}
	return bad
}

type badGraph struct {
	g    api.Graph
	want api.Errno
}

// badGraphs has one of each error of chapter 5.
func badGraphs() []badGraph {
	manyNodes, manyTies := fullGraph(), fullGraph()
	manyNodes.Nodes = append(manyNodes.Nodes, api.Node{Id: 61, Kind: "a"})
	manyTies.Ties = append(manyTies.Ties, tie("z", 1, 1))
	bad := []badGraph{
		{manyNodes, api.ErrFull},
		{manyTies, api.ErrFull},
		{nodes(node(1, "a", "-"), node(1, "a", "-")), api.ErrClash},
		{nodes(node(2, "a", "-"), node(1, "a", "-")), api.ErrClash},
		{with(api.Graph{}, tie("", 1, 1)), api.ErrSyntax},
		{with(api.Graph{}, tie("p", 0, 1)), api.ErrRange},
		{with(api.Graph{}, tie("p", 1, 1001)), api.ErrRange},
		{with(api.Graph{}, tie("p", 1, 1), tie("p", 1, 1)), api.ErrClash},
		{with(api.Graph{}, tie("q", 1, 1), tie("p", 1, 1)), api.ErrClash},
		{with(nodes(api.Node{}), tie("", 1, 1)), api.ErrRange},
	}
	for _, c := range badNodes() {
		bad = append(bad, badGraph{nodes(c.n), c.want})
	}
	return bad
}

// testGraphErrors asks all that are asked of a graph for one error.
func testGraphErrors(t *testing.T, s api.Schema, g api.Graph, want api.Errno) {
	t.Helper()
	if l, err := Faults(s, g); l != nil || told(err) != want {
		t.Errorf("Faults of %v by %v: got %v, %v, want %v", g, s, l, err, want)
	}
	if is, err := Conforms(s, g); is || told(err) != want {
		t.Errorf("Conforms of %v by %v: got %v, %v, want %v", g, s, is, err, want)
	}
	for _, kind := range []string{"a", "zz", ""} {
		if n, err := Count(s, g, kind); n != 0 || told(err) != want {
			t.Errorf("Count of %q in %v by %v: got %v, %v, want %v", kind, g, s, n, err, want)
		}
	}
}

// TestSchemaErrors: C1, chapter 4's error, ahead of whatever is wrong else.
func TestSchemaErrors(t *testing.T) {
	for _, c := range badSchemas() {
		testGraphErrors(t, c.s, api.Graph{}, c.want)
		for _, bad := range badGraphs() {
			testGraphErrors(t, c.s, bad.g, c.want)
		}
		for _, bad := range append(badNodes(), badNode{n: node(1, "a", "-")}) {
			if l, err := NodeFaults(c.s, bad.n); l != nil || told(err) != c.want {
				t.Errorf("NodeFaults of %v by %v: got %v, %v, want %v", bad.n, c.s, l, err, c.want)
			}
		}
	}
}

// TestGraphErrors: C1, chapter 5's error, ahead of a kind that is none.
func TestGraphErrors(t *testing.T) {
	for _, c := range badGraphs() {
		for _, s := range []api.Schema{{}, made("kind a\nbond p a a 1 1\n"), fullSchema()} {
			testGraphErrors(t, s, c.g, c.want)
		}
	}
}

// TestNodeErrors: C1, chapter 5's errors of one node, of whatever kind.
func TestNodeErrors(t *testing.T) {
	for _, c := range badNodes() {
		for _, s := range []api.Schema{{}, made("kind a\nbond p a a 1 1\n"), fullSchema()} {
			if l, err := NodeFaults(s, c.n); l != nil || told(err) != c.want {
				t.Errorf("NodeFaults of %v by %v: got %v, %v, want %v", c.n, s, l, err, c.want)
			}
		}
	}
}
