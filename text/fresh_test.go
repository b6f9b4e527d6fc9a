package text

import (
	"reflect"
	"slices"
	"testing"

	"kinshape/api"
)

// reach has all of a list's memory.
func reach[T any](l []T) []T { return l[:cap(l)] }

// fill writes into all of a list's memory.
func fill[T any](l []T, with T) {
	for i := range reach(l) {
		reach(l)[i] = with
	}
}

// cutGraph is made of lists with something behind their length that is wrong where it is read.
func cutGraph() api.Graph {
	one := api.Record{prop("x", number(1)), prop("y", words("it's")), prop("A", api.Value{})}
	two := api.Record{prop("A", api.Value{})}
	nodes := []api.Node{node(1, "a", one[:2]...), node(2, "b", two[:0]...), node(0, "A")}
	ties := []api.Tie{tie("p", 1, 2), tie("P", 0, 0)}
	return api.Graph{Nodes: nodes[:2], Ties: ties[:1]}
}

const uncutText = "node 1 a x=1,y='it''s'\nnode 2 b -\ntie p 1 2\n"

// whole has all of the memory of a graph.
func whole(g api.Graph) []any {
	all := []any{slices.Clone(reach(g.Nodes)), slices.Clone(reach(g.Ties))}
	for _, n := range g.Nodes {
		all = append(all, slices.Clone(reach(n.Record)))
	}
	return all
}

// wipe writes into all of a graph's memory, of which no list may share any with another one.
func wipe(t *testing.T, g api.Graph) {
	t.Helper()
	var kept []api.Record
	for _, n := range g.Nodes {
		kept = append(kept, slices.Clone(n.Record))
	}
	for i, n := range g.Nodes {
		if !slices.Equal(n.Record, kept[i]) {
			t.Errorf("the node %d shares memory with one ahead", n.Id)
		}
		fill(n.Record, prop("wiped", number(9)))
	}
	fill(g.Nodes, api.Node{Id: 999, Kind: "wiped"})
	fill(g.Ties, tie("wiped", 999, 999))
}

// TestFreshPrint: P2 and P4 of DOC.md, a graph stays as it is, behind its lists' length, too, with an error or without; and what lies there is not read.
func TestFreshPrint(t *testing.T) {
	g := cutGraph()
	for range 2 {
		if text, err := Print(g); text != uncutText || err != nil {
			t.Errorf("Print: got %q, %v", text, err)
		}
	}
	if before := whole(cutGraph()); !reflect.DeepEqual(whole(g), before) {
		t.Errorf("the graph is written into: %v, before %v", whole(g), before)
	}
	g.Ties[0].Bond = "P"
	if text, err := Print(g); text != "" || told(err) != api.ErrSyntax {
		t.Errorf("Print: got %q, %v", text, err)
	}
	g.Ties[0].Bond = "p"
	if before := whole(cutGraph()); !reflect.DeepEqual(whole(g), before) {
		t.Errorf("with an error the graph is written into: %v, before %v", whole(g), before)
	}
}

// TestFreshParse: P2 of DOC.md, no two lists of a graph that is read share memory, nor do two graphs of the same text.
func TestFreshParse(t *testing.T) {
	for _, p := range pairs() {
		first, _, _ := Parse(p.text)
		second, at, err := Parse(p.text)
		wipe(t, first)
		if !sameGraph(second, p.g) || at != 0 || err != nil {
			t.Errorf("Parse(%q): got %v, %d, %v, behind one that is written into", p.text, second, at, err)
		}
		wipe(t, second)
		testBoth(t, p.g, p.text)
	}
}

// TestFreshSameRecord: P2 of DOC.md, records that share memory where they are printed do not where they are read.
func TestFreshSameRecord(t *testing.T) {
	r := api.Record{prop("x", number(1)), prop("y", number(2))}
	text, err := Print(nodes(node(1, "a", r...), node(2, "a", r[:1]...), node(3, "a", r...)))
	if want := "node 1 a x=1,y=2\nnode 2 a x=1\nnode 3 a x=1,y=2\n"; text != want || err != nil {
		t.Errorf("Print: got %q, %v, want %q", text, err, want)
	}
	g, _, _ := Parse(text)
	wipe(t, g)
	if want := (api.Record{prop("x", number(1)), prop("y", number(2))}); !slices.Equal(r, want) {
		t.Errorf("the record is written into: %v", r)
	}
}
