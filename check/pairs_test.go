package check

import (
	"slices"
	"testing"

	"kinshape/api"
	"kinshape/kind"
	"kinshape/schema"
)

// valueOf is what a node has by a name.
func valueOf(n api.Node, name string) (api.Value, bool) {
	for _, p := range n.Record {
		if p.Name == name {
			return p.Value, true
		}
	}
	return api.Value{}, false
}

// fieldOf is the field of a kind of a name.
func fieldOf(s api.Schema, kindName, name string) (api.Field, bool) {
	l, _ := kind.Fields(s.Kinds, kindName)
	for _, f := range l {
		if f.Name == name {
			return f, true
		}
	}
	return api.Field{}, false
}

// keyAhead tells whether one of some nodes has the key.
func keyAhead(s api.Schema, ahead []api.Node, name string, v api.Value) bool {
	for _, n := range ahead {
		f, _ := fieldOf(s, n.Kind, name)
		if other, ok := valueOf(n, name); f.Key && ok && other == v {
			return true
		}
	}
	return false
}

// plainNode has the faults of the i-th node, as the document lists them, pair by pair.
func plainNode(s api.Schema, g api.Graph, i int) (l []api.Fault) {
	n := g.Nodes[i]
	fields, err := kind.Fields(s.Kinds, n.Kind)
	if err != nil {
		return []api.Fault{fault(api.BadKind, n.Id, n.Kind)}
	}
	for _, p := range n.Record {
		if f, ok := fieldOf(s, n.Kind, p.Name); !ok || f.Type != p.Value.Type {
			l = append(l, fault(api.BadField, n.Id, p.Name))
		}
	}
	for _, f := range fields {
		v, there := valueOf(n, f.Name)
		if f.Must && !there {
			l = append(l, fault(api.NoField, n.Id, f.Name))
		}
		if f.Key && there && v.Type == f.Type && keyAhead(s, g.Nodes[:i], f.Name, v) {
			l = append(l, fault(api.SameKey, n.Id, f.Name))
		}
	}
	names, _ := schema.From(s, n.Kind)
	for _, name := range names {
		b, _ := schema.Bond(s, name)
		count := 0
		for _, t := range g.Ties {
			if t.Bond == name && t.From == n.Id {
				count++
			}
		}
		if count < b.Min {
			l = append(l, fault(api.TooFew, n.Id, name))
		}
		if b.Max != -1 && count > b.Max {
			l = append(l, fault(api.TooMany, n.Id, name))
		}
	}
	return l
}

// plainEnd tells whether a node of an id is of a kind.
func plainEnd(s api.Schema, g api.Graph, id int, name string) bool {
	for _, n := range g.Nodes {
		if n.Id == id {
			is, err := kind.Is(s.Kinds, n.Kind, name)
			return is && err == nil
		}
	}
	return false
}

// plainFaults has all faults of a graph that is one.
func plainFaults(s api.Schema, g api.Graph) (l []api.Fault) {
	for i := range g.Nodes {
		l = append(l, plainNode(s, g, i)...)
	}
	for _, t := range g.Ties {
		b, err := schema.Bond(s, t.Bond)
		if err != nil {
			l = append(l, fault(api.BadBond, t.From, t.Bond))
		} else if !plainEnd(s, g, t.From, b.From) || !plainEnd(s, g, t.To, b.To) {
			l = append(l, fault(api.BadEnd, t.From, t.Bond))
		}
	}
	return l
}

// testPlain holds Faults against plainFaults.
func testPlain(t *testing.T, s api.Schema, g api.Graph) {
	t.Helper()
	want := plainFaults(s, g)
	if got, err := Faults(s, g); !slices.Equal(got, want) || err != nil {
		t.Fatalf("Faults of %v by %v: got %v, %v, want %v", g, s, got, err, want)
	}
}

// TestAllPairs: C1, all pairs of nodes of some kinds and records.
func TestAllPairs(t *testing.T) {
	s := made("kind a k:int*\nkind b of a m:text\nkind c k:text* m:text*\nkind d k:int!\nkind e k:int\nkind f\n")
	var l []api.Node
	for _, kind := range []string{"a", "b", "c", "d", "e", "f", "zz"} {
		for _, r := range []string{"-", "k=1", "k=2", "k='1'", "k=true", "k=1,m='x'", "k='1',m='x'", "m=1"} {
			l = append(l, node(1, kind, r))
		}
	}
	for _, a := range l {
		for _, b := range l {
			b.Id = 2
			testPlain(t, s, nodes(a, b))
		}
	}
}

// TestAllTriples: C1, all that three nodes may have by one name, in three kinds.
func TestAllTriples(t *testing.T) {
	s := made("kind a k:int*\nkind b k:text*\nkind d k:int!\n")
	var l []api.Node
	for _, kind := range []string{"a", "b", "d", "zz"} {
		for _, r := range []string{"-", "k=1", "k='1'"} {
			l = append(l, node(1, kind, r))
		}
	}
	for _, a := range l {
		for _, b := range l {
			for _, c := range l {
				b.Id, c.Id = 2, 3
				testPlain(t, s, nodes(a, b, c))
			}
		}
	}
}

// TestAllTies: C1, all sets of some ties between two nodes, each of any kind, and one that is none.
func TestAllTies(t *testing.T) {
	s := made("kind a\nkind b of a\nkind c\nbond r a a 1 2\nbond q b c 0 1\nbond p c a 0 any\n")
	all := []api.Tie{tie("p", 1, 2), tie("q", 1, 2), tie("q", 1, 3), tie("r", 1, 1), tie("r", 1, 2), tie("r", 1, 3), tie("r", 2, 1), tie("r", 3, 1), tie("z", 2, 1)}
	kinds := []string{"a", "b", "c", "zz"}
	for _, a := range kinds {
		for _, b := range kinds {
			for set := range 1 << len(all) {
				g := nodes(node(1, a, "-"), node(2, b, "-"))
				for i, t := range all {
					if set>>i&1 == 1 {
						g.Ties = append(g.Ties, t)
					}
				}
				testPlain(t, s, g)
			}
		}
	}
}
