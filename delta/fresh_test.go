package delta

import (
	"reflect"
	"slices"
	"testing"

	"kinshape/api"
)

// behind has a graph and ops of lists with something behind their length that is wrong where it is read.
func behind() (api.Graph, []api.Op) {
	g := with(nodes(node(1, "a", "x=1,y=2,z=3"), node(2, "b", "x=1,y=2"), node(4, "c", "k='u'"), node(1, "A", "-"), node(0, "", "-")),
		tie("p", 1, 2), tie("p", 2, 1), tie("q", 4, 4), tie("A", 0, 0), tie("", 0, 0))
	g.Nodes, g.Ties = g.Nodes[:3], g.Ties[:3]
	g.Nodes[0].Record = g.Nodes[0].Record[:2]
	g.Nodes[0].Record[:3][2] = api.Prop{Name: "A"}
	g.Nodes[1].Record = g.Nodes[1].Record[:1]
	l := ops(newOp(node(3, "d", "x=1,y=2")), set(1, "w", number(1)), unset(2, "x"), bindOp(tie("p", 1, 1)), looseOp(tie("p", 1, 2)), gone(4), api.Op{What: 99}, api.Op{})
	l = l[:6]
	l[0].Node.Record = l[0].Node.Record[:1]
	return g, l
}

// reach has all of a list's memory.
func reach[T any](l []T) []T { return l[:cap(l)] }

// wholeGraph has all of the memory of a graph's lists.
func wholeGraph(g api.Graph) []any {
	all := []any{slices.Clone(reach(g.Nodes)), slices.Clone(reach(g.Ties))}
	for _, n := range g.Nodes {
		all = append(all, slices.Clone(reach(n.Record)))
	}
	return all
}

// wholeOps has all of the memory of ops.
func wholeOps(l []api.Op) []any {
	all := []any{slices.Clone(reach(l))}
	for _, o := range l {
		all = append(all, slices.Clone(reach(o.Node.Record)))
	}
	return all
}

// wipeGraph writes into all of the memory of a graph's lists, one after the other; each is to be as it was until then.
func wipeGraph(t *testing.T, name string, g api.Graph) {
	t.Helper()
	var kept []api.Record
	for _, n := range g.Nodes {
		kept = append(kept, slices.Clone(n.Record))
	}
	for i, n := range g.Nodes {
		if !slices.Equal(n.Record, kept[i]) {
			t.Errorf("%s: the record of node %d shares memory with one ahead", name, n.Id)
		}
		for j := range reach(n.Record) {
			reach(n.Record)[j] = prop("wiped", number(9))
		}
	}
	for i := range reach(g.Nodes) {
		reach(g.Nodes)[i] = api.Node{Id: 999, Kind: "wiped"}
	}
	for i := range reach(g.Ties) {
		reach(g.Ties)[i] = tie("wiped", 999, 999)
	}
}

// wipeOps writes into all of the memory of ops.
func wipeOps(t *testing.T, name string, l []api.Op) {
	t.Helper()
	var kept []api.Record
	for _, o := range l {
		kept = append(kept, slices.Clone(o.Node.Record))
	}
	for i, o := range l {
		if !slices.Equal(o.Node.Record, kept[i]) {
			t.Errorf("%s: the record of op %d shares memory with one ahead", name, i)
		}
		for j := range reach(o.Node.Record) {
			reach(o.Node.Record)[j] = prop("wiped", number(9))
		}
	}
	for i := range reach(l) {
		reach(l)[i] = api.Op{What: 98}
	}
}

// TestFreshGraphs: P2 and P4, what is handed in stays as it is, behind its length, too; what comes out shares no memory with it.
func TestFreshGraphs(t *testing.T) {
	calls := []struct {
		name string
		call func(g api.Graph, l []api.Op) (api.Graph, error)
		want api.Graph
	}{
		{"New", func(g api.Graph, l []api.Op) (api.Graph, error) { return Do(g, l[0]) },
			with(nodes(node(1, "a", "x=1,y=2"), node(2, "b", "x=1"), node(3, "d", "x=1"), node(4, "c", "k='u'")), tie("p", 1, 2), tie("p", 2, 1), tie("q", 4, 4))},
		{"New at the end", func(g api.Graph, l []api.Op) (api.Graph, error) {
			o := l[0]
			o.Node.Id = 5
			return Do(g, o)
		}, with(nodes(node(1, "a", "x=1,y=2"), node(2, "b", "x=1"), node(4, "c", "k='u'"), node(5, "d", "x=1")), tie("p", 1, 2), tie("p", 2, 1), tie("q", 4, 4))},
		{"Set", func(g api.Graph, l []api.Op) (api.Graph, error) { return Do(g, l[1]) },
			with(nodes(node(1, "a", "w=1,x=1,y=2"), node(2, "b", "x=1"), node(4, "c", "k='u'")), tie("p", 1, 2), tie("p", 2, 1), tie("q", 4, 4))},
		{"Set at the end", func(g api.Graph, l []api.Op) (api.Graph, error) { return Do(g, set(2, "z", number(1))) },
			with(nodes(node(1, "a", "x=1,y=2"), node(2, "b", "x=1,z=1"), node(4, "c", "k='u'")), tie("p", 1, 2), tie("p", 2, 1), tie("q", 4, 4))},
		{"Set in the place", func(g api.Graph, l []api.Op) (api.Graph, error) { return Do(g, set(1, "x", number(7))) },
			with(nodes(node(1, "a", "x=7,y=2"), node(2, "b", "x=1"), node(4, "c", "k='u'")), tie("p", 1, 2), tie("p", 2, 1), tie("q", 4, 4))},
		{"Unset", func(g api.Graph, l []api.Op) (api.Graph, error) { return Do(g, unset(1, "x")) },
			with(nodes(node(1, "a", "y=2"), node(2, "b", "x=1"), node(4, "c", "k='u'")), tie("p", 1, 2), tie("p", 2, 1), tie("q", 4, 4))},
		{"Bind", func(g api.Graph, l []api.Op) (api.Graph, error) { return Do(g, bindOp(tie("z", 1, 1))) },
			with(nodes(node(1, "a", "x=1,y=2"), node(2, "b", "x=1"), node(4, "c", "k='u'")), tie("p", 1, 2), tie("p", 2, 1), tie("q", 4, 4), tie("z", 1, 1))},
		{"Loose", func(g api.Graph, l []api.Op) (api.Graph, error) { return Do(g, l[4]) },
			with(nodes(node(1, "a", "x=1,y=2"), node(2, "b", "x=1"), node(4, "c", "k='u'")), tie("p", 2, 1), tie("q", 4, 4))},
		{"Gone", func(g api.Graph, l []api.Op) (api.Graph, error) { return Do(g, gone(1)) },
			with(nodes(node(2, "b", "x=1"), node(4, "c", "k='u'")), tie("q", 4, 4))},
		{"All", func(g api.Graph, l []api.Op) (api.Graph, error) { d, _, err := All(g, l); return d, err },
			with(nodes(node(1, "a", "w=1,x=1,y=2"), node(2, "b", "-"), node(3, "d", "x=1")), tie("p", 1, 1), tie("p", 2, 1))},
		{"All of none", func(g api.Graph, l []api.Op) (api.Graph, error) { d, _, err := All(g, l[:0]); return d, err },
			with(nodes(node(1, "a", "x=1,y=2"), node(2, "b", "x=1"), node(4, "c", "k='u'")), tie("p", 1, 2), tie("p", 2, 1), tie("q", 4, 4))},
		{"All with an error", func(g api.Graph, l []api.Op) (api.Graph, error) {
			if d, at, err := All(g, append(slices.Clone(l), gone(4))); at != 6 || told(err) != api.ErrNone {
				return d, err
			}
			return api.Graph{}, nil
		}, api.Graph{}},
	}
	for _, c := range calls {
		g, l := behind()
		for range 2 {
			got, err := c.call(g, l)
			if !sameGraph(got, c.want) || err != nil {
				t.Errorf("%s: got %v, %v, want %v", c.name, got, err, c.want)
			}
			wipeGraph(t, c.name, got)
		}
		checkUntouched(t, c.name, g, l)
		kept, _ := c.call(g, l)
		wipeGraph(t, c.name, g)
		wipeOps(t, c.name, l)
		if !sameGraph(kept, c.want) {
			t.Errorf("%s: its answer has memory that was handed in: %v", c.name, kept)
		}
	}
}

// checkUntouched holds what was handed in against what it was.
func checkUntouched(t *testing.T, name string, g api.Graph, l []api.Op) {
	t.Helper()
	h, m := behind()
	if !reflect.DeepEqual(wholeGraph(g), wholeGraph(h)) || !reflect.DeepEqual(wholeOps(l), wholeOps(m)) {
		t.Errorf("%s: what is handed in is written into: %v, %v", name, wholeGraph(g), wholeOps(l))
	}
}

// TestFreshOps: P2 and P4, the same of Diff and Turn.
func TestFreshOps(t *testing.T) {
	some := with(nodes(node(1, "b", "x=1"), node(2, "b", "y=2")), tie("q", 4, 4))
	calls := []struct {
		name string
		call func(g api.Graph, l []api.Op) ([]api.Op, error)
		want []api.Op
	}{
		{"Diff from it", func(g api.Graph, l []api.Op) ([]api.Op, error) { return Diff(g, some) },
			ops(looseOp(tie("p", 1, 2)), looseOp(tie("p", 2, 1)), gone(1), gone(4), newOp(node(1, "b", "x=1")), unset(2, "x"), set(2, "y", number(2)), bindOp(tie("q", 4, 4)))},
		{"Diff to it", func(g api.Graph, l []api.Op) ([]api.Op, error) { return Diff(some, g) },
			ops(gone(1), newOp(node(1, "a", "x=1,y=2")), newOp(node(4, "c", "k='u'")), unset(2, "y"), set(2, "x", number(1)), bindOp(tie("p", 1, 2)), bindOp(tie("p", 2, 1)))},
		{"Diff with itself", func(g api.Graph, l []api.Op) ([]api.Op, error) { return Diff(g, g) }, nil},
		{"Diff from none", func(g api.Graph, l []api.Op) ([]api.Op, error) { return Diff(api.Graph{}, g) },
			ops(newOp(node(1, "a", "x=1,y=2")), newOp(node(2, "b", "x=1")), newOp(node(4, "c", "k='u'")), bindOp(tie("p", 1, 2)), bindOp(tie("p", 2, 1)), bindOp(tie("q", 4, 4)))},
		{"Turn", Turn,
			ops(looseOp(tie("p", 1, 1)), gone(3), newOp(node(4, "c", "k='u'")), unset(1, "w"), set(2, "x", number(1)), bindOp(tie("p", 1, 2)), bindOp(tie("q", 4, 4)))},
	}
	for _, c := range calls {
		g, l := behind()
		for range 2 {
			got, err := c.call(g, l)
			if !sameOps(got, c.want) || err != nil {
				t.Errorf("%s: got %v, %v, want %v", c.name, got, err, c.want)
			}
			wipeOps(t, c.name, got)
		}
		checkUntouched(t, c.name, g, l)
		kept, _ := c.call(g, l)
		wipeGraph(t, c.name, g)
		wipeOps(t, c.name, l)
		if !sameOps(kept, c.want) {
			t.Errorf("%s: its answer has memory that was handed in: %v", c.name, kept)
		}
	}
}

// TestFreshShared: P2, records that share memory where they are handed in do not where they come out.
func TestFreshShared(t *testing.T) {
	all := api.Record{prop("x", number(1)), prop("y", number(2)), prop("z", number(3))}
	g := nodes(api.Node{Id: 1, Kind: "a", Record: all[:1]}, api.Node{Id: 2, Kind: "a", Record: all[1:2]}, api.Node{Id: 3, Kind: "a", Record: all[:1]})
	done, at, err := All(g, ops(newOp(api.Node{Id: 4, Kind: "a", Record: all[:2]}), newOp(api.Node{Id: 5, Kind: "a", Record: all[:2]}), unset(4, "x"), set(1, "y", number(9))))
	want := nodes(node(1, "a", "x=1,y=9"), node(2, "a", "y=2"), node(3, "a", "x=1"), node(4, "a", "y=2"), node(5, "a", "x=1,y=2"))
	if !sameGraph(done, want) || at != 0 || err != nil {
		t.Errorf("All: got %v, %d, %v, want %v", done, at, err, want)
	}
	wipeGraph(t, "All", done)
	back, err := Diff(api.Graph{}, g)
	if !sameOps(back, ops(newOp(node(1, "a", "x=1")), newOp(node(2, "a", "y=2")), newOp(node(3, "a", "x=1")))) || err != nil {
		t.Errorf("Diff: got %v, %v", back, err)
	}
	wipeOps(t, "Diff", back)
	if !slices.Equal(all, api.Record{prop("x", number(1)), prop("y", number(2)), prop("z", number(3))}) {
		t.Errorf("what is handed in is written into: %v", all)
	}
}

// TestSameAgain: P2, what a call answers hangs on its arguments alone.
func TestSameAgain(t *testing.T) {
	a, b := fullGraph(), with(someNodes(60), someTies(120).Ties...)
	first, _ := Diff(a, b)
	for range 20 {
		if again, err := Diff(a, b); !sameOps(first, again) || err != nil {
			t.Fatalf("got %v, %v, then %v", first, err, again)
		}
	}
}
