package path

import (
	"math/rand"
	"slices"
	"testing"

	"kinshape/api"
	"kinshape/check"
)

// TestWalkFirst: P2, the rows of one step: nodes of its kind, or one that comes of it, that pass its tests.
func TestWalkFirst(t *testing.T) {
	s, g := someSchema(), someGraph()
	testRows(t, s, g, steps(first("a")), []int{1}, []int{2}, []int{5}, []int{9}, []int{10})
	testRows(t, s, g, steps(first("b")), []int{2}, []int{9}, []int{10})
	testRows(t, s, g, steps(first("c")), []int{4}, []int{9}, []int{10})
	testRows(t, s, g, steps(first("d")), []int{9}, []int{10})
	testRows(t, s, g, steps(first("e")), []int{1000})
	testRows(t, s, g, steps(first("a", has("k"))), []int{1}, []int{2}, []int{9})
	testRows(t, s, g, steps(first("a", below("k", number(9)))), []int{1}, []int{2})
	testRows(t, s, g, steps(first("a", isnt("k", number(2)))), []int{1}, []int{9})
	testRows(t, s, g, steps(first("a", is("m", words("u")))), []int{2}, []int{5})
	testRows(t, s, g, steps(first("a", is("m", words("u")), has("k"))), []int{2})
	testRows(t, s, g, steps(first("a", has("k"), is("m", words("u")))), []int{2})
	testRows(t, s, g, steps(first("a", isnt("k", number(1)), isnt("k", number(9)))), []int{2})
	testRows(t, s, g, steps(first("a", is("k", number(1)), is("k", number(2)))))
	testRows(t, s, g, steps(first("b", is("x", truth(0)))), []int{9})
	testRows(t, s, g, steps(first("c", below("y", number(7)))), []int{9})
	testRows(t, s, g, steps(first("d", isnt("m", words("v")))))
}

// TestWalkTwo: P2, two steps, along a bond and back, to kinds and those that come of them.
func TestWalkTwo(t *testing.T) {
	s, g := someSchema(), someGraph()
	testRows(t, s, g, steps(first("a"), over("p", "c")), []int{1, 4}, []int{1, 9}, []int{2, 4}, []int{9, 9})
	testRows(t, s, g, steps(first("a"), over("p", "d")), []int{1, 9}, []int{9, 9})
	testRows(t, s, g, steps(first("b"), over("p", "c")), []int{2, 4}, []int{9, 9})
	testRows(t, s, g, steps(first("d"), over("p", "d")), []int{9, 9})
	testRows(t, s, g, steps(first("c"), back("p", "a")), []int{4, 1}, []int{4, 2}, []int{9, 1}, []int{9, 9})
	testRows(t, s, g, steps(first("c"), back("p", "b")), []int{4, 2}, []int{9, 9})
	testRows(t, s, g, steps(first("d"), back("p", "a")), []int{9, 1}, []int{9, 9})
	testRows(t, s, g, steps(first("b"), over("q", "b")), []int{2, 9}, []int{2, 10}, []int{10, 10})
	testRows(t, s, g, steps(first("b"), back("q", "b")), []int{9, 2}, []int{10, 2}, []int{10, 10})
	testRows(t, s, g, steps(first("c"), over("r", "d")), []int{4, 9}, []int{4, 10})
	testRows(t, s, g, steps(first("d"), back("r", "c")), []int{9, 4}, []int{10, 4})
	testRows(t, s, g, steps(first("d"), back("r", "d")))
	testRows(t, s, g, steps(first("a"), over("u", "a")), []int{1, 2}, []int{2, 1}, []int{2, 2}, []int{5, 10}, []int{10, 1})
	testRows(t, s, g, steps(first("a"), back("u", "a")), []int{1, 2}, []int{1, 10}, []int{2, 1}, []int{2, 2}, []int{10, 5})
}

// TestWalkFar: P2, more steps, over a node twice and more, along a bond and back over the same tie.
func TestWalkFar(t *testing.T) {
	s, g := someSchema(), someGraph()
	testRows(t, s, g, steps(first("a"), over("u", "a"), over("u", "a")), []int{1, 2, 1}, []int{1, 2, 2}, []int{2, 1, 2}, []int{2, 2, 1}, []int{2, 2, 2}, []int{5, 10, 1}, []int{10, 1, 2})
	testRows(t, s, g, steps(first("a"), over("u", "a"), back("u", "a")), []int{1, 2, 1}, []int{1, 2, 2}, []int{2, 1, 2}, []int{2, 1, 10}, []int{2, 2, 1}, []int{2, 2, 2}, []int{5, 10, 5}, []int{10, 1, 2}, []int{10, 1, 10})
	testRows(t, s, g, steps(first("a"), over("p", "c"), over("r", "d"), back("q", "b")), []int{1, 4, 9, 2}, []int{1, 4, 10, 2}, []int{1, 4, 10, 10}, []int{2, 4, 9, 2}, []int{2, 4, 10, 2}, []int{2, 4, 10, 10})
	testRows(t, s, g, steps(first("d"), over("q", "d"), over("q", "d"), back("q", "d"), back("q", "d"), over("q", "d")), []int{10, 10, 10, 10, 10, 10})
	testRows(t, s, g, steps(first("d"), over("p", "d"), over("p", "d"), over("p", "d"), back("p", "d"), back("p", "d")), []int{9, 9, 9, 9, 9, 9})
	testRows(t, s, g, steps(first("a"), over("u", "a"), over("u", "a"), over("u", "a"), over("p", "c"), over("r", "d")), []int{1, 2, 1, 2, 4, 9}, []int{1, 2, 1, 2, 4, 10}, []int{1, 2, 2, 1, 4, 9}, []int{1, 2, 2, 1, 4, 10}, []int{1, 2, 2, 2, 4, 9}, []int{1, 2, 2, 2, 4, 10}, []int{2, 1, 2, 1, 4, 9}, []int{2, 1, 2, 1, 4, 10}, []int{2, 1, 2, 2, 4, 9}, []int{2, 1, 2, 2, 4, 10}, []int{2, 2, 1, 2, 4, 9}, []int{2, 2, 1, 2, 4, 10}, []int{2, 2, 2, 1, 4, 9}, []int{2, 2, 2, 1, 4, 10}, []int{2, 2, 2, 2, 4, 9}, []int{2, 2, 2, 2, 4, 10}, []int{5, 10, 1, 2, 4, 9}, []int{5, 10, 1, 2, 4, 10}, []int{10, 1, 2, 1, 4, 9}, []int{10, 1, 2, 1, 4, 10}, []int{10, 1, 2, 2, 4, 9}, []int{10, 1, 2, 2, 4, 10})
}

// TestWalkTests: P2, tests at the first, a middle and the last step, that some nodes do not pass, or none does.
func TestWalkTests(t *testing.T) {
	s, g := someSchema(), someGraph()
	one, two := is("k", number(1)), is("k", number(2))
	testRows(t, s, g, steps(first("a", one), over("u", "a"), over("u", "a")), []int{1, 2, 1}, []int{1, 2, 2})
	testRows(t, s, g, steps(first("a"), over("u", "a", one), over("u", "a")), []int{2, 1, 2}, []int{10, 1, 2})
	testRows(t, s, g, steps(first("a"), over("u", "a"), over("u", "a", one)), []int{1, 2, 1}, []int{2, 2, 1}, []int{5, 10, 1})
	testRows(t, s, g, steps(first("a", two), over("u", "a", two), over("u", "a", two)), []int{2, 2, 2})
	testRows(t, s, g, steps(first("a", has("m"), isnt("m", words("v"))), over("u", "a"), over("u", "a", has("k"))), []int{2, 1, 2}, []int{2, 2, 1}, []int{2, 2, 2}, []int{5, 10, 1})
	none := is("k", number(77))
	testRows(t, s, g, steps(first("a", none), over("u", "a"), over("u", "a")))
	testRows(t, s, g, steps(first("a"), over("u", "a", none), over("u", "a")))
	testRows(t, s, g, steps(first("a"), over("u", "a"), over("u", "a", none)))
}

// TestWalkNoRows: P2, no rows, as there are no nodes, none of the kind, or no ties, or none that lead on.
func TestWalkNoRows(t *testing.T) {
	s := someSchema()
	for n := 1; n <= 6; n++ {
		testRows(t, s, api.Graph{}, rightPath(n))
		testRows(t, s, api.Graph{Nodes: []api.Node{}, Ties: []api.Tie{}}, rightPath(n))
		testRows(t, s, nodes(node(1, "c", "-"), node(2, "e", "-")), rightPath(n))
	}
	testRows(t, s, ids(1, 2), rightPath(1), []int{1}, []int{2})
	testRows(t, s, ids(1, 2), rightPath(2))
	testRows(t, s, with(ids(1, 2), tie("u", 1, 2)), rightPath(2), []int{1, 2})
	testRows(t, s, with(ids(1, 2), tie("u", 1, 2)), rightPath(3))
	testRows(t, s, with(ids(1, 2), tie("u", 1, 2)), steps(first("a"), back("u", "a"), back("u", "a")))
	// Ties of another bond lead nowhere.
	other := plan("kind a\nbond u a a 0 any\nbond v a a 0 any\n")
	testRows(t, other, with(ids(1, 2), tie("v", 1, 2)), rightPath(2))
	testRows(t, other, with(ids(1, 2, 3), tie("u", 1, 2), tie("v", 2, 3)), rightPath(3))
	testRows(t, other, with(ids(1, 2, 3), tie("u", 1, 2), tie("v", 2, 3)), steps(first("a"), over("u", "a"), over("v", "a")), []int{1, 2, 3})
}

// TestWalkSorted: P2, rows are sorted by numbers, not by how they are written, and from the left; none is there twice, whatever ways lead to a kind, and however many bonds tie two nodes.
func TestWalkSorted(t *testing.T) {
	s := plan("kind a\nkind b of a\nkind c of a\nkind d of b,c,a\nbond u a a 0 any\nbond v a a 0 any\n")
	of := func(kind string, id int) api.Node { return node(id, kind, "-") }
	g := with(nodes(of("a", 2), of("d", 9), of("b", 10), of("c", 100), of("d", 1000)),
		tie("u", 2, 9), tie("u", 2, 10), tie("u", 2, 1000), tie("u", 9, 2), tie("u", 10, 2), tie("u", 10, 100), tie("u", 100, 2), tie("u", 100, 9), tie("u", 1000, 1000), tie("v", 2, 9), tie("v", 9, 10), tie("v", 9, 100))
	testRows(t, s, g, rightPath(1), []int{2}, []int{9}, []int{10}, []int{100}, []int{1000})
	testRows(t, s, g, rightPath(2), []int{2, 9}, []int{2, 10}, []int{2, 1000}, []int{9, 2}, []int{10, 2}, []int{10, 100}, []int{100, 2}, []int{100, 9}, []int{1000, 1000})
	testRows(t, s, g, steps(first("a"), back("u", "a")), []int{2, 9}, []int{2, 10}, []int{2, 100}, []int{9, 2}, []int{9, 100}, []int{10, 2}, []int{100, 10}, []int{1000, 2}, []int{1000, 1000})
	testRows(t, s, g, steps(first("a"), back("v", "a"), over("v", "a")), []int{9, 2, 9}, []int{10, 9, 10}, []int{10, 9, 100}, []int{100, 9, 10}, []int{100, 9, 100})
	testRows(t, s, g, steps(first("d"), over("u", "a"), over("u", "b")), []int{9, 2, 9}, []int{9, 2, 10}, []int{9, 2, 1000}, []int{1000, 1000, 1000})
	for n := 1; n <= 4; n++ {
		rows, err := Walk(s, g, rightPath(n))
		rising := func(a, b []int) int {
			if slices.Compare(a, b) == 0 {
				t.Errorf("%v is there twice", a)
			}
			return slices.Compare(a, b)
		}
		if !slices.IsSortedFunc(rows, rising) || len(rows) < 5 || err != nil {
			t.Errorf("%d steps: got %v, %v", n, rows, err)
		}
	}
}

// broken is a graph that does not conform to strictSchema, by a fault.
type broken struct {
	g    api.Graph
	what int
}

func strictSchema() api.Schema {
	return plan("kind a k:int* m:text\nkind b of a x:bool!\nkind c\nbond p c a 0 1\nbond r b b 1 any\nbond u a a 0 any\n")
}

// brokenGraphs has one of each fault of chapter 6.
func brokenGraphs() []broken {
	return []broken{
		{nodes(node(1, "zz", "-")), api.BadKind},
		{nodes(node(1, "a", "k=1,m=1")), api.BadField},
		{nodes(node(1, "a", "k=1,zz=1")), api.BadField},
		{nodes(node(1, "a", "m='u'")), api.NoField},
		{nodes(node(1, "a", "k=1"), node(2, "a", "k=1")), api.SameKey},
		{with(nodes(node(1, "a", "k=1")), tie("zz", 1, 1)), api.BadBond},
		{with(nodes(node(1, "a", "k=1")), tie("u", 1, 2)), api.BadEnd},
		{with(nodes(node(1, "a", "k=1")), tie("u", 2, 1)), api.BadEnd},
		{with(nodes(node(1, "a", "k=1"), node(2, "c", "-")), tie("u", 1, 2)), api.BadEnd},
		{nodes(node(1, "b", "k=1,x=true")), api.TooFew},
		{with(nodes(node(1, "a", "k=1"), node(2, "a", "k=2"), node(3, "c", "-")), tie("p", 3, 1), tie("p", 3, 2)), api.TooMany},
	}
}

// TestWalkBreak: P2, a graph that does not conform, by each fault, though the path does not come to what is wrong; the path's error is told ahead of it.
func TestWalkBreak(t *testing.T) {
	s := strictSchema()
	for _, b := range brokenGraphs() {
		if l, err := check.Faults(s, b.g); len(l) == 0 || l[0].What != b.what || err != nil {
			t.Errorf("%v is to have the fault %d: %v, %v", b.g, b.what, l, err)
		}
		for n := 1; n <= 6; n++ {
			testNoRows(t, s, b.g, rightPath(n), api.ErrBreak)
		}
		testNoRows(t, s, b.g, steps(first("c")), api.ErrBreak)
		testNoRows(t, s, b.g, steps(first("a", is("k", number(77)))), api.ErrBreak)
		testNoRows(t, s, b.g, nil, api.ErrNone)
		testNoRows(t, s, b.g, rightPath(7), api.ErrFull)
		testNoRows(t, s, b.g, steps(over("u", "a")), api.ErrShape)
		testNoRows(t, s, b.g, steps(first("a"), over("p", "a")), api.ErrType)
	}
	testRows(t, s, nodes(node(1, "a", "k=1")), steps(first("a")), []int{1})
	// The schema that is handed in is the one that is asked.
	testNoRows(t, plan("kind a\n"), nodes(node(1, "a", "k=1")), steps(first("a")), api.ErrBreak)
	testNoRows(t, s, ids(1), steps(first("a")), api.ErrBreak)
	testRows(t, plan("kind a\n"), ids(1), steps(first("a")), []int{1})
}

// TestWalkGraph: P2, each error of chapter 5's Check, behind the path's, ahead of ErrBreak and of too many rows.
func TestWalkGraph(t *testing.T) {
	for _, b := range badGraphs() {
		for _, s := range []api.Schema{someSchema(), strictSchema(), plan("kind a\nbond u a a 0 any\n")} {
			for n := 1; n <= 6; n++ {
				testNoRows(t, s, b.g, rightPath(n), b.want)
			}
			testNoRows(t, s, b.g, nil, api.ErrNone)
			testNoRows(t, s, b.g, rightPath(7), api.ErrFull)
			testNoRows(t, s, b.g, steps(back("u", "a")), api.ErrShape)
			testNoRows(t, s, b.g, steps(first("a"), over("zz", "a")), api.ErrNone)
			testNoRows(t, s, b.g, steps(first("a", has("K"))), api.ErrSyntax)
		}
	}
	g := fan(hub{11, 20})
	g.Nodes[3].Id = 1001
	testNoRows(t, someSchema(), g, rightPath(3), api.ErrRange)
	g = fan(hub{11, 20})
	g.Nodes[3].Kind = "zz"
	testNoRows(t, someSchema(), g, rightPath(3), api.ErrBreak)
	g.Ties[9] = g.Ties[8]
	testNoRows(t, someSchema(), g, rightPath(3), api.ErrClash)
}

// hub is a node with ties in and out.
type hub struct{ in, out int }

// fan has hubs with ties that come of a node each, and lead to one each, which have no other ties: in by out rows of three steps.
func fan(l ...hub) (g api.Graph) {
	add := func() int {
		id := len(g.Nodes) + 1
		g.Nodes = append(g.Nodes, api.Node{Id: id, Kind: "a", Record: api.Record{prop("k", number(id))}})
		return id
	}
	for _, h := range l {
		from := len(g.Nodes) + 1
		for range h.in {
			add()
		}
		middle := add()
		for id := from; id < middle; id++ {
			g.Ties = append(g.Ties, tie("u", id, middle))
		}
		for range h.out {
			g.Ties = append(g.Ties, tie("u", middle, add()))
		}
	}
	return g
}

// fanRows are its rows.
func fanRows(l ...hub) (rows [][]int) {
	ahead := 0
	for _, h := range l {
		for from := range h.in {
			for to := range h.out {
				rows = append(rows, []int{ahead + from + 1, ahead + h.in + 1, ahead + h.in + 2 + to})
			}
		}
		ahead += h.in + 1 + h.out
	}
	return rows
}

// TestWalkMaxRows: P2, as many rows as may be, and one more.
func TestWalkMaxRows(t *testing.T) {
	s := someSchema()
	for _, l := range [][]hub{{{10, 20}}, {{20, 10}}, {{14, 14}, {2, 2}}, {{4, 50}}, {{50, 4}}, {{10, 19}, {10, 1}}, {{1, 1}, {1, 9}, {10, 19}}} {
		if len(fanRows(l...)) != 200 {
			t.Errorf("%v has %d rows", l, len(fanRows(l...)))
		}
		testRows(t, s, fan(l...), rightPath(3), fanRows(l...)...)
		more := append(slices.Clone(l), hub{1, 1})
		testTooMany(t, s, fan(more...), rightPath(3))
		testTooMany(t, s, fan(append([]hub{{1, 1}}, l...)...), rightPath(3))
	}
	less := []hub{{10, 19}, {9, 1}}
	testRows(t, s, fan(less...), rightPath(3), fanRows(less...)...)
	// There and back again: in by in, and out.
	again := steps(first("a"), over("u", "a"), back("u", "a"))
	testOnlyRows(t, s, fan(hub{14, 4}), again, 200)
	testTooMany(t, s, fan(hub{14, 5}), again)
	testTooMany(t, s, fan(hub{50, 1}), again)
	// One and two steps cannot have too many.
	full := fullGraph()
	for n := range 2 {
		rows, err := Walk(s, full, rightPath(n+1))
		if len(rows) != 60*(n+1) || err != nil {
			t.Errorf("%d steps: got %d rows, %v", n+1, len(rows), err)
		}
	}
	for n := 3; n <= 6; n++ {
		testTooMany(t, s, full, rightPath(n))
	}
}

// fullGraph has as much as may be: two ties out of, and two in to each node.
func fullGraph() (g api.Graph) {
	for i := range api.MaxNodes {
		g.Nodes = append(g.Nodes, node(i+1, "a", "k=1,m='u'"))
	}
	for i := range api.MaxNodes {
		ends := []int{(i+1)%api.MaxNodes + 1, (i+7)%api.MaxNodes + 1}
		slices.Sort(ends)
		g.Ties = append(g.Ties, tie("u", i+1, ends[0]), tie("u", i+1, ends[1]))
	}
	return g
}

// chain has n nodes, one behind the other, others that lead to the first one, and others to which the last one leads: in by out rows of n+2 steps.
func chain(in, n, out int) api.Graph {
	g := fan(hub{in, 0})
	for range n - 1 {
		id := len(g.Nodes) + 1
		g.Nodes = append(g.Nodes, node(id, "a", "-"))
		g.Ties = append(g.Ties, tie("u", id-1, id))
	}
	last := len(g.Nodes)
	for range out {
		id := len(g.Nodes) + 1
		g.Nodes = append(g.Nodes, node(id, "a", "-"))
		g.Ties = append(g.Ties, tie("u", last, id))
	}
	return g
}

// TestWalkFirstSteps: P2, too many rows of the first steps alone, however many those are, though all steps have fewer, or none.
func TestWalkFirstSteps(t *testing.T) {
	s := plan("kind a k:int\nbond u a a 0 any\nbond v a a 0 any\n")
	for n := 1; n <= 4; n++ {
		few, many := chain(10, n, 20), chain(11, n, 20)
		testOnlyRows(t, s, few, rightPath(n+2), 200)
		testTooMany(t, s, many, rightPath(n+2))
		for more := n + 3; more <= 6; more++ {
			testOnlyRows(t, s, few, rightPath(more), 0)
			testTooMany(t, s, many, rightPath(more))
			testTooMany(t, s, many, append(rightPath(more-1), over("v", "a")))
		}
		if n < 4 {
			// Of one of the last nodes another bond leads on, to one node.
			on := append(rightPath(n+2), over("v", "a"))
			testOnlyRows(t, s, with(few, append(few.Ties, tie("v", len(few.Nodes), 1))...), on, 10)
			testTooMany(t, s, with(many, append(many.Ties, tie("v", len(many.Nodes), 1))...), on)
		}
		// Tests of a step leave few enough of its own rows, and of those behind it.
		tested := rightPath(n + 2)
		tested[0].Tests = []api.Test{below("k", number(11))}
		testOnlyRows(t, s, many, tested, 200)
		tested[0].Tests = []api.Test{below("k", number(12))}
		testTooMany(t, s, many, tested)
	}
	g := fan(hub{11, 20})
	testOnlyRows(t, s, g, steps(first("a"), over("u", "a"), over("u", "a", below("k", number(14)))), 11)
	testOnlyRows(t, s, g, steps(first("a"), over("u", "a", is("k", number(1))), over("u", "a")), 0)
	testOnlyRows(t, s, g, steps(first("a"), back("u", "a"), back("u", "a", is("k", number(1)))), 20)
	testTooMany(t, s, g, steps(first("a"), back("u", "a"), back("u", "a")))
}

// testOnlyRows asks Walk for so many rows.
func testOnlyRows(t *testing.T, s api.Schema, g api.Graph, l []api.Step, want int) {
	t.Helper()
	if got, err := Walk(s, g, l); len(got) != want || err != nil {
		t.Errorf("Walk(%v, %v): got %d rows, %v, want %d", g, l, len(got), err, want)
	}
}

// testTooMany asks Walk of a graph that conforms, and a path that is right, for ErrFull.
func testTooMany(t *testing.T, s api.Schema, g api.Graph, l []api.Step) {
	t.Helper()
	testRight(t, s, l)
	if is, err := check.Conforms(s, g); !is || err != nil {
		t.Errorf("%v is to conform: %v, %v", g, is, err)
	}
	testNoRows(t, s, g, l, api.ErrFull)
}

// smallGraphs has all graphs of three nodes of some forms, with all sets of some ties, whether they conform or not.
func smallGraphs() (l []api.Graph) {
	forms := []api.Node{node(0, "a", "k=1"), node(0, "b", "k=2"), node(0, "b", "-"), node(0, "c", "-")}
	some := []api.Tie{tie("p", 1, 1), tie("p", 1, 2), tie("p", 2, 1), tie("p", 3, 2), tie("q", 1, 3), tie("q", 3, 3)}
	for form := range len(forms) * len(forms) * len(forms) {
		for chosen := range 1 << len(some) {
			var g api.Graph
			for id, left := 1, form; id <= 3; id, left = id+1, left/len(forms) {
				n := forms[left%len(forms)]
				n.Id = id
				g.Nodes = append(g.Nodes, n)
			}
			for i, one := range some {
				if chosen>>i&1 == 1 {
					g.Ties = append(g.Ties, one)
				}
			}
			l = append(l, g)
		}
	}
	return l
}

// smallPaths has paths of up to three steps, of which most are right.
func smallPaths() (l [][]api.Step) {
	firsts := steps(first("a"), first("b"), first("c"), first("a", has("k")))
	nexts := steps(over("p", "a"), back("p", "a"), over("q", "c"), back("q", "a"), over("p", "b", below("k", number(3))), back("p", "b"))
	for _, one := range firsts {
		l = append(l, steps(one))
		for _, two := range nexts {
			l = append(l, steps(one, two))
			for _, three := range nexts {
				l = append(l, steps(one, two, three))
			}
		}
	}
	return l
}

// TestWalkSmall: P2, small graphs and small paths, against the plain telling.
func TestWalkSmall(t *testing.T) {
	s := plan("kind a k:int\nkind b of a\nkind c\nbond p a a 0 any\nbond q a c 0 any\n")
	paths := smallPaths()
	conforming, found := 0, 0
	for i, g := range smallGraphs() {
		if is, _ := check.Conforms(s, g); !is {
			testPlainly(t, s, g, paths[i%len(paths)])
			continue
		}
		conforming++
		for at := conforming % 3; at < len(paths); at += 3 {
			testPlainly(t, s, g, paths[at])
			if rows, _ := plainWalk(s, g, paths[at]); len(rows) > 0 {
				found++
			}
		}
	}
	if conforming < 300 || found < 3000 {
		t.Errorf("of the small graphs only %d conform; only %d paths have rows", conforming, found)
	}
}

// anyGraph is a graph of n nodes that conforms to someSchema, with many ties of the bonds that have no Max.
func anyGraph(r *rand.Rand, n int) (g api.Graph) {
	for id := 1; len(g.Nodes) < n; id += 1 + r.Intn(9) {
		one := api.Node{Id: id, Kind: []string{"a", "b", "c", "d", "d", "d"}[r.Intn(6)]}
		if one.Kind != "c" && r.Intn(2) == 0 {
			one.Record = append(one.Record, prop("k", number(r.Intn(4))))
		}
		if one.Kind != "a" && one.Kind != "c" && r.Intn(2) == 0 {
			one.Record = append(one.Record, prop("x", truth(r.Intn(2))))
		}
		g.Nodes = append(g.Nodes, one)
	}
	for _, b := range someSchema().Bonds {
		for _, from := range g.Nodes {
			for _, to := range g.Nodes {
				fits := plainIs(someSchema().Kinds, from.Kind, b.From) && plainIs(someSchema().Kinds, to.Kind, b.To)
				if fits && b.Max < 0 && r.Intn(3) > 0 {
					g.Ties = append(g.Ties, tie(b.Name, from.Id, to.Id))
				}
			}
		}
	}
	return g
}

// anyPath is a right path by someSchema, of n steps.
func anyPath(r *rand.Rand, n int) []api.Step {
	tests := [][]api.Test{nil, nil, nil, nil, nil, nil, nil, nil, nil, {has("k")}, {below("k", number(3))}, {isnt("k", number(1)), has("k")}, {is("x", truth(1))}, {isnt("x", truth(0))}, {has("y")}}
	all := someSteps(tests...)
	// Of e no bond leads on.
	l := steps(first([]string{"a", "b", "c", "d"}[r.Intn(4)]))
	for len(l) < n {
		next := append(l, all[r.Intn(len(all))])
		if _, wrong := plainCheck(someSchema(), next); wrong == api.OK {
			l = next
		}
	}
	return l
}

// TestWalkAny: P2, any graphs and any paths, against the plain telling; the source of numbers is the same each time.
func TestWalkAny(t *testing.T) {
	s := someSchema()
	r := rand.New(rand.NewSource(10))
	full, some, none := 0, 0, 0
	for range 1000 {
		g := anyGraph(r, 3+r.Intn(5))
		l := anyPath(r, 1+r.Intn(5))
		testPlainly(t, s, g, l)
		switch rows, err := Walk(s, g, l); {
		case told(err) == api.ErrFull:
			full++
		case len(rows) > 0:
			some++
		case err == nil:
			none++
		}
	}
	if full < 20 || some < 100 || none < 100 {
		t.Errorf("too few are too many, have rows, or none: %d, %d, %d", full, some, none)
	}
}
