package delta

import (
	"slices"
	"testing"

	"kinshape/api"
)

// testAll asks All for what ops make of a graph.
func testAll(t *testing.T, g api.Graph, l []api.Op, want api.Graph) {
	t.Helper()
	if got, at, err := All(g, l); !sameGraph(got, want) || at != 0 || err != nil {
		t.Errorf("All(%v, %v): got %v, %d, %v, want %v", g, l, got, at, err, want)
	}
}

// testStops asks All for an error at an op, and Turn for the same error: nothing else comes.
func testStops(t *testing.T, g api.Graph, l []api.Op, at int, want api.Errno) {
	t.Helper()
	if got, i, err := All(g, l); !isEmpty(got) || i != at || told(err) != want {
		t.Errorf("All(%v, %v): got %v, %d, %v, want %v at %d", g, l, got, i, err, want, at)
	}
	if got, err := Turn(g, l); len(got) != 0 || told(err) != want {
		t.Errorf("Turn(%v, %v): got %v, %v, want %v", g, l, got, err, want)
	}
}

// TestAll: D1, each op is done on what those ahead of it made.
func TestAll(t *testing.T) {
	g := with(nodes(node(1, "a", "x=1"), node(2, "b", "-")), tie("p", 1, 2), tie("q", 2, 2))
	for _, g := range []api.Graph{{}, g, fullGraph(), someTies(120)} {
		testAll(t, g, nil, g)
		testAll(t, g, []api.Op{}, g)
	}
	testAll(t, g, ops(gone(1)), with(nodes(node(2, "b", "-")), tie("q", 2, 2)))
	testAll(t, g, ops(gone(1), newOp(node(1, "a", "x=1"))), with(g, tie("q", 2, 2)))
	testAll(t, g, ops(gone(1), newOp(node(1, "a", "x=1")), bindOp(tie("p", 1, 2))), g)
	testAll(t, g, ops(newOp(node(3, "c", "-")), set(3, "y", number(2)), set(3, "x", number(1)), unset(3, "y"), bindOp(tie("p", 3, 3))),
		with(nodes(node(1, "a", "x=1"), node(2, "b", "-"), node(3, "c", "x=1")), tie("p", 1, 2), tie("p", 3, 3), tie("q", 2, 2)))
	testAll(t, g, ops(set(1, "x", number(2)), set(1, "x", number(3)), unset(1, "x"), set(1, "x", words(""))), with(nodes(node(1, "a", "x=''"), node(2, "b", "-")), g.Ties...))
	testAll(t, g, ops(looseOp(tie("p", 1, 2)), bindOp(tie("p", 1, 2)), looseOp(tie("q", 2, 2)), looseOp(tie("p", 1, 2))), nodes(g.Nodes...))
	testAll(t, g, ops(gone(2), gone(1)), api.Graph{})
	testAll(t, g, ops(bindOp(tie("r", 8, 9)), newOp(node(8, "a", "-")), gone(8)), g)
	// What is full takes one more where one went.
	full := fullGraph()
	testAll(t, full, ops(gone(60), newOp(full.Nodes[59]), unset(3, "h"), set(3, "h", number(7)), looseOp(tie("p", 12, 10)), bindOp(tie("p", 12, 10))), full)
}

// TestAllErrors: D1, the number of the first op that has an error; it is told of what those ahead of it made.
func TestAllErrors(t *testing.T) {
	g := with(nodes(node(1, "a", "x=1"), node(2, "b", "-")), tie("p", 1, 2))
	testStops(t, g, ops(api.Op{}), 0, api.ErrRange)
	testStops(t, g, ops(gone(1), gone(1)), 1, api.ErrNone)
	testStops(t, g, ops(gone(1), looseOp(tie("p", 1, 2))), 1, api.ErrNone)
	testStops(t, g, ops(gone(1), set(1, "x", number(2))), 1, api.ErrNone)
	testStops(t, g, ops(gone(2), bindOp(tie("p", 1, 2)), bindOp(tie("p", 1, 2)), gone(7)), 2, api.ErrClash)
	testStops(t, g, ops(newOp(node(3, "a", "-")), newOp(node(3, "b", "-"))), 1, api.ErrClash)
	testStops(t, g, ops(unset(1, "x"), unset(1, "x"), api.Op{}), 1, api.ErrNone)
	testStops(t, g, ops(set(1, "x", number(2)), gone(9), set(1, "X", number(2))), 1, api.ErrNone)
	testStops(t, g, ops(gone(1), gone(2), newOp(api.Node{}), gone(2)), 2, api.ErrRange)
	testStops(t, someNodes(59), ops(newOp(node(1, "a", "-")), newOp(node(2, "a", "-"))), 1, api.ErrFull)
	testStops(t, someTies(119), ops(bindOp(tie("p", 1, 1)), bindOp(tie("p", 1, 2))), 1, api.ErrFull)
	testStops(t, ids(1), append(letterSets(8), set(1, "z", number(1))), 8, api.ErrFull)
}

// letterSets has n ops that set a, b, c and so on of node 1.
func letterSets(n int) (l []api.Op) {
	for i := range n {
		l = append(l, set(1, string(rune('a'+i)), number(i)))
	}
	return l
}

// manyOps has n ops that node 1 takes, whatever they are, and what they make of it.
func manyOps(n int) (l []api.Op, want api.Graph) {
	for i := range n {
		l = append(l, set(1, "x", number(i)))
	}
	if n == 0 {
		return l, ids(1)
	}
	return l, nodes(api.Node{Id: 1, Kind: "a", Record: api.Record{prop("x", number(n-1))}})
}

// TestMaxOps: D1, as many as MaxOps are done, and of one more none is, whatever else is wrong.
func TestMaxOps(t *testing.T) {
	for n := range 41 {
		l, want := manyOps(n)
		testAll(t, ids(1), l, want)
	}
	for _, n := range []int{41, 42, 80, 1000} {
		l, _ := manyOps(n)
		testStops(t, ids(1), l, 0, api.ErrFull)
		testStops(t, api.Graph{}, l, 0, api.ErrFull)
		testStops(t, ids(1), make([]api.Op, n), 0, api.ErrFull)
		// Ahead of the graph's fault.
		for _, c := range badGraphs() {
			testStops(t, c.g, l, 0, api.ErrFull)
			testStops(t, c.g, make([]api.Op, n), 0, api.ErrFull)
		}
	}
}

// TestAllPlaces: D1, an op with an error at each place of as many ops as may be, with another one at the end.
func TestAllPlaces(t *testing.T) {
	faulty := []struct {
		o    api.Op
		want api.Errno
	}{
		{api.Op{What: 7}, api.ErrRange},
		{newOp(node(1, "a", "-")), api.ErrClash},
		{newOp(node(2, "A", "-")), api.ErrSyntax},
		{gone(9), api.ErrNone},
		{set(1, "x", api.Value{}), api.ErrType},
		{set(1, "x", words("123456789012345678901")), api.ErrFull},
		{unset(1, "y"), api.ErrNone},
		{bindOp(tie("p", 0, 1)), api.ErrRange},
		{looseOp(tie("p", 1, 1)), api.ErrNone},
	}
	for at := range 40 {
		for _, first := range faulty {
			for _, second := range faulty {
				l, _ := manyOps(40)
				l[39] = second.o
				l[at] = first.o
				testStops(t, ids(1), l, at, first.want)
			}
		}
	}
}

// TestAllOneByOne: D1, All of three ops is Do of each on what the one ahead made.
func TestAllOneByOne(t *testing.T) {
	var some []api.Op
	for i, o := range smallOps() {
		if i%3 == 0 {
			some = append(some, o)
		}
	}
	for i, g := range smallGraphs() {
		if i%7 != 0 {
			continue
		}
		for _, first := range some {
			for _, second := range some {
				checkOneByOne(t, g, ops(first, second, gone(1)))
			}
		}
	}
}

// checkOneByOne does ops by the plain telling.
func checkOneByOne(t *testing.T, g api.Graph, l []api.Op) {
	t.Helper()
	want, bad, at := g, api.OK, 0
	for i, o := range l {
		if want, bad = plainDo(want, o); bad != api.OK {
			at = i
			break
		}
	}
	if got, i, err := All(g, l); !sameGraph(got, want) || i != at || told(err) != bad {
		t.Errorf("All(%v, %v): got %v, %d, %v, want %v, %d, %v", g, l, got, i, err, want, at, bad)
	}
	turned, err := Turn(g, l)
	if told(err) != bad || bad != api.OK && len(turned) != 0 {
		t.Errorf("Turn(%v, %v): got %v, %v, want %v", g, l, turned, err, bad)
	}
	if bad == api.OK && !sameOps(turned, plainDiff(want, g)) {
		t.Errorf("Turn(%v, %v): got %v, want %v", g, l, turned, plainDiff(want, g))
	}
}

// doEach does ops one by one, however many there are.
func doEach(t *testing.T, g api.Graph, l []api.Op) api.Graph {
	t.Helper()
	for i, o := range l {
		next, err := Do(g, o)
		if err != nil {
			t.Errorf("op %d of %v: %v", i, l, err)
			return g
		}
		g = next
	}
	return g
}

// doPieces does ops by All, as many at once as may be.
func doPieces(t *testing.T, g api.Graph, l []api.Op) api.Graph {
	t.Helper()
	for piece := range slices.Chunk(l, api.MaxOps) {
		next, at, err := All(g, piece)
		if err != nil {
			t.Errorf("op %d of %v: %v", at, piece, err)
			return g
		}
		g = next
	}
	return g
}
