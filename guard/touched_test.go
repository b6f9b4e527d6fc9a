package guard

import (
	"slices"
	"testing"

	"kinshape/api"
)

// tiedGraph has nodes with ties out, in, both, to themselves, and none, and with ends that are no nodes.
func tiedGraph() api.Graph {
	return with(nodes(node(1, "a", "-"), node(2, "a", "-"), node(3, "a", "x=1"), node(4, "b", "-"), node(5, "a", "-"), node(6, "a", "-"), node(7, "a", "-"), node(1000, "a", "-")),
		tie("p", 1, 2), tie("p", 1, 3), tie("p", 4, 4), tie("p", 5, 6), tie("p", 6, 5), tie("q", 1, 2), tie("q", 3, 2), tie("q", 5, 5), tie("q", 7, 30), tie("r", 20, 7), tie("r", 20, 30), tie("r", 1000, 1))
}

// TestTouchedWhat: G1, each What has the ids that it names, whether ends of ties are nodes or not, and nothing else of the op is one.
func TestTouchedWhat(t *testing.T) {
	g := tiedGraph()
	testTouched(t, g, ops(newOp(node(8, "a", "x=1"))), 8)
	testTouched(t, g, ops(newOp(node(20, "a", "-"))), 20)
	testTouched(t, g, ops(set(3, "x", number(2))), 3)
	testTouched(t, g, ops(set(3, "x", number(1))), 3)
	testTouched(t, g, ops(unset(3, "x")), 3)
	testTouched(t, g, ops(bindOp(tie("p", 2, 1))), 1, 2)
	testTouched(t, g, ops(bindOp(tie("p", 2, 2))), 2)
	testTouched(t, g, ops(bindOp(tie("p", 2, 50))), 2, 50)
	testTouched(t, g, ops(bindOp(tie("p", 50, 2))), 2, 50)
	testTouched(t, g, ops(bindOp(tie("p", 51, 50))), 50, 51)
	testTouched(t, api.Graph{}, ops(bindOp(tie("p", 1000, 1))), 1, 1000)
	testTouched(t, g, ops(looseOp(tie("p", 1, 2))), 1, 2)
	testTouched(t, g, ops(looseOp(tie("q", 3, 2))), 2, 3)
	testTouched(t, g, ops(looseOp(tie("p", 4, 4))), 4)
	testTouched(t, g, ops(looseOp(tie("r", 20, 30))), 20, 30)
	// What the op does not ask for names no node.
	for _, c := range []struct {
		o    api.Op
		want []int
	}{
		{newOp(node(8, "a", "-")), []int{8}},
		{gone(4), []int{4}},
		{set(3, "x", number(2)), []int{3}},
		{unset(3, "x"), []int{3}},
	} {
		c.o.Tie = tie("p", 1, 2)
		testTouched(t, g, ops(c.o), c.want...)
	}
	for _, o := range []api.Op{bindOp(tie("z", 5, 6)), looseOp(tie("p", 5, 6))} {
		o.Node = node(1, "a", "x=1")
		testTouched(t, g, ops(o), 5, 6)
	}
}

// TestTouchedGone: G1, the other ends of the ties that go with a node: of those out, in, both, to itself, of none, and ends that are no nodes.
func TestTouchedGone(t *testing.T) {
	g := tiedGraph()
	testTouched(t, g, ops(gone(1)), 1, 2, 3, 1000)
	testTouched(t, g, ops(gone(2)), 1, 2, 3)
	testTouched(t, g, ops(gone(3)), 1, 2, 3)
	testTouched(t, g, ops(gone(4)), 4)
	testTouched(t, g, ops(gone(5)), 5, 6)
	testTouched(t, g, ops(gone(6)), 5, 6)
	testTouched(t, g, ops(gone(7)), 7, 20, 30)
	testTouched(t, g, ops(gone(1000)), 1, 1000)
	out := with(ids(1, 2, 3), tie("p", 2, 1), tie("p", 2, 3))
	testTouched(t, out, ops(gone(2)), 1, 2, 3)
	in := with(ids(1, 2, 3), tie("p", 1, 2), tie("p", 3, 2))
	testTouched(t, in, ops(gone(2)), 1, 2, 3)
	itself := with(ids(1, 2, 3), tie("p", 1, 3), tie("p", 2, 2), tie("q", 2, 2))
	testTouched(t, itself, ops(gone(2)), 2)
	testTouched(t, with(itself, tie("p", 2, 1), tie("p", 2, 2)), ops(gone(2)), 1, 2)
	testTouched(t, ids(1, 2, 3), ops(gone(2)), 2)
	testTouched(t, ids(1000), ops(gone(1000)), 1000)
	// The ties of another end are not its own.
	testTouched(t, with(ids(1, 2, 3), tie("p", 1, 2), tie("p", 2, 3)), ops(gone(1)), 1, 2)
	many := api.Graph{Nodes: ids(500).Nodes}
	for _, end := range from(600, api.MaxTies) {
		many.Ties = append(many.Ties, tie("p", end, 500))
	}
	testTouched(t, many, ops(gone(500)), append([]int{500}, from(600, api.MaxTies)...)...)
}

// TestTouchedThen: G1, the ties of a node that is gone, of which ops ahead have bound, loosed or taken along some.
func TestTouchedThen(t *testing.T) {
	g := tiedGraph()
	a, b := node(1, "a", "-"), node(2, "a", "-")
	two := with(nodes(a, b), tie("p", 1, 2))
	// Bound ahead.
	testTouched(t, nodes(a, b), ops(bindOp(tie("p", 1, 2)), gone(1)), 1, 2)
	testTouched(t, g, ops(bindOp(tie("s", 40, 4)), set(3, "x", number(2)), gone(4)), 3, 4, 40)
	testTouched(t, g, ops(newOp(node(8, "a", "-")), bindOp(tie("p", 8, 9)), gone(8)), 8, 9)
	// Bound behind: the op names both ends itself.
	testTouched(t, nodes(a, b), ops(gone(1), bindOp(tie("p", 3, 2))), 1, 2, 3)
	// Loosed ahead: both ends are named by that op, and the rest goes with the node.
	testTouched(t, two, ops(looseOp(tie("p", 1, 2)), gone(1)), 1, 2)
	testTouched(t, g, ops(looseOp(tie("r", 1000, 1)), looseOp(tie("p", 1, 3)), gone(1)), 1, 2, 3, 1000)
	// Gone with another node ahead.
	testTouched(t, two, ops(gone(2), gone(1)), 1, 2)
	chain := with(nodes(a, b, node(3, "a", "-"), node(4, "a", "-")), tie("p", 1, 2), tie("p", 2, 3), tie("p", 3, 4))
	testTouched(t, chain, ops(gone(1)), 1, 2)
	testTouched(t, chain, ops(gone(2)), 1, 2, 3)
	testTouched(t, chain, ops(gone(1), gone(2)), 1, 2, 3)
	testTouched(t, chain, ops(gone(1), gone(4)), 1, 2, 3, 4)
	// The ties went with the node, and do not come again with it.
	testTouched(t, g, ops(gone(7), newOp(node(7, "a", "-")), gone(7)), 7, 20, 30)
	testTouched(t, g, ops(newOp(node(30, "a", "-")), gone(30)), 7, 20, 30)
	testTouched(t, with(ids(1), tie("p", 2, 3)), ops(newOp(b), gone(2), newOp(node(3, "a", "-")), gone(3)), 2, 3)
}

// TestTouchedOnce: G1, the ids rise, and none is there twice, however often and in whichever order ops name it.
func TestTouchedOnce(t *testing.T) {
	g := tiedGraph()
	testTouched(t, g, nil)
	testTouched(t, g, []api.Op{})
	testTouched(t, api.Graph{}, nil)
	testTouched(t, fullGraph(), nil)
	testTouched(t, g, ops(set(3, "x", number(2)), set(3, "y", number(2)), unset(3, "x"), set(3, "x", number(3))), 3)
	testTouched(t, g, ops(set(7, "x", number(2)), set(1, "x", number(2)), set(1000, "x", number(2)), set(5, "x", number(2)), set(2, "x", number(2))), 1, 2, 5, 7, 1000)
	testTouched(t, g, ops(gone(4), newOp(node(4, "a", "-")), set(4, "x", number(1)), unset(4, "x"), bindOp(tie("p", 4, 4)), looseOp(tie("p", 4, 4)), gone(4)), 4)
	testTouched(t, g, ops(gone(1), newOp(node(1, "b", "-")), bindOp(tie("p", 3, 1)), gone(1)), 1, 2, 3, 1000)
	testTouched(t, g, ops(gone(1000), gone(7), gone(6), gone(5), gone(4), gone(3), gone(2), gone(1)), 1, 2, 3, 4, 5, 6, 7, 20, 30, 1000)
	testTouched(t, g, ops(bindOp(tie("z", 9, 8)), bindOp(tie("z", 8, 9)), looseOp(tie("z", 9, 8)), bindOp(tie("y", 10, 8))), 8, 9, 10)
}

// TestTouchedMany: G1, nodes that are gone, each with ties of its own; and as many ids as there may be: a node with all ties that may be, and ties that are bound, when those are gone.
func TestTouchedMany(t *testing.T) {
	var g api.Graph
	var l []api.Op
	for i := range 40 {
		g.Nodes = append(g.Nodes, node(i+1, "a", "-"))
		g.Ties = append(g.Ties, tie("p", i+1, 100+3*i), tie("p", i+1, 101+3*i), tie("p", i+1, 102+3*i))
		l = append(l, gone(40-i))
	}
	testTouched(t, g, l, slices.Concat(from(1, 40), from(100, 120))...)
	g, l = api.Graph{Nodes: ids(500).Nodes}, ops(gone(500))
	for i := range api.MaxTies {
		g.Ties = append(g.Ties, tie("p", 500, 100+i))
	}
	for i := range 39 {
		l = append(l, bindOp(tie("p", 1000-i, 1+i)))
	}
	testTouched(t, g, l, slices.Concat(from(1, 39), from(100, 120), from(500, 1), from(962, 39))...)
}

// from has n ids from one on.
func from(id, n int) (l []int) {
	for i := range n {
		l = append(l, id+i)
	}
	return l
}

// TestTouchedErrors: G1, each error of chapter 7's All, of the graph and of each op, at each place.
func TestTouchedErrors(t *testing.T) {
	g := someGraph()
	for _, b := range badGraphs() {
		for _, l := range someLists() {
			if len(l) <= 40 {
				testUntouched(t, b.g, l, b.want)
			}
		}
	}
	free := set(1000, "m", words("w"))
	for _, b := range badOps() {
		testUntouched(t, g, ops(b.o), b.want)
		testUntouched(t, g, ops(free, b.o), b.want)
		testUntouched(t, g, ops(b.o, free), b.want)
		for _, other := range badOps() {
			testUntouched(t, g, ops(free, b.o, other.o), b.want)
		}
		for at := range 40 {
			l := fullOps(40)
			l[at] = b.o
			testUntouched(t, g, l, b.want)
		}
		testUntouched(t, g, append(ops(b.o), fullOps(40)...), api.ErrFull)
	}
	testUntouched(t, g, ops(gone(4), gone(4)), api.ErrNone)
	testUntouched(t, g, ops(gone(4), looseOp(tie("q", 1, 4))), api.ErrNone)
	testUntouched(t, fullGraph(), ops(newOp(node(61, "a", "-"))), api.ErrFull)
	testUntouched(t, fullGraph(), ops(bindOp(tie("p", 60, 60))), api.ErrFull)
	testUntouched(t, fullGraph(), ops(set(1, "i", number(1))), api.ErrFull)
	// It is not asked whether the graph conforms to anything.
	testTouched(t, nodes(node(1, "zz", "q=1")), ops(gone(1)), 1)
}

// TestTouchedSmall: G1, all sets of some ties between nodes and one that is none, and all rows of up to three of some ops.
func TestTouchedSmall(t *testing.T) {
	some := []api.Tie{tie("p", 1, 2), tie("p", 2, 2), tie("p", 3, 1), tie("q", 2, 1), tie("q", 2, 4)}
	small := ops(gone(1), gone(2), gone(3), newOp(node(1, "a", "-")), newOp(node(4, "a", "-")), gone(4), set(2, "x", number(1)), unset(2, "x"), bindOp(tie("p", 1, 2)), looseOp(tie("p", 1, 2)), looseOp(tie("q", 2, 4)), bindOp(tie("r", 3, 4)))
	for chosen := range 1 << len(some) {
		g := ids(1, 2, 3)
		for i, one := range some {
			if chosen>>i&1 == 1 {
				g.Ties = append(g.Ties, one)
			}
		}
		for _, first := range small {
			testTouchedPlainly(t, g, ops(first))
			for _, second := range small {
				testTouchedPlainly(t, g, ops(first, second))
				for _, third := range small {
					testTouchedPlainly(t, g, ops(first, second, third))
				}
			}
		}
	}
}
