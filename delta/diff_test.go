package delta

import (
	"fmt"
	"slices"
	"testing"

	"kinshape/api"
	"kinshape/graph"
)

// testDiff asks Diff for ops, and whether they, done one by one, make of a what b is.
func testDiff(t *testing.T, a, b api.Graph, want ...api.Op) {
	t.Helper()
	got, err := Diff(a, b)
	if !sameOps(got, want) || err != nil {
		t.Errorf("Diff(%v, %v): got %v, %v, want %v", a, b, got, err, want)
	}
	checkLeads(t, a, b, got)
}

// checkLeads does ops, which are to make of a what b is.
func checkLeads(t *testing.T, a, b api.Graph, l []api.Op) {
	t.Helper()
	for _, done := range []api.Graph{doEach(t, a, l), doPieces(t, a, l)} {
		if is, err := graph.Same(done, b); !is || err != nil || !sameGraph(done, b) {
			t.Errorf("%v of %v make %v, not %v (%v)", l, a, done, b, err)
		}
	}
}

// TestDiffNodes: D2, Gone of nodes, New of nodes, whole; of the same id and another kind both.
func TestDiffNodes(t *testing.T) {
	testDiff(t, api.Graph{}, api.Graph{})
	testDiff(t, ids(1, 2), ids(1, 2))
	testDiff(t, ids(1, 2), api.Graph{}, gone(1), gone(2))
	testDiff(t, api.Graph{}, nodes(node(1, "a", "-"), node(7, "b", "x=1,y='u'")), newOp(node(1, "a", "-")), newOp(node(7, "b", "x=1,y='u'")))
	testDiff(t, ids(1, 3, 5), ids(2, 3, 4), gone(1), gone(5), newOp(node(2, "a", "-")), newOp(node(4, "a", "-")))
	// Another kind: it goes and comes with all that it has, even if that is the same.
	testDiff(t, nodes(node(1, "a", "x=1")), nodes(node(1, "b", "x=1")), gone(1), newOp(node(1, "b", "x=1")))
	testDiff(t, nodes(node(1, "a", "x=1,y=2")), nodes(node(1, "b", "z=1")), gone(1), newOp(node(1, "b", "z=1")))
	testDiff(t, nodes(node(1, "a", "x=1"), node(2, "b", "-"), node(3, "a", "-")), nodes(node(1, "b", "-"), node(2, "a", "x=1"), node(3, "a", "-")),
		gone(1), gone(2), newOp(node(1, "b", "-")), newOp(node(2, "a", "x=1")))
	// The same kind and record by another id is another node.
	testDiff(t, nodes(node(1, "a", "x=1")), nodes(node(2, "a", "x=1")), gone(1), newOp(node(2, "a", "x=1")))
}

// TestDiffProps: D2, Unset, then Set, by name, node by node.
func TestDiffProps(t *testing.T) {
	one := func(text string) api.Graph { return nodes(node(1, "a", text)) }
	testDiff(t, one("x=1"), one("x=1"))
	testDiff(t, one("x=1"), one("x=2"), set(1, "x", number(2)))
	testDiff(t, one("x=1"), one("x='1'"), set(1, "x", words("1")))
	testDiff(t, one("x=1"), one("x=true"), set(1, "x", api.Value{Type: api.Bool, N: 1}))
	testDiff(t, one("x='a'"), one("x='b'"), set(1, "x", words("b")))
	testDiff(t, one("x=0"), one("x=''"), set(1, "x", words("")))
	testDiff(t, one("-"), one("x=1"), set(1, "x", number(1)))
	testDiff(t, one("x=1"), one("-"), unset(1, "x"))
	testDiff(t, one("x=1"), one("y=1"), unset(1, "x"), set(1, "y", number(1)))
	testDiff(t, one("y=1"), one("x=1"), unset(1, "y"), set(1, "x", number(1)))
	testDiff(t, one("a=1,c=1,e=1,g=1"), one("b=2,c=1,d=2,e=2"), unset(1, "a"), unset(1, "g"), set(1, "b", number(2)), set(1, "d", number(2)), set(1, "e", number(2)))
	// Each node's Unset and Set are behind all of the node ahead.
	testDiff(t, nodes(node(1, "a", "x=1"), node(2, "a", "x=1"), node(3, "b", "y=1")), nodes(node(1, "a", "y=1"), node(2, "a", "x=1"), node(3, "b", "x=1,z=2")),
		unset(1, "x"), set(1, "y", number(1)), unset(3, "y"), set(3, "x", number(1)), set(3, "z", number(2)))
	// All that may be goes ahead of all that may be.
	testDiff(t, one("a=0,b=1,c=2,d=3,e=4,f=5,g=6,h=7"), one("s=0,t=1,u=2,v=3,w=4,x=5,y=6,z=7"), fullProps()...)
}

// fullProps has the ops that make of eight properties eight others.
func fullProps() (l []api.Op) {
	for i := range 8 {
		l = append(l, unset(1, string(rune('a'+i))))
	}
	for i := range 8 {
		l = append(l, set(1, string(rune('s'+i)), number(i)))
	}
	return l
}

// TestDiffTies: D2, Loose of ties, Bind of ties, of those, too, that go with a node.
func TestDiffTies(t *testing.T) {
	p, q, r := tie("p", 1, 2), tie("p", 2, 1), tie("q", 1, 1)
	testDiff(t, ties(p), ties(p))
	testDiff(t, ties(p, q), api.Graph{}, looseOp(p), looseOp(q))
	testDiff(t, api.Graph{}, ties(p, q), bindOp(p), bindOp(q))
	testDiff(t, ties(p, r), ties(q, r), looseOp(p), bindOp(q))
	testDiff(t, with(ids(1, 2), p, r), with(ids(1, 2), q), looseOp(p), looseOp(r), bindOp(q))
	// Ties whose node goes, and which are not there any more, are loosed first.
	testDiff(t, with(ids(1, 2), p, q, r), ids(2), looseOp(p), looseOp(q), looseOp(r), gone(1))
	// They go with a node, as From, as To, and as both, and come again, though their end is no node.
	testDiff(t, with(ids(1, 2), p), with(ids(2), p), gone(1), bindOp(p))
	testDiff(t, with(ids(1, 2), p), with(ids(1), p), gone(2), bindOp(p))
	testDiff(t, with(ids(1, 2), r), with(ids(2), r), gone(1), bindOp(r))
	testDiff(t, with(ids(1, 2), p, q, r), ties(p, r), looseOp(q), gone(1), gone(2), bindOp(p), bindOp(r))
	testDiff(t, with(ids(1, 2), p, q, r), with(ids(1), p, q, r), gone(2), bindOp(p), bindOp(q))
	// A node of another kind, too, takes its ties away.
	testDiff(t, with(ids(1, 2), p, q, r), with(nodes(node(1, "b", "-"), node(2, "a", "-")), p, q, r), gone(1), newOp(node(1, "b", "-")), bindOp(p), bindOp(q), bindOp(r))
	testDiff(t, with(ids(1, 2), p, r), with(nodes(node(1, "a", "-"), node(2, "b", "-")), p, q, r), gone(2), newOp(node(2, "b", "-")), bindOp(p), bindOp(q))
	// Those of an end that was no node stay, and those that stay are not bound.
	testDiff(t, with(ids(1), tie("p", 2, 2)), with(ids(1, 2), tie("p", 2, 2)), newOp(node(2, "a", "-")))
	testDiff(t, with(ids(1, 3), tie("p", 2, 2)), with(ids(1), tie("p", 2, 2)), gone(3))
	testDiff(t, with(ids(1, 3), p, tie("p", 2, 3)), with(ids(1), p, tie("p", 2, 3)), gone(3), bindOp(tie("p", 2, 3)))
}

// TestDiffOrder: D2, all that there is, in its order.
func TestDiffOrder(t *testing.T) {
	a := with(nodes(node(1, "a", "x=1,y=1"), node(2, "a", "-"), node(3, "b", "x=1"), node(5, "a", "x=1")), tie("o", 5, 5), tie("p", 1, 2), tie("p", 3, 1), tie("p", 5, 1), tie("z", 9, 9))
	b := with(nodes(node(1, "a", "y=2,z=1"), node(3, "a", "x=1"), node(4, "c", "k=1"), node(5, "a", "x=2")), tie("a", 4, 4), tie("o", 5, 5), tie("p", 3, 1), tie("p", 3, 4), tie("z", 9, 8))
	testDiff(t, a, b,
		looseOp(tie("p", 1, 2)), looseOp(tie("p", 5, 1)), looseOp(tie("z", 9, 9)),
		gone(2), gone(3),
		newOp(node(3, "a", "x=1")), newOp(node(4, "c", "k=1")),
		unset(1, "x"), set(1, "y", number(2)), set(1, "z", number(1)), set(5, "x", number(2)),
		bindOp(tie("a", 4, 4)), bindOp(tie("p", 3, 1)), bindOp(tie("p", 3, 4)), bindOp(tie("z", 9, 8)))
}

// manyGraphs has graphs of which no two are the same.
func manyGraphs() []api.Graph {
	full := fullGraph()
	others := fullGraph()
	for i := range others.Nodes {
		others.Nodes[i] = node(i+1, "b", fmt.Sprintf("s=%d,t=1,u=2,v=3,w=4,x=5,y=6,z=7", i))
	}
	same := fullGraph()
	for i := range same.Nodes {
		same.Nodes[i] = node(i+1, "a", fmt.Sprintf("a=%d,b=1,u=2,v=3,w=4,x=5,y=6,z=7", i))
	}
	far := someNodes(60)
	for i := range far.Nodes {
		far.Nodes[i].Id += 400
	}
	return []api.Graph{
		{}, ids(1), ids(1000), ids(1, 1000), someNodes(59), someNodes(60), far, someTies(119), someTies(120), full, others, same,
		nodes(full.Nodes...), ties(full.Ties...), with(full, someTies(120).Ties...), with(far, full.Ties...), with(others, someTies(7).Ties...),
		nodes(node(1, "a", "x=1"), node(2, "a", "y='it''s'")), nodes(node(1, "b", "x=1"), node(2, "a", "x='it''s'")),
		with(nodes(node(1, "a", "x=1"), node(2, "a", "-")), tie("p", 1, 2), tie("p", 2, 1)),
		with(nodes(node(2, "a", "-")), tie("p", 1, 2), tie("p", 2, 1), tie("q", 7, 7)),
		with(nodes(node(1, "b", "x=1"), node(2, "b", "-"), node(7, "c", "-")), tie("p", 1, 2), tie("p", 2, 1), tie("q", 7, 7)),
	}
}

// TestDiffMany: D2, between each two of several graphs, as many ops as there are, held against a plain telling.
func TestDiffMany(t *testing.T) {
	most := 0
	for i, a := range manyGraphs() {
		for j, b := range manyGraphs() {
			got, err := Diff(a, b)
			if !sameOps(got, plainDiff(a, b)) || err != nil {
				t.Errorf("from %d to %d: got %v, %v, want %v", i, j, got, err, plainDiff(a, b))
			}
			if (i == j) != (len(got) == 0) {
				t.Errorf("from %d to %d: %d ops", i, j, len(got))
			}
			checkLeads(t, a, b, got)
			most = max(most, len(got))
		}
	}
	// 6 properties of each of 60 nodes that go, 7 that come, but for one that is the same, 115 ties that go, and 115 that come: more than All takes at once.
	if most != 60*(6+7)-1+115+115 {
		t.Errorf("at most %d ops", most)
	}
}

// TestDiffSmall: D2, between all pairs of small graphs, held against a plain telling.
func TestDiffSmall(t *testing.T) {
	for _, a := range smallGraphs() {
		for _, b := range smallGraphs() {
			got, err := Diff(a, b)
			if !sameOps(got, plainDiff(a, b)) || err != nil {
				t.Errorf("Diff(%v, %v): got %v, %v, want %v", a, b, got, err, plainDiff(a, b))
			}
			if done, at, err := All(a, got); !sameGraph(done, b) || at != 0 || err != nil {
				t.Errorf("%v of %v: got %v, %d, %v, want %v", got, a, done, at, err, b)
			}
		}
	}
}

// TestDiffErrors: D2, a's fault ahead of b's; nothing comes with it.
func TestDiffErrors(t *testing.T) {
	for _, a := range badGraphs() {
		for _, g := range []api.Graph{{}, ids(1), fullGraph(), a.g} {
			if got, err := Diff(a.g, g); len(got) != 0 || told(err) != a.want {
				t.Errorf("Diff(%v, %v): got %v, %v, want %v", a.g, g, got, err, a.want)
			}
			if got, err := Diff(g, a.g); len(got) != 0 || told(err) != a.want {
				t.Errorf("Diff(%v, %v): got %v, %v, want %v", g, a.g, got, err, a.want)
			}
		}
		for _, b := range badGraphs() {
			if got, err := Diff(a.g, b.g); len(got) != 0 || told(err) != a.want {
				t.Errorf("Diff(%v, %v): got %v, %v, want %v", a.g, b.g, got, err, a.want)
			}
		}
	}
}

// testTurn asks Turn for ops, and whether they lead back.
func testTurn(t *testing.T, g api.Graph, l []api.Op, want ...api.Op) {
	t.Helper()
	got, err := Turn(g, l)
	if !sameOps(got, want) || err != nil {
		t.Errorf("Turn(%v, %v): got %v, %v, want %v", g, l, got, err, want)
	}
	done, _, err := All(g, l)
	if err != nil {
		t.Errorf("All(%v, %v): %v", g, l, err)
	}
	checkLeads(t, done, g, got)
}

// TestTurn: D2, what was done, turned; what took itself back has nothing to turn.
func TestTurn(t *testing.T) {
	g := with(nodes(node(1, "a", "x=1,y=2"), node(2, "b", "-"), node(4, "a", "z=1")), tie("p", 1, 2), tie("p", 2, 2), tie("q", 2, 1), tie("q", 9, 9))
	testTurn(t, g, nil)
	testTurn(t, api.Graph{}, []api.Op{})
	testTurn(t, g, ops(newOp(node(3, "c", "x=1"))), gone(3))
	testTurn(t, g, ops(gone(4)), newOp(node(4, "a", "z=1")))
	testTurn(t, g, ops(gone(2)), newOp(node(2, "b", "-")), bindOp(tie("p", 1, 2)), bindOp(tie("p", 2, 2)), bindOp(tie("q", 2, 1)))
	testTurn(t, g, ops(set(1, "x", number(2))), set(1, "x", number(1)))
	testTurn(t, g, ops(set(1, "z", number(2))), unset(1, "z"))
	testTurn(t, g, ops(unset(1, "y")), set(1, "y", number(2)))
	testTurn(t, g, ops(bindOp(tie("p", 4, 4))), looseOp(tie("p", 4, 4)))
	testTurn(t, g, ops(looseOp(tie("q", 9, 9))), bindOp(tie("q", 9, 9)))
	testTurn(t, g, ops(set(1, "x", number(2)), set(1, "x", number(1)), bindOp(tie("r", 1, 1)), looseOp(tie("r", 1, 1)), newOp(node(9, "a", "-")), looseOp(tie("q", 9, 9)), gone(9), bindOp(tie("q", 9, 9))))
	testTurn(t, g, ops(gone(1), newOp(node(1, "c", "x=1"))), gone(1), newOp(node(1, "a", "x=1,y=2")), bindOp(tie("p", 1, 2)), bindOp(tie("q", 2, 1)))
	testTurn(t, g, ops(gone(1), newOp(node(1, "a", "x=3"))), set(1, "x", number(1)), set(1, "y", number(2)), bindOp(tie("p", 1, 2)), bindOp(tie("q", 2, 1)))
	l, _ := manyOps(40)
	testTurn(t, nodes(node(1, "a", "x=77")), l, set(1, "x", number(77)))
	// One op may take more to turn than All takes at once.
	star := with(ids(10), someTies(120).Ties...)
	back := ops(newOp(node(10, "a", "-")))
	for _, one := range star.Ties {
		back = append(back, bindOp(one))
	}
	testTurn(t, star, ops(gone(10)), back...)
}

// TestTurnBack: D2, all small ops on all small graphs, turned, lead back; turned again, they lead there.
func TestTurnBack(t *testing.T) {
	for _, g := range smallGraphs() {
		for _, o := range smallOps() {
			done, bad := plainDo(g, o)
			back, err := Turn(g, ops(o))
			if told(err) != bad || bad != api.OK && len(back) != 0 {
				t.Errorf("Turn(%v, %v): got %v, %v, want %v", g, o, back, err, bad)
			}
			if bad != api.OK {
				continue
			}
			if got, _, err := All(done, back); !sameGraph(got, g) || err != nil {
				t.Errorf("%v of %v: got %v, %v, want %v", back, done, got, err, g)
			}
			there, err := Turn(done, back)
			if got, _, bad := All(g, there); err != nil || !sameGraph(got, done) || bad != nil {
				t.Errorf("Turn(%v, %v): got %v, %v, which lead to %v, %v, not to %v", done, back, there, err, got, bad, done)
			}
		}
	}
}

// TestTurnErrors: D2, All's errors, of which All's tests ask both.
func TestTurnErrors(t *testing.T) {
	g := ids(1)
	for _, o := range []struct {
		o    api.Op
		want api.Errno
	}{{api.Op{}, api.ErrRange}, {gone(2), api.ErrNone}, {newOp(node(1, "a", "-")), api.ErrClash}, {set(1, "x", api.Value{}), api.ErrType}, {bindOp(tie("", 1, 1)), api.ErrSyntax}} {
		for _, l := range [][]api.Op{{o.o}, {set(1, "x", number(1)), o.o}, {o.o, gone(1)}} {
			if got, err := Turn(g, l); len(got) != 0 || told(err) != o.want {
				t.Errorf("Turn(%v, %v): got %v, %v, want %v", g, l, got, err, o.want)
			}
		}
	}
	if got, err := Turn(g, slices.Repeat(ops(gone(1)), 41)); len(got) != 0 || told(err) != api.ErrFull {
		t.Errorf("Turn of 41: got %v, %v", got, err)
	}
}
