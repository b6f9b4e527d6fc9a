package session

import (
	"reflect"
	"slices"
	"testing"

	"kinshape/api"
)

// reach has all of a list's memory.
func reach[T any](l []T) []T { return l[:cap(l)] }

// fill writes into all of a list's memory.
func fill[T any](l []T, with T) {
	for i := range reach(l) {
		reach(l)[i] = with
	}
}

// cutSchema is made of lists with something behind their length that is wrong where it is read.
func cutSchema() api.Schema {
	own := []api.Field{{Name: "k", Type: api.Int, Must: true, Key: true}, {Name: "m", Type: api.Text}, {Name: "A"}}
	more := []api.Field{{Name: "x", Type: api.Bool}, {Name: "B"}}
	kinds := []api.Kind{
		{Name: "a", Fields: own[:2]},
		{Name: "b", Of: []string{"a", "zz"}[:1], Fields: more[:1]},
		{Name: "c", Of: []string{"a", "b", "A"}[:2]},
		{Name: "A"},
	}
	bonds := []api.Bond{{Name: "p", From: "a", To: "b", Max: -1}, {Name: "q", From: "a", To: "a", Max: 2}, {Name: "P"}}
	return api.Schema{Kinds: kinds[:3], Bonds: bonds[:2]}
}

// cutNode has such a record.
func cutNode(id int, kind, text string) api.Node {
	n := node(id, kind, text)
	n.Record = append(n.Record, prop("A", api.Value{}), prop("a", number(1)))[:len(n.Record)]
	return n
}

// cutGraph conforms to cutSchema, and is made so, too.
func cutGraph() api.Graph {
	l := []api.Node{cutNode(1, "a", "k=1,m='u'"), cutNode(2, "b", "k=2,x=true"), cutNode(4, "c", "k=4"), {Id: 1, Kind: "A"}}
	ties := []api.Tie{tie("p", 1, 2), tie("p", 4, 4), tie("q", 1, 1), tie("q", 1, 4), tie("A", 0, 0)}
	return api.Graph{Nodes: l[:3], Ties: ties[:4]}
}

// uncutGraph is the same, without anything behind.
func uncutGraph() api.Graph {
	return web("1 a k=1,m='u'; 2 b k=2,x=true; 4 c k=4; p 1 2; p 4 4; q 1 1; q 1 4")
}

// wholeSchema has all of the memory of a schema's lists.
func wholeSchema(s api.Schema) []any {
	all := []any{slices.Clone(reach(s.Kinds)), slices.Clone(reach(s.Bonds))}
	for _, k := range s.Kinds {
		all = append(all, slices.Clone(reach(k.Of)), slices.Clone(reach(k.Fields)))
	}
	return all
}

// wholeGraph has all of the memory of a graph's lists.
func wholeGraph(g api.Graph) []any {
	all := []any{slices.Clone(reach(g.Nodes)), slices.Clone(reach(g.Ties))}
	for _, n := range g.Nodes {
		all = append(all, slices.Clone(reach(n.Record)))
	}
	return all
}

// wipeSchema writes into all of the memory of a schema's lists.
func wipeSchema(s api.Schema) {
	for _, k := range s.Kinds {
		fill(k.Of, "wiped")
		fill(k.Fields, api.Field{Name: "wiped", Type: api.Int})
	}
	fill(s.Kinds, api.Kind{Name: "wiped"})
	fill(s.Bonds, api.Bond{Name: "wiped"})
}

// wipeGraph writes into all of the memory of a graph, one node after the other; each record is to be as it was until then.
func wipeGraph(t *testing.T, g api.Graph) {
	t.Helper()
	var kept []api.Record
	for _, n := range g.Nodes {
		kept = append(kept, slices.Clone(n.Record))
	}
	for i, n := range g.Nodes {
		if !slices.Equal(n.Record, kept[i]) {
			t.Errorf("the node %d shares memory with one ahead", n.Id)
		}
		fill(n.Record, prop("wiped", number(9)))
	}
	fill(g.Nodes, api.Node{Id: 999, Kind: "wiped"})
	fill(g.Ties, tie("wiped", 999, 999))
}

// wipeAnswers writes into all that a base answers, behind which it is to answer as before.
func wipeAnswers(t *testing.T, b *Base) {
	t.Helper()
	before := allOf(b)
	for range 2 {
		now := allOf(b)
		if !now.same(before) {
			t.Errorf("it is not as it was, when its answers are written into: %v, before %v", now, before)
		}
		fill(now.ids, 999)
		wipeGraph(t, now.graph)
		for _, g := range now.seen {
			wipeGraph(t, g)
		}
	}
	if now := allOf(b); !now.same(before) {
		t.Errorf("it is not as it was, when its answers are written into: %v, before %v", now, before)
	}
}

// testGiven asks whether what New is handed is as it was, behind its length, too.
func testGiven(t *testing.T, s api.Schema, g api.Graph) {
	t.Helper()
	if !reflect.DeepEqual(wholeSchema(s), wholeSchema(cutSchema())) || !reflect.DeepEqual(wholeGraph(g), wholeGraph(cutGraph())) {
		t.Errorf("what is handed in is written into: %v, %v", wholeSchema(s), wholeGraph(g))
	}
}

// TestFreshNew: P2 and P4 of DOC.md, what New is handed stays as it is, behind its length, too, whatever is done then; and it may be written into, without the base being changed.
func TestFreshNew(t *testing.T) {
	s, g := cutSchema(), cutGraph()
	b, other := begun(t, s, g, 2), begun(t, s, g, 1)
	testNow(t, b, uncutGraph(), 0, 1, 2)
	testDo(t, b, 1, set(1, "k", number(7)), unset(1, "m"), loose("p", 1, 2), newOp(node(3, "a", "k=3")))
	testCommit(t, b, 1, web("1 a k=7; 2 b k=2,x=true; 3 a k=3; 4 c k=4; p 4 4; q 1 1; q 1 4"))
	testGiven(t, s, g)
	wipeSchema(s)
	wipeGraph(t, g)
	testNow(t, b, web("1 a k=7; 2 b k=2,x=true; 3 a k=3; 4 c k=4; p 4 4; q 1 1; q 1 4"), 1, 2)
	testSee(t, b, 2, uncutGraph())
	testNow(t, other, uncutGraph(), 0, 1)
	testSee(t, other, 1, uncutGraph())
	// The schema is asked by Commit, too.
	testDo(t, other, 1, newOp(node(5, "wiped", "-")))
	testNoCommit(t, other, 1, api.ErrBreak)
	testDo(t, other, 1, gone(5), newOp(node(5, "c", "k=5,m='',x=false")), bind("p", 1, 5))
	testCommit(t, other, 1, web("1 a k=1,m='u'; 2 b k=2,x=true; 4 c k=4; 5 c k=5,m='',x=false; p 1 2; p 1 5; p 4 4; q 1 1; q 1 4"))
}

// TestFreshNewWrong: P2 of DOC.md, what New is handed stays as it is with an error, too.
func TestFreshNewWrong(t *testing.T) {
	s, g := cutSchema(), cutGraph()
	g.Nodes[2].Kind = "zz"
	testNoNew(t, s, g, api.ErrBreak)
	g.Nodes[2].Kind = "c"
	g.Nodes[2].Id = 2
	testNoNew(t, s, g, api.ErrClash)
	g.Nodes[2].Id = 4
	s.Bonds[1].To = "zz"
	testNoNew(t, s, g, api.ErrNone)
	s.Bonds[1].To = "a"
	testGiven(t, s, g)
}

// TestFreshDo: P2 and P4 of DOC.md, the record of an op stays as it is, behind its length, too; and it may be written into then, without what is seen, or is committed, being changed.
func TestFreshDo(t *testing.T) {
	b := begun(t, cutSchema(), cutGraph(), 2)
	n := cutNode(3, "c", "k=3,m='v',x=true")
	kept := slices.Clone(reach(n.Record))
	testDo(t, b, 1, newOp(n))
	testNoDo(t, b, 1, newOp(n), api.ErrClash)
	// Another What that has one, of which nothing is read.
	testDo(t, b, 1, api.Op{What: api.Set, Node: api.Node{Id: 3, Kind: "A", Record: n.Record}, Prop: prop("k", number(8))})
	want := web("1 a k=1,m='u'; 2 b k=2,x=true; 3 c k=8,m='v',x=true; 4 c k=4; p 1 2; p 4 4; q 1 1; q 1 4")
	testSee(t, b, 1, want)
	wipeAnswers(t, b)
	if !slices.Equal(reach(n.Record), kept) {
		t.Errorf("the record that is handed in is written into: %v", reach(n.Record))
	}
	fill(n.Record, prop("wiped", number(9)))
	testSee(t, b, 1, want)
	testCommit(t, b, 1, want)
	testSee(t, b, 2, uncutGraph())
	// One that is refused stays, too.
	n = cutNode(1, "c", "k=3")
	kept = slices.Clone(reach(n.Record))
	testNoDo(t, b, 2, newOp(n), api.ErrClash)
	if !slices.Equal(reach(n.Record), kept) {
		t.Errorf("the record that is handed in is written into: %v", reach(n.Record))
	}
}

// TestFreshSameRecord: P2 of DOC.md, records that share memory where they are handed in do not where they come out.
func TestFreshSameRecord(t *testing.T) {
	r := node(0, "a", "k=1,m='u'").Record
	g := api.Graph{Nodes: []api.Node{{Id: 1, Kind: "a", Record: r}, {Id: 2, Kind: "a", Record: r[:1]}, {Id: 3, Kind: "a", Record: r}}}
	b := begun(t, looseSchema(), g, 2)
	testDo(t, b, 1, newOp(api.Node{Id: 4, Kind: "a", Record: r}), newOp(api.Node{Id: 5, Kind: "a", Record: r[:1]}), set(4, "k", number(4)), unset(1, "k"))
	want := web("1 a m='u'; 2 a k=1; 3 a k=1,m='u'; 4 a k=4,m='u'; 5 a k=1")
	testSee(t, b, 1, want)
	wipeAnswers(t, b)
	fill(r, prop("wiped", number(9)))
	testCommit(t, b, 1, want)
	wipeAnswers(t, b)
	testSee(t, b, 2, web("1 a k=1,m='u'; 2 a k=1; 3 a k=1,m='u'"))
}

// TestFreshAnswers: P2 of DOC.md, what Graph, See and Ids answer may be written into at any time, without the base, or any session, being changed.
func TestFreshAnswers(t *testing.T) {
	b := begun(t, cutSchema(), cutGraph(), 4)
	wipeAnswers(t, b)
	testDo(t, b, 1, set(1, "k", number(7)))
	testDo(t, b, 2, gone(2), newOp(node(3, "a", "k=3")))
	testDo(t, b, 3, set(4, "m", words("v")))
	wipeAnswers(t, b)
	testSee(t, b, 1, web("1 a k=7,m='u'; 2 b k=2,x=true; 4 c k=4; p 1 2; p 4 4; q 1 1; q 1 4"))
	testSee(t, b, 4, uncutGraph())
	g := web("1 a k=7,m='u'; 2 b k=2,x=true; 4 c k=4; p 1 2; p 4 4; q 1 1; q 1 4")
	testCommit(t, b, 1, g)
	wipeAnswers(t, b)
	testNoCommit(t, b, 2, api.ErrLate)
	wipeAnswers(t, b)
	// One that is opened now sees the graph of the commit, with memory of its own.
	testOpen(t, b, 5)
	wipeAnswers(t, b)
	testSee(t, b, 5, g)
	testSee(t, b, 4, uncutGraph())
	g = web("1 a k=7,m='u'; 2 b k=2,x=true; 4 c k=4,m='v'; p 1 2; p 4 4; q 1 1; q 1 4")
	testCommit(t, b, 3, g)
	wipeAnswers(t, b)
	testAbort(t, b, 2)
	wipeAnswers(t, b)
	testCommit(t, b, 4, g)
	testNow(t, b, g, 3, 5)
}

// TestSameAgain: P2 of DOC.md, what a base answers hangs on the calls alone: the same calls, the same answers.
func TestSameAgain(t *testing.T) {
	play := func() (l []all) {
		b := begun(t, someSchema(), someGraph(), 4)
		for id := 1; id <= 4; id++ {
			testDo(t, b, id, set(1000, "k", number(100+id)), newOp(node(10*id, "a", "k=7")))
			l = append(l, allOf(b))
		}
		for _, id := range []int{3, 1, 4} {
			if err := b.Commit(id); (told(err) == api.ErrLate) != (id != 3) {
				t.Errorf("Commit(%d): got %v", id, err)
			}
			l = append(l, allOf(b))
		}
		return l
	}
	want := play()
	for range 20 {
		if got := play(); !slices.EqualFunc(got, want, all.same) {
			t.Fatalf("got %v, before %v", got, want)
		}
	}
}
