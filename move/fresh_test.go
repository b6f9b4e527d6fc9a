package move

import (
	"reflect"
	"slices"
	"testing"

	"kinshape/api"
)

// reach has all of a list's memory.
func reach[T any](l []T) []T { return l[:cap(l)] }

// fill writes into all of a list's memory.
func fill[T any](l []T, with T) {
	for i := range reach(l) {
		reach(l)[i] = with
	}
}

// given is what the calls are handed.
type given struct {
	s api.Schema
	c api.Change
	g api.Graph
}

// cutKind has lists with something behind their length that is wrong where it is read.
func cutKind(name, of string, l ...api.Field) api.Kind {
	k := breed(name, of+" zz A", append(l, field("a", 9), field("A", 9))...)
	k.Of, k.Fields = k.Of[:len(k.Of)-2], k.Fields[:len(k.Fields)-2]
	return k
}

// cutNode has a record of that kind.
func cutNode(id int, kind, text string) api.Node {
	n := node(id, kind, text)
	n.Record = append(n.Record, prop("A", api.Value{}), prop("a", number(1)))[:len(n.Record)]
	return n
}

// cut is made of such lists.
func cut(c api.Change) given {
	s := api.Schema{
		Kinds: []api.Kind{cutKind("a", "", field("k", api.Int), field("m", api.Text)), cutKind("b", "a", field("f", api.Int)), cutKind("c", ""), cutKind("d", ""), {Name: "A", Of: []string{"zz"}}},
		Bonds: []api.Bond{bond("p a b", 0, 1), bond("q b b", 0, 2), bond("P zz zz", 9, 3)},
	}
	s.Kinds, s.Bonds = s.Kinds[:4], s.Bonds[:2]
	g := api.Graph{
		Nodes: []api.Node{cutNode(1, "a", "k=1,m='u'"), cutNode(2, "b", "f=5,k=2,m='v'"), cutNode(4, "c", "-"), cutNode(5, "b", "-"), node(3, "zz", "-")},
		Ties:  []api.Tie{tie("p", 1, 2), tie("p", 2, 5), tie("q", 2, 2), tie("q", 5, 2), tie("P", 0, 0)},
	}
	g.Nodes, g.Ties = g.Nodes[:4], g.Ties[:4]
	c.Kind.Of, c.Kind.Fields = append(c.Kind.Of, "zz", "A")[:len(c.Kind.Of)], append(c.Kind.Fields, field("a", 9))[:len(c.Kind.Fields)]
	return given{s, c, g}
}

// cutChange is a change, and what comes of the graph of cut with it.
type cutChange struct {
	c    api.Change
	want string
}

func cutChanges() []cutChange {
	const ties = "; p 1 2; p 2 5; q 2 2; q 5 2"
	const same = "1 a k=1,m='u'; 2 b f=5,k=2,m='v'; 4 c -; 5 b -"
	return []cutChange{
		{addKind(breed("e", "a c", field("n", api.Int))), same + ties},
		{dropKind("d"), same + ties},
		{addWith("a", field("l", api.Int), number(7)), "1 a k=1,l=7,m='u'; 2 b f=5,k=2,l=7,m='v'; 4 c -; 5 b l=7" + ties},
		{addWith("a", field("n", api.Int), number(7)), "1 a k=1,m='u',n=7; 2 b f=5,k=2,m='v',n=7; 4 c -; 5 b n=7" + ties},
		{addField("a", field("l", api.Int)), same + ties},
		{dropField("a", "k"), "1 a m='u'; 2 b f=5,m='v'; 4 c -; 5 b -" + ties},
		{dropField("a", "m"), "1 a k=1; 2 b f=5,k=2; 4 c -; 5 b -" + ties},
		{addBond(bond("r c a", 0, 5)), same + ties},
		{dropBond("p"), same + "; q 2 2; q 5 2"},
		{dropBond("q"), same + "; p 1 2; p 2 5"},
		{renameTo("a", "m", "b"), "1 a b='u',k=1; 2 b b='v',f=5,k=2; 4 c -; 5 b -" + ties},
		{renameTo("a", "k", "z"), "1 a m='u',z=1; 2 b f=5,m='v',z=2; 4 c -; 5 b -" + ties},
		{setTo("q", 0, -1), same + ties},
	}
}

// whole has all of the memory of what is handed in.
func (x given) whole() []any {
	all := []any{slices.Clone(reach(x.s.Kinds)), slices.Clone(reach(x.s.Bonds)), slices.Clone(reach(x.g.Nodes)), slices.Clone(reach(x.g.Ties))}
	for _, k := range append(slices.Clone(x.s.Kinds), x.c.Kind) {
		all = append(all, slices.Clone(reach(k.Of)), slices.Clone(reach(k.Fields)))
	}
	for _, n := range x.g.Nodes {
		all = append(all, slices.Clone(reach(n.Record)))
	}
	return all
}

// wipe writes into all of it.
func (x given) wipe(t *testing.T) {
	t.Helper()
	fill(x.c.Kind.Of, "wiped")
	fill(x.c.Kind.Fields, field("wiped", 9))
	wipeSchema(t, x.s)
	wipeGraph(t, x.g)
}

// wipeSchema writes into all of the memory of a schema, one kind after the other; each is to be as it was until then.
func wipeSchema(t *testing.T, s api.Schema) {
	t.Helper()
	var kept []api.Kind
	for _, k := range s.Kinds {
		kept = append(kept, api.Kind{Name: k.Name, Of: slices.Clone(k.Of), Fields: slices.Clone(k.Fields)})
	}
	for i, k := range s.Kinds {
		if !slices.Equal(k.Of, kept[i].Of) || !slices.Equal(k.Fields, kept[i].Fields) {
			t.Errorf("the kind %s shares memory with one ahead", k.Name)
		}
		fill(k.Of, "wiped")
		fill(k.Fields, field("wiped", 9))
	}
	fill(s.Kinds, breed("wiped", ""))
	fill(s.Bonds, bond("wiped wiped wiped", 9, 9))
}

// wipeGraph does the same to a graph.
func wipeGraph(t *testing.T, g api.Graph) {
	t.Helper()
	var kept []api.Record
	for _, n := range g.Nodes {
		kept = append(kept, slices.Clone(n.Record))
	}
	for i, n := range g.Nodes {
		if !slices.Equal(n.Record, kept[i]) {
			t.Errorf("the node %d shares memory with one ahead", n.Id)
		}
		fill(n.Record, prop("wiped", number(9)))
	}
	fill(g.Nodes, api.Node{Id: 999, Kind: "wiped"})
	fill(g.Ties, tie("wiped", 999, 999))
}

// testGiven asks whether what is handed in is as it was, behind its length, too.
func testGiven(t *testing.T, x given, c api.Change) {
	t.Helper()
	if !reflect.DeepEqual(x.whole(), cut(c).whole()) {
		t.Errorf("%v: what is handed in is written into: %v", c, x.whole())
	}
}

// TestFreshNode: P2 and P4 of DOC.md, what is handed in stays as it is, behind its length, too; what is answered may be written into, and what was handed in then, without any of it being changed.
func TestFreshNode(t *testing.T) {
	for _, c := range cutChanges() {
		x := cut(c.c)
		for i, want := range web(c.want).Nodes {
			for range 3 {
				got, err := Node(x.s, x.c, x.g.Nodes[i])
				if !sameNode(got, want) || err != nil {
					t.Errorf("Node: %v: got %v, %v, want %v", c.c, got, err, want)
				}
				fill(got.Record, prop("wiped", number(9)))
				testGiven(t, x, c.c)
			}
		}
		var kept []api.Node
		for _, n := range x.g.Nodes {
			got, _ := Node(x.s, x.c, n)
			kept = append(kept, got)
		}
		x.wipe(t)
		if !sameGraph(nodes(kept...), nodes(web(c.want).Nodes...)) {
			t.Errorf("Node: %v: its answers have memory that was handed in: %v", c.c, kept)
		}
	}
}

// TestFreshGraph: P2 and P4 of DOC.md, the same of Graph.
func TestFreshGraph(t *testing.T) {
	for _, c := range cutChanges() {
		x := cut(c.c)
		for range 3 {
			testGraph(t, x.s, x.c, x.g, web(c.want))
			got, _ := Graph(x.s, x.c, x.g)
			wipeGraph(t, got)
			testGiven(t, x, c.c)
		}
		got, _ := Graph(x.s, x.c, x.g)
		x.wipe(t)
		if !sameGraph(got, web(c.want)) {
			t.Errorf("Graph: %v: its answer has memory that was handed in: %v", c.c, got)
		}
	}
}

// TestFreshMove: P2 and P4 of DOC.md, the same of a Move: what New was handed, and what it answered, may be written into at any time.
func TestFreshMove(t *testing.T) {
	for _, c := range cutChanges() {
		x, keep := cut(c.c), cut(c.c)
		m := begun(t, x.s, x.c, x.g)
		testGiven(t, x, c.c)
		x.wipe(t)
		now := cut(c.c).g
		for went := range 5 {
			for range 2 {
				testNow(t, m, 4-went, now)
				wipeGraph(t, m.Graph())
			}
			if went < 4 {
				testStep(t, m, 1, 1)
				now.Nodes[went], _ = plainTurned(keep.s, keep.c, now.Nodes[went])
			}
		}
		for range 3 {
			testEnd(t, m, keep.s, keep.c, web(c.want))
			s, g, _ := m.Done()
			wipeSchema(t, s)
			wipeGraph(t, g)
			testNow(t, m, 0, now)
		}
		s, g, _ := m.Done()
		again, other, _ := m.Done()
		wipeSchema(t, again)
		wipeGraph(t, other)
		wipeGraph(t, m.Graph())
		next, err := Graph(s, addKind(breed("h", "")), g)
		if !sameGraph(next, web(c.want)) || err != nil {
			t.Errorf("%v: the answers of Done share memory: %v, %v, %v", c.c, s, g, err)
		}
	}
}

// TestFreshBreak: P2 of DOC.md, the first Graph, to which a Move goes back, has memory of its own.
func TestFreshBreak(t *testing.T) {
	for _, b := range brokenMoves() {
		x := given{plan(b.s), b.c, web(b.g)}
		m := begun(t, x.s, x.c, x.g)
		x.wipe(t)
		all := len(web(b.g).Nodes)
		for range 3 {
			testNow(t, m, all, web(b.g))
			wipeGraph(t, m.Graph())
			testStep(t, m, 60, all)
			wipeGraph(t, m.Graph())
			testNoDone(t, m, api.ErrBreak)
		}
		testNow(t, m, all, web(b.g))
	}
}

// TestFreshWrong: P2 of DOC.md, what is handed in stays as it is with errors, too.
func TestFreshWrong(t *testing.T) {
	for _, c := range []struct {
		c    api.Change
		want api.Errno
	}{
		{whatever(0), api.ErrRange},
		{addKind(breed("a", "b")), api.ErrClash},
		{dropKind("a"), api.ErrState},
		{addField("b", field("A", api.Int)), api.ErrSyntax},
		{renameTo("a", "m", "f"), api.ErrClash},
		{dropBond("zz"), api.ErrNone},
	} {
		x := cut(c.c)
		testNoNode(t, x.s, x.c, x.g.Nodes[0], c.want)
		testNoNew(t, x.s, x.c, x.g, c.want)
		testGiven(t, x, c.c)
	}
	for _, c := range []api.Change{addBond(bond("r a a", 1, 1)), setTo("q", 2, 2), setTo("p", 0, 0), dropKind("c")} {
		x := cut(c)
		testNoGraph(t, x.s, x.c, x.g, api.ErrBreak)
		testGiven(t, x, c)
	}
	full := cutNode(1, "a", "aa=1,b=1,c=1,d=1,e=1,f=1,g=1,h=1")
	x := cut(addWith("a", field("l", api.Int), number(7)))
	testNoNode(t, x.s, x.c, full, api.ErrFull)
	if !slices.Equal(full.Record, made("aa=1,b=1,c=1,d=1,e=1,f=1,g=1,h=1")) {
		t.Errorf("what is handed in is written into: %v", full)
	}
}

// TestFreshShared: P2 of DOC.md, records that share memory where they are handed in do not where they come out.
func TestFreshShared(t *testing.T) {
	all := made("k=1,l=2,m=3,n=4")
	g := nodes(api.Node{Id: 1, Kind: "a", Record: all[:2]}, api.Node{Id: 2, Kind: "a", Record: all[1:3]}, api.Node{Id: 3, Kind: "a", Record: all[:3]}, api.Node{Id: 4, Kind: "a", Record: all[:0]}, api.Node{Id: 5, Kind: "b", Record: all[:4]})
	s := plan("kind a k:int l:int m:int; kind b k:int l:int m:int n:int")
	for _, c := range []cutChange{
		{addWith("a", field("o", api.Int), number(7)), "1 a k=1,l=2,o=7; 2 a l=2,m=3,o=7; 3 a k=1,l=2,m=3,o=7; 4 a o=7; 5 b k=1,l=2,m=3,n=4"},
		{dropField("a", "l"), "1 a k=1; 2 a m=3; 3 a k=1,m=3; 4 a -; 5 b k=1,l=2,m=3,n=4"},
		{renameTo("a", "l", "a"), "1 a a=2,k=1; 2 a a=2,m=3; 3 a a=2,k=1,m=3; 4 a -; 5 b k=1,l=2,m=3,n=4"},
		{addKind(breed("c", "")), "1 a k=1,l=2; 2 a l=2,m=3; 3 a k=1,l=2,m=3; 4 a -; 5 b k=1,l=2,m=3,n=4"},
	} {
		testGraph(t, s, c.c, g, web(c.want))
		got, _ := Graph(s, c.c, g)
		wipeGraph(t, got)
		m := begun(t, s, c.c, g)
		wipeGraph(t, m.Graph())
		testStep(t, m, 3, 3)
		wipeGraph(t, m.Graph())
		testStep(t, m, 3, 2)
		testEnd(t, m, s, c.c, web(c.want))
		if !slices.Equal(all, made("k=1,l=2,m=3,n=4")) {
			t.Fatalf("%v: what is handed in is written into: %v", c.c, all)
		}
	}
}

// TestSameAgain: P2 of DOC.md, what Node and Graph answer hangs on their arguments alone.
func TestSameAgain(t *testing.T) {
	s, g := someSchema(), someGraph()
	for range 10 {
		for _, c := range someChanges() {
			want, _ := plainGraph(s, c, g)
			testGraph(t, s, c, g, want)
			testNodePlainly(t, s, c, g.Nodes[3])
			testNoGraph(t, s, whatever(0), g, api.ErrRange)
			testNoNode(t, s, c, api.Node{}, api.ErrRange)
		}
	}
}
