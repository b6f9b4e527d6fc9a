package index

import (
	"reflect"
	"slices"
	"testing"

	"kinshape/api"
)

// reach has all of a list's memory.
func reach[T any](l []T) []T { return l[:cap(l)] }

// fill writes into all of a list's memory.
func fill[T any](l []T, with T) {
	for i := range reach(l) {
		reach(l)[i] = with
	}
}

// cutSchema is made of lists with something behind their length that is wrong where it is read.
func cutSchema() api.Schema {
	own := []api.Field{{Name: "k", Type: api.Int, Must: true, Key: true}, {Name: "m", Type: api.Text}, {Name: "A"}}
	more := []api.Field{{Name: "x", Type: api.Bool}, {Name: "B"}}
	kinds := []api.Kind{
		{Name: "a", Fields: own[:2]},
		{Name: "b", Of: []string{"a", "zz"}[:1], Fields: more[:1]},
		{Name: "c", Of: []string{"a", "b", "A"}[:2]},
		{Name: "A"},
	}
	bonds := []api.Bond{{Name: "p", From: "a", To: "b", Max: -1}, {Name: "q", From: "a", To: "a", Max: 2}, {Name: "P"}}
	return api.Schema{Kinds: kinds[:3], Bonds: bonds[:2]}
}

// cutGraph conforms to cutSchema, and is made so, too.
func cutGraph() api.Graph {
	l := []api.Node{node(1, "a", "k=1,m='u'"), node(2, "b", "k=2,x=true,y=1"), node(4, "c", "k=4,zz=1"), {Id: 1, Kind: "A"}}
	l[1].Record, l[2].Record = l[1].Record[:2], l[2].Record[:1]
	ties := []api.Tie{tie("p", 1, 2), tie("p", 4, 4), tie("q", 1, 1), tie("q", 1, 4), tie("A", 0, 0)}
	return api.Graph{Nodes: l[:3], Ties: ties[:4]}
}

// plainSchema and plainGraph are the same, without anything behind.
func plainSchema() api.Schema {
	return made("kind a k:int* m:text\nkind b of a x:bool\nkind c of a,b\nbond p a b 0 any\nbond q a a 0 2\n")
}

func plainGraph() api.Graph {
	return with(nodes(node(1, "a", "k=1,m='u'"), node(2, "b", "k=2,x=true"), node(4, "c", "k=4")), tie("p", 1, 2), tie("p", 4, 4), tie("q", 1, 1), tie("q", 1, 4))
}

// wholeSchema has all of the memory of a schema's lists.
func wholeSchema(s api.Schema) []any {
	all := []any{slices.Clone(reach(s.Kinds)), slices.Clone(reach(s.Bonds))}
	for _, k := range s.Kinds {
		all = append(all, slices.Clone(reach(k.Of)), slices.Clone(reach(k.Fields)))
	}
	return all
}

// wholeGraph has all of the memory of a graph's lists.
func wholeGraph(g api.Graph) []any {
	all := []any{slices.Clone(reach(g.Nodes)), slices.Clone(reach(g.Ties))}
	for _, n := range g.Nodes {
		all = append(all, slices.Clone(reach(n.Record)))
	}
	return all
}

// wipeSchema writes into all of the memory of a schema's lists.
func wipeSchema(s api.Schema) {
	for _, k := range s.Kinds {
		fill(k.Of, "wiped")
		fill(k.Fields, api.Field{Name: "wiped", Type: api.Int})
	}
	fill(s.Kinds, api.Kind{Name: "wiped"})
	fill(s.Bonds, api.Bond{Name: "wiped"})
}

// wipeGraph writes into all of the memory of a graph's lists.
func wipeGraph(g api.Graph) {
	for _, n := range g.Nodes {
		fill(n.Record, prop("wiped", number(9)))
	}
	fill(g.Nodes, api.Node{Id: 999, Kind: "wiped"})
	fill(g.Ties, tie("wiped", 999, 999))
}

// wipeAnswers writes into all that an index answers.
func wipeAnswers(t *testing.T, x *Index) {
	t.Helper()
	for _, name := range []string{"a", "b", "c"} {
		l, err := x.Kind(name)
		if err != nil {
			t.Errorf("Kind(%q): %v", name, err)
		}
		fill(l, 999)
	}
	g := x.Graph()
	for _, n := range g.Nodes {
		for _, bond := range []string{"p", "q"} {
			for _, back := range []bool{false, true} {
				l, err := x.Ends(n.Id, bond, back)
				if err != nil {
					t.Errorf("Ends(%d, %q, %v): %v", n.Id, bond, back, err)
				}
				fill(l, 999)
			}
		}
	}
	wipeGraph(g)
}

// TestFreshNew: P2 and P4, what New is handed stays as it is, behind its length, too, and may be written into then.
func TestFreshNew(t *testing.T) {
	s, g := cutSchema(), cutGraph()
	x, other := madeIndex(t, s, g), madeIndex(t, s, g)
	testAnswers(t, x, plainSchema(), plainGraph())
	if !reflect.DeepEqual(wholeSchema(s), wholeSchema(cutSchema())) || !reflect.DeepEqual(wholeGraph(g), wholeGraph(cutGraph())) {
		t.Errorf("what is handed in is written into: %v, %v", wholeSchema(s), wholeGraph(g))
	}
	wipeSchema(s)
	wipeGraph(g)
	testAnswers(t, x, plainSchema(), plainGraph())
	testAnswers(t, other, plainSchema(), plainGraph())
	// The schema is asked by Do, too, and two of one graph have nothing in common.
	testNotDone(t, x, plainSchema(), newOp(node(5, "wiped", "-")), api.ErrBreak)
	testDone(t, x, plainSchema(), newOp(node(5, "b", "k=5")))
	testDone(t, x, plainSchema(), set(1, "m", words("v")))
	testDone(t, x, plainSchema(), gone(4))
	testAnswers(t, other, plainSchema(), plainGraph())
}

// TestFreshNewWrong: P2, what New is handed stays as it is with an error, too.
func TestFreshNewWrong(t *testing.T) {
	s, g := cutSchema(), cutGraph()
	g.Nodes[2].Kind = "zz"
	testNewWrong(t, s, g, api.ErrBreak)
	g.Nodes[2].Kind = "c"
	if !reflect.DeepEqual(wholeSchema(s), wholeSchema(cutSchema())) || !reflect.DeepEqual(wholeGraph(g), wholeGraph(cutGraph())) {
		t.Errorf("what is handed in is written into: %v, %v", wholeSchema(s), wholeGraph(g))
	}
}

// TestFreshAnswers: P2, what comes out may be written into, behind its length, too, ahead of and behind each op.
func TestFreshAnswers(t *testing.T) {
	s, g := plainSchema(), plainGraph()
	x := madeIndex(t, s, g)
	for _, o := range []api.Op{newOp(node(3, "b", "k=3,x=false")), set(3, "m", words("v")), unset(3, "x"), bindOp(tie("q", 3, 3)), looseOp(tie("q", 1, 4)), gone(3), gone(7), set(1, "k", number(2)), {}} {
		wipeAnswers(t, x)
		testAnswers(t, x, s, g)
		g = testWanted(t, x, s, g, o)
		wipeAnswers(t, x)
		testAnswers(t, x, s, g)
	}
}

// TestFreshOp: P2, an op's record stays as it is, behind its length, too, and may be written into then.
func TestFreshOp(t *testing.T) {
	s := plainSchema()
	for _, kind := range []string{"b", "a", "zz"} {
		x := madeIndex(t, s, plainGraph())
		whole := api.Record{prop("k", number(3)), prop("x", truth(1)), prop("A", api.Value{})}
		kept := slices.Clone(whole)
		o := newOp(api.Node{Id: 3, Kind: kind, Record: whole[:2]})
		want := testWanted(t, x, s, plainGraph(), o)
		if !slices.Equal(whole, kept) {
			t.Errorf("what is handed in is written into: %v", whole)
		}
		want.Nodes = slices.Clone(want.Nodes)
		for i := range want.Nodes {
			want.Nodes[i].Record = slices.Clone(want.Nodes[i].Record)
		}
		fill(whole, prop("wiped", number(9)))
		testAnswers(t, x, s, want)
		testWanted(t, x, s, want, set(3, "m", words("v")))
		if !slices.Equal(whole, api.Record{prop("wiped", number(9)), prop("wiped", number(9)), prop("wiped", number(9))}) {
			t.Errorf("what is handed in is written into by an op behind it: %v", whole)
		}
	}
}

// TestKept: P2, what was answered stays as it is, whatever is done then.
func TestKept(t *testing.T) {
	s, g := plainSchema(), plainGraph()
	x := madeIndex(t, s, g)
	before := x.Graph()
	ids, _ := x.Kind("a")
	out, _ := x.Ends(1, "q", false)
	for _, o := range []api.Op{set(1, "k", number(9)), gone(4), newOp(node(3, "c", "k=4")), looseOp(tie("q", 1, 1)), bindOp(tie("q", 1, 2)), gone(1)} {
		testDone(t, x, s, o)
		if !sameGraph(before, plainGraph()) || !slices.Equal(ids, []int{1, 2, 4}) || !slices.Equal(out, []int{1, 4}) {
			t.Errorf("Do(%v) writes into what was answered: %v, %v, %v", o, before, ids, out)
		}
	}
}

// TestGraphLists: P2, no two lists of one answer share memory, nor those of two answers.
func TestGraphLists(t *testing.T) {
	all := api.Record{prop("k", number(1)), prop("m", words("u"))}
	s := made("kind a k:int! m:text\n")
	x := madeIndex(t, s, nodes(api.Node{Id: 1, Kind: "a", Record: all[:1]}, api.Node{Id: 2, Kind: "a", Record: all}, api.Node{Id: 3, Kind: "a", Record: all[:1]}))
	a, b := x.Graph(), x.Graph()
	for i, n := range a.Nodes {
		fill(n.Record, prop("wiped", number(i)))
	}
	for i, n := range a.Nodes {
		if slices.ContainsFunc(n.Record, func(p api.Prop) bool { return p != prop("wiped", number(i)) }) {
			t.Errorf("two records of one answer share memory: %v", a)
		}
	}
	want := nodes(node(1, "a", "k=1"), node(2, "a", "k=1,m='u'"), node(3, "a", "k=1"))
	if !sameGraph(b, want) || !sameGraph(x.Graph(), want) {
		t.Errorf("two answers share memory: %v", b)
	}
}

// TestSameAgain: P2, what is answered hangs on no order in which a map is gone through.
func TestSameAgain(t *testing.T) {
	s, g := fullIndex()
	first := madeIndex(t, s, g)
	for range 10 {
		x := madeIndex(t, s, g)
		for _, k := range s.Kinds {
			a, _ := first.Kind(k.Name)
			b, _ := x.Kind(k.Name)
			if !slices.Equal(a, b) {
				t.Errorf("Kind(%q): got %v, then %v", k.Name, a, b)
			}
		}
	}
}
