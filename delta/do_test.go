package delta

import (
	"math"
	"slices"
	"strings"
	"testing"

	"kinshape/api"
	"kinshape/graph"
)

// testDo asks Do for what an op makes of a graph, and whether that is a graph.
func testDo(t *testing.T, g api.Graph, o api.Op, want api.Graph) {
	t.Helper()
	got, err := Do(g, o)
	if !sameGraph(got, want) || err != nil {
		t.Errorf("Do(%v, %v): got %v, %v, want %v", g, o, got, err, want)
	}
	if err := graph.Check(got); err != nil {
		t.Errorf("Do(%v, %v): got %v, which is no graph: %v", g, o, got, err)
	}
}

// testWrong asks Do for an error, with which nothing comes.
func testWrong(t *testing.T, g api.Graph, o api.Op, want api.Errno) {
	t.Helper()
	if got, err := Do(g, o); !isEmpty(got) || told(err) != want {
		t.Errorf("Do(%v, %v): got %v, %v, want %v", g, o, got, err, want)
	}
}

// TestWhat: D1, each What that there is does its own, and each other number is told ahead of all else that is wrong with the op.
func TestWhat(t *testing.T) {
	g := with(nodes(node(1, "a", "x=1"), node(3, "b", "-")), tie("p", 1, 3), tie("p", 3, 3))
	all := api.Op{Node: node(1, "c", "y=2"), Prop: prop("x", number(5)), Tie: tie("p", 1, 3)}
	other := api.Op{Node: node(2, "c", "y=2"), Prop: prop("x", number(5)), Tie: tie("p", 3, 1)}
	testDo(t, g, put(1, other), with(nodes(g.Nodes[0], other.Node, g.Nodes[1]), g.Ties...))
	testDo(t, g, put(2, all), with(nodes(g.Nodes[1]), tie("p", 3, 3)))
	testDo(t, g, put(3, all), with(nodes(node(1, "a", "x=5"), g.Nodes[1]), g.Ties...))
	testDo(t, g, put(4, all), with(nodes(node(1, "a", "-"), g.Nodes[1]), g.Ties...))
	testDo(t, g, put(5, other), with(g, tie("p", 1, 3), tie("p", 3, 1), tie("p", 3, 3)))
	testDo(t, g, put(6, all), with(g, tie("p", 3, 3)))
	for _, what := range []int{0, -1, -2, -6, 7, 8, 9, 10, 255, 256, 257, 1 << 32, 1<<32 + 1, math.MaxInt, math.MinInt} {
		for _, g := range []api.Graph{g, {}, fullGraph()} {
			for _, o := range []api.Op{{}, all, other, newOp(node(2, "b", "-")), newOp(api.Node{}), gone(1), gone(9), set(1, "", api.Value{}), bindOp(tie("q", 1, 1)), bindOp(api.Tie{}), looseOp(tie("p", 1, 3))} {
				testWrong(t, g, put(what, o), api.ErrRange)
			}
		}
	}
}

// TestCheckFirst: D1 and D2, what is wrong with the graph is told ahead of the op's fault, by all calls.
func TestCheckFirst(t *testing.T) {
	some := []api.Op{{}, {What: 7}, newOp(node(5, "a", "-")), newOp(api.Node{}), gone(1), gone(7), set(1, "x", number(1)), set(1, "X", number(1)), unset(1, "x"), bindOp(tie("p", 1, 2)), bindOp(tie("", 0, 0)), looseOp(tie("p", 1, 1)), looseOp(tie("", 0, 0))}
	for _, c := range badGraphs() {
		for _, o := range some {
			testWrong(t, c.g, o, c.want)
			for _, l := range [][]api.Op{{o}, {gone(1), o}, slices.Repeat(ops(o), 40)} {
				if got, at, err := All(c.g, l); !isEmpty(got) || at != 0 || told(err) != c.want {
					t.Errorf("All(%v, %v): got %v, %d, %v, want %v", c.g, l, got, at, err, c.want)
				}
				if got, err := Turn(c.g, l); len(got) != 0 || told(err) != c.want {
					t.Errorf("Turn(%v, %v): got %v, %v, want %v", c.g, l, got, err, c.want)
				}
			}
		}
		if got, at, err := All(c.g, nil); !isEmpty(got) || at != 0 || told(err) != c.want {
			t.Errorf("All(%v, none): got %v, %d, %v, want %v", c.g, got, at, err, c.want)
		}
		if got, err := Turn(c.g, nil); len(got) != 0 || told(err) != c.want {
			t.Errorf("Turn(%v, none): got %v, %v, want %v", c.g, got, err, c.want)
		}
	}
}

// TestNew: D1, a node more, at its place; nothing else of the op is asked, and ties stay as they are.
func TestNew(t *testing.T) {
	testDo(t, api.Graph{}, newOp(node(1, "a", "-")), ids(1))
	testDo(t, api.Graph{}, newOp(node(1000, "abcdefgh", "x=1,y='it''s',z=true")), nodes(node(1000, "abcdefgh", "x=1,y='it''s',z=true")))
	testDo(t, api.Graph{}, newOp(node(5, "a", "a=0,b=1,c=2,d=3,e=4,f=5,g=6,h=7")), nodes(node(5, "a", "a=0,b=1,c=2,d=3,e=4,f=5,g=6,h=7")))
	testDo(t, ids(2, 4), newOp(node(1, "a", "-")), ids(1, 2, 4))
	testDo(t, ids(2, 4), newOp(node(3, "a", "-")), ids(2, 3, 4))
	testDo(t, ids(2, 4), newOp(node(5, "a", "-")), ids(2, 4, 5))
	testDo(t, ids(1, 1000), newOp(node(999, "a", "-")), ids(1, 999, 1000))
	// Ties of which it is an end were there already.
	testDo(t, ties(tie("p", 1, 2), tie("p", 2, 1)), newOp(node(2, "a", "-")), with(ids(2), tie("p", 1, 2), tie("p", 2, 1)))
	o := newOp(node(3, "b", "x=1"))
	o.Prop, o.Tie = prop("A", api.Value{Type: 9}), tie("P", -1, 2000)
	testDo(t, with(ids(1), tie("p", 1, 1)), o, with(nodes(node(1, "a", "-"), node(3, "b", "x=1")), tie("p", 1, 1)))
	for at := range 60 {
		whole := someNodes(60)
		testDo(t, nodes(slices.Delete(someNodes(60).Nodes, at, at+1)...), newOp(whole.Nodes[at]), whole)
	}
	for id := 1; id <= 1000; id++ {
		if id != 500 {
			testDo(t, ids(500), newOp(node(id, "a", "-")), ids(min(id, 500), max(id, 500)))
		}
	}
}

// TestNewErrors: D1, the node's own errors ahead of ErrClash, which is ahead of ErrFull.
func TestNewErrors(t *testing.T) {
	graphs := []api.Graph{{}, someNodes(3), someNodes(59), someNodes(60), with(someNodes(60), someTies(120).Ties...)}
	kinds, records := append(noNames(), "a"), append(badRecords(), badRecord{})
	for _, g := range graphs {
		for _, k := range kinds {
			for _, r := range records {
				for _, id := range noIds() {
					testWrong(t, g, newOp(api.Node{Id: id, Kind: k, Record: r.r}), api.ErrRange)
				}
				for _, id := range []int{1, 10, 15, 20, 590, 600, 1000} {
					testNewError(t, g, api.Node{Id: id, Kind: k, Record: r.r}, r.want)
				}
			}
		}
	}
}

// testNewError asks for a node with an id, of which the record's error is known.
func testNewError(t *testing.T, g api.Graph, n api.Node, ofRecord api.Errno) {
	t.Helper()
	switch {
	case n.Kind != "a":
		testWrong(t, g, newOp(n), api.ErrSyntax)
	case ofRecord != api.OK:
		testWrong(t, g, newOp(n), ofRecord)
	case n.Id%10 == 0 && n.Id <= 10*len(g.Nodes):
		testWrong(t, g, newOp(n), api.ErrClash)
	case len(g.Nodes) == 60:
		testWrong(t, g, newOp(n), api.ErrFull)
	default:
		if _, err := Do(g, newOp(n)); err != nil {
			t.Errorf("Do(%v, New of %v): got %v", g, n, err)
		}
	}
}

// TestGone: D1, without a node, and without the ties of which it is From, To, or both.
func TestGone(t *testing.T) {
	g := with(ids(1, 2, 3, 4), tie("p", 1, 2), tie("p", 2, 1), tie("p", 2, 2), tie("p", 2, 9), tie("p", 9, 2), tie("p", 9, 9), tie("q", 1, 3), tie("q", 3, 1), tie("r", 1, 1))
	testDo(t, g, gone(1), with(ids(2, 3, 4), tie("p", 2, 2), tie("p", 2, 9), tie("p", 9, 2), tie("p", 9, 9)))
	testDo(t, g, gone(2), with(ids(1, 3, 4), tie("p", 9, 9), tie("q", 1, 3), tie("q", 3, 1), tie("r", 1, 1)))
	testDo(t, g, gone(3), with(ids(1, 2, 4), tie("p", 1, 2), tie("p", 2, 1), tie("p", 2, 2), tie("p", 2, 9), tie("p", 9, 2), tie("p", 9, 9), tie("r", 1, 1)))
	testDo(t, g, gone(4), with(ids(1, 2, 3), g.Ties...))
	testDo(t, with(ids(1, 2), tie("p", 1, 2)), gone(1), ids(2))
	testDo(t, with(ids(1, 2), tie("p", 1, 2)), gone(2), ids(1))
	testDo(t, with(ids(1, 2), tie("p", 1, 1)), gone(1), ids(2))
	testDo(t, with(ids(1, 2), tie("p", 1, 1)), gone(2), with(ids(1), tie("p", 1, 1)))
	testDo(t, ids(1), gone(1), api.Graph{})
	testDo(t, ids(1000), gone(1000), api.Graph{})
	testDo(t, with(ids(10), someTies(120).Ties...), gone(10), api.Graph{})
	testDo(t, with(ids(2), someTies(120).Ties...), gone(2), ties(someTies(120).Ties[1:]...))
	// 9 is an end, but no node: its ties stay.
	for _, id := range append(noIds(), 5, 9, 1000) {
		testWrong(t, g, gone(id), api.ErrNone)
		testWrong(t, api.Graph{}, gone(id), api.ErrNone)
	}
	// Its Id alone is asked.
	o := gone(4)
	o.Node.Kind, o.Node.Record, o.Prop, o.Tie = "Z", make(api.Record, 20), prop("A", api.Value{Type: 9}), tie("p", 1, 2)
	testDo(t, g, o, with(ids(1, 2, 3), g.Ties...))
	for at := range 60 {
		testDo(t, someNodes(60), gone(10*at+10), nodes(slices.Delete(someNodes(60).Nodes, at, at+1)...))
		testWrong(t, someNodes(60), gone(10*at+5), api.ErrNone)
	}
}

// TestSet: D1, a property that is new, and one that is there, of one node alone.
func TestSet(t *testing.T) {
	g := with(nodes(node(1, "a", "x=1"), node(2, "b", "b=1,d=2"), node(3, "a", "-")), tie("p", 2, 2))
	changed := func(text string) api.Graph {
		return with(nodes(g.Nodes[0], node(2, "b", text), g.Nodes[2]), g.Ties...)
	}
	testDo(t, g, set(2, "a", number(7)), changed("a=7,b=1,d=2"))
	testDo(t, g, set(2, "c", number(7)), changed("b=1,c=7,d=2"))
	testDo(t, g, set(2, "e", number(7)), changed("b=1,d=2,e=7"))
	testDo(t, g, set(2, "b", number(7)), changed("b=7,d=2"))
	testDo(t, g, set(2, "d", number(7)), changed("b=1,d=7"))
	testDo(t, g, set(2, "d", number(2)), g)
	testDo(t, g, set(2, "d", words("2")), changed("b=1,d='2'"))
	testDo(t, g, set(2, "d", api.Value{Type: api.Bool}), changed("b=1,d=false"))
	testDo(t, g, set(3, "abcdefgh", words("")), with(nodes(g.Nodes[0], g.Nodes[1], node(3, "a", "abcdefgh=''")), g.Ties...))
	testDo(t, g, set(1, "x", number(-1000000)), with(nodes(node(1, "a", "x=-1000000"), g.Nodes[1], g.Nodes[2]), g.Ties...))
	o := set(1, "x", number(2))
	o.Node.Kind, o.Node.Record, o.Tie = "Z", make(api.Record, 20), tie("P", 0, 0)
	testDo(t, g, o, with(nodes(node(1, "a", "x=2"), g.Nodes[1], g.Nodes[2]), g.Ties...))
	// At MaxProps one that is there may be another one, and there is none more.
	testDo(t, nodes(node(1, "a", "a=1,b=1,c=1,d=1,e=1,f=1,g=1")), set(1, "h", number(2)), nodes(node(1, "a", "a=1,b=1,c=1,d=1,e=1,f=1,g=1,h=2")))
	for _, name := range strings.Split("abcdefgh", "") {
		text := strings.Replace("a=1,b=1,c=1,d=1,e=1,f=1,g=1,h=1", name+"=1", name+"='2'", 1)
		testDo(t, nodes(node(1, "a", "a=1,b=1,c=1,d=1,e=1,f=1,g=1,h=1")), set(1, name, words("2")), nodes(node(1, "a", text)))
	}
}

// TestSetErrors: D1, ErrNone of the node ahead of its name's, its value's and ErrFull.
func TestSetErrors(t *testing.T) {
	g := nodes(node(1, "a", "-"), node(2, "a", "a=1,b=1,c=1,d=1,e=1,f=1,g=1,h=1"), node(4, "a", "x=1"))
	g.Ties = []api.Tie{tie("p", 3, 3)}
	values := append(badValues(), badValue{number(1), api.OK})
	for _, v := range values {
		for _, name := range append(noNames(), "a", "x", "z") {
			for _, id := range append(noIds(), 3, 5, 1000) {
				testWrong(t, g, set(id, name, v.v), api.ErrNone)
			}
		}
		for _, id := range []int{1, 2, 4} {
			for _, name := range noNames() {
				testWrong(t, g, set(id, name, v.v), api.ErrSyntax)
			}
			for _, name := range []string{"a", "b", "x", "z"} {
				if v.want != api.OK {
					testWrong(t, g, set(id, name, v.v), v.want)
				}
			}
		}
	}
	for _, name := range []string{"aa", "i", "x", "z", "hh"} {
		testWrong(t, g, set(2, name, number(1)), api.ErrFull)
	}
}

// TestUnset: D1, without a property; ErrNone where the node is none, and where the property is none.
func TestUnset(t *testing.T) {
	g := with(nodes(node(1, "a", "x=1"), node(2, "b", "b=1,c='y',d=2"), node(5, "a", "-")), tie("p", 2, 3))
	changed := func(text string) api.Graph {
		return with(nodes(g.Nodes[0], node(2, "b", text), g.Nodes[2]), g.Ties...)
	}
	testDo(t, g, unset(2, "b"), changed("c='y',d=2"))
	testDo(t, g, unset(2, "c"), changed("b=1,d=2"))
	testDo(t, g, unset(2, "d"), changed("b=1,c='y'"))
	testDo(t, g, unset(1, "x"), with(nodes(node(1, "a", "-"), g.Nodes[1], g.Nodes[2]), g.Ties...))
	// Its Id and the name alone are asked.
	o := unset(1, "x")
	o.Node.Kind, o.Node.Record, o.Prop.Value, o.Tie = "Z", make(api.Record, 20), api.Value{Type: 9}, tie("P", 0, 0)
	testDo(t, g, o, with(nodes(node(1, "a", "-"), g.Nodes[1], g.Nodes[2]), g.Ties...))
	for _, name := range append(noNames(), "a", "b", "bb", "e", "x", "z") {
		for _, id := range append(noIds(), 3, 4, 5, 6, 1000) {
			testWrong(t, g, unset(id, name), api.ErrNone)
		}
		if name != "x" {
			testWrong(t, g, unset(1, name), api.ErrNone)
		}
		if name != "b" {
			testWrong(t, g, unset(2, name), api.ErrNone)
		}
	}
}

// TestBind: D1, a tie more, at its place, whether its ends are nodes or not.
func TestBind(t *testing.T) {
	testDo(t, api.Graph{}, bindOp(tie("p", 1, 1000)), ties(tie("p", 1, 1000)))
	testDo(t, api.Graph{}, bindOp(tie("abcdefgh", 1000, 1)), ties(tie("abcdefgh", 1000, 1)))
	testDo(t, ids(1, 2), bindOp(tie("p", 2, 1)), with(ids(1, 2), tie("p", 2, 1)))
	testDo(t, ids(1, 2), bindOp(tie("p", 2, 3)), with(ids(1, 2), tie("p", 2, 3)))
	testDo(t, ids(1, 2), bindOp(tie("p", 3, 2)), with(ids(1, 2), tie("p", 3, 2)))
	testDo(t, ids(1, 2), bindOp(tie("p", 3, 3)), with(ids(1, 2), tie("p", 3, 3)))
	o := bindOp(tie("p", 1, 1))
	o.Node, o.Prop = api.Node{Id: -1, Kind: "Z", Record: make(api.Record, 20)}, prop("A", api.Value{Type: 9})
	testDo(t, ids(1), o, with(ids(1), tie("p", 1, 1)))
	// Each of some ties goes between those that are less and those that are more.
	var rising []api.Tie
	for _, b := range []string{"a", "aa", "b"} {
		for _, from := range []int{1, 2, 10, 1000} {
			for _, to := range []int{1, 2, 10, 1000} {
				rising = append(rising, tie(b, from, to))
			}
		}
	}
	for i, one := range rising {
		testDo(t, ties(slices.Delete(slices.Clone(rising), i, i+1)...), bindOp(one), ties(rising...))
		testWrong(t, ties(rising...), bindOp(one), api.ErrClash)
	}
	for at := range 120 {
		testDo(t, ties(slices.Delete(someTies(120).Ties, at, at+1)...), bindOp(tie("p", 10, 2*at+2)), someTies(120))
	}
}

// TestBindErrors: D1, the tie's own errors ahead of ErrClash, which is ahead of ErrFull.
func TestBindErrors(t *testing.T) {
	for _, g := range []api.Graph{{}, with(ids(10), someTies(3).Ties...), someTies(119), with(someNodes(60), someTies(120).Ties...)} {
		for _, b := range noNames() {
			for _, end := range append(noIds(), 1, 10, 1000) {
				testWrong(t, g, bindOp(tie(b, end, 2)), api.ErrSyntax)
				testWrong(t, g, bindOp(tie(b, 2, end)), api.ErrSyntax)
			}
		}
		for _, b := range []string{"a", "p", "z"} {
			for _, no := range noIds() {
				for _, end := range append(noIds(), 1, 2, 10, 1000) {
					testWrong(t, g, bindOp(tie(b, no, end)), api.ErrRange)
					testWrong(t, g, bindOp(tie(b, end, no)), api.ErrRange)
				}
			}
		}
		for _, one := range g.Ties {
			testWrong(t, g, bindOp(one), api.ErrClash)
		}
		for _, one := range []api.Tie{tie("o", 10, 2), tie("p", 2, 10), tie("p", 10, 1), tie("p", 10, 3), tie("p", 10, 1000), tie("pp", 10, 2)} {
			if len(g.Ties) == 120 {
				testWrong(t, g, bindOp(one), api.ErrFull)
			} else if _, err := Do(g, bindOp(one)); err != nil {
				t.Errorf("Do(%v, Bind of %v): got %v", g, one, err)
			}
		}
	}
}

// TestLoose: D1, without that tie, and no other one; ErrNone of each that is not there, a wrong one, too.
func TestLoose(t *testing.T) {
	g := with(ids(1, 2), tie("p", 1, 2), tie("p", 2, 1), tie("p", 2, 2), tie("pp", 1, 2), tie("q", 7, 8))
	for i := range g.Ties {
		testDo(t, g, looseOp(g.Ties[i]), with(ids(1, 2), slices.Delete(slices.Clone(g.Ties), i, i+1)...))
	}
	testDo(t, ties(tie("p", 1, 1)), looseOp(tie("p", 1, 1)), api.Graph{})
	o := looseOp(tie("p", 2, 2))
	o.Node, o.Prop = api.Node{Id: -1, Kind: "Z", Record: make(api.Record, 20)}, prop("A", api.Value{Type: 9})
	testDo(t, g, o, with(ids(1, 2), tie("p", 1, 2), tie("p", 2, 1), tie("pp", 1, 2), tie("q", 7, 8)))
	for _, none := range []api.Tie{{}, tie("p", 1, 1), tie("o", 1, 2), tie("pp", 2, 1), tie("q", 8, 7), tie("q", 1, 2), tie("P", 1, 2), tie("", 1, 2), tie("p", 0, 2), tie("p", 1, 1001), tie("p", -1, math.MinInt), tie(strings.Repeat("p", 1000), 1, 2), tie("pp", 1, 3)} {
		testWrong(t, g, looseOp(none), api.ErrNone)
		testWrong(t, api.Graph{}, looseOp(none), api.ErrNone)
		testWrong(t, ids(1, 2), looseOp(none), api.ErrNone)
	}
	for at := range 120 {
		testDo(t, someTies(120), looseOp(tie("p", 10, 2*at+2)), ties(slices.Delete(someTies(120).Ties, at, at+1)...))
		testWrong(t, someTies(120), looseOp(tie("p", 10, 2*at+1)), api.ErrNone)
	}
}

// smallGraphs has all graphs of two nodes or fewer, with some records, and some ties.
func smallGraphs() (l []api.Graph) {
	forms := []string{"a -", "b -", "a x=1", "a x=2,y=1", "b y=1"}
	var first, second []api.Graph
	add := func(l []api.Graph, id int) []api.Graph {
		all := slices.Clone(l)
		for _, g := range l {
			for _, f := range forms {
				kind, text, _ := strings.Cut(f, " ")
				all = append(all, api.Graph{Nodes: append(slices.Clone(g.Nodes), node(id, kind, text))})
			}
		}
		return all
	}
	first = add([]api.Graph{{}}, 1)
	second = add(first, 2)
	some := []api.Tie{tie("p", 1, 2), tie("p", 2, 2), tie("q", 3, 1)}
	for _, g := range second {
		for bits := range 1 << len(some) {
			h := api.Graph{Nodes: g.Nodes}
			for i, t := range some {
				if bits>>i&1 == 1 {
					h.Ties = append(h.Ties, t)
				}
			}
			l = append(l, h)
		}
	}
	return l
}

// smallOps has ops that some small graphs take, and others do not.
func smallOps() (l []api.Op) {
	for id := range 4 {
		l = append(l, gone(id), newOp(node(id, "a", "-")), newOp(node(id, "b", "x=1")), newOp(node(id, "", "-")))
		for _, name := range []string{"w", "x", "y", "z", ""} {
			l = append(l, unset(id, name), set(id, name, number(1)), set(id, name, number(2)), set(id, name, api.Value{}))
		}
		for to := range 4 {
			for _, bond := range []string{"o", "p", "q", ""} {
				l = append(l, bindOp(tie(bond, id, to)), looseOp(tie(bond, id, to)))
			}
		}
	}
	return append(l, api.Op{}, api.Op{What: 7})
}

// TestDoPlain: D1, all small graphs with all small ops, held against a plain telling.
func TestDoPlain(t *testing.T) {
	for _, g := range smallGraphs() {
		for _, o := range smallOps() {
			want, bad := plainDo(g, o)
			if got, err := Do(g, o); !sameGraph(got, want) || told(err) != bad {
				t.Errorf("Do(%v, %v): got %v, %v, want %v, %v", g, o, got, err, want, bad)
			}
		}
	}
}
