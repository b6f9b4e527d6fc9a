package graph

import (
	"cmp"
	"math"
	"reflect"
	"slices"
	"strings"
	"testing"

	"kinshape/api"
	"kinshape/plain"
	"kinshape/record"
)

func told(err error) api.Errno { return plain.Told(err) }

func number(n int) api.Value   { return api.Value{Type: api.Int, N: n} }
func words(s string) api.Value { return api.Value{Type: api.Text, S: s} }

func node(id int, kind string, l ...api.Prop) api.Node {
	return api.Node{Id: id, Kind: kind, Record: l}
}

func prop(name string, v api.Value) api.Prop { return api.Prop{Name: name, Value: v} }

func tie(bond string, from, to int) api.Tie { return api.Tie{Bond: bond, From: from, To: to} }

func nodes(l ...api.Node) api.Graph { return api.Graph{Nodes: l} }
func ties(l ...api.Tie) api.Graph   { return api.Graph{Ties: l} }

// both makes a graph of the nodes of one and the ties of another one.
func both(a, b api.Graph) api.Graph { return api.Graph{Nodes: a.Nodes, Ties: b.Ties} }

// ids makes a graph of nodes of the kind a.
func ids(l ...int) (g api.Graph) {
	for _, id := range l {
		g.Nodes = append(g.Nodes, node(id, "a"))
	}
	return g
}

// someNodes makes a graph of n nodes, 1, 2, 3 and so on.
func someNodes(n int) (g api.Graph) {
	for i := range n {
		g.Nodes = append(g.Nodes, node(i+1, "a"))
	}
	return g
}

// someTies makes a graph of n ties out of 1, to 1, 2, 3 and so on.
func someTies(n int) (g api.Graph) {
	for i := range n {
		g.Ties = append(g.Ties, tie("p", 1, i+1))
	}
	return g
}

// noNames has words that are no names.
func noNames() []string {
	return []string{"", "A", "a1", "aB", "ä", "a\x00", "\xff", "a!", "a b", "a\n", "abcdefghi", strings.Repeat("a", 1000)}
}

// noIds has numbers that are no ids.
func noIds() []int {
	return []int{0, -1, -2, -1000, 1001, 1002, math.MaxInt, math.MinInt, 1 << 32, 1<<32 + 1, 1<<62 + 1}
}

// goodGraphs has graphs that are right, no two of them the same.
func goodGraphs() []api.Graph {
	mixed := both(nodes(node(1, "a", prop("x", number(1))), node(2, "b"), node(7, "abcdefgh", prop("x", words("")), prop("y", words("it's")))),
		ties(tie("p", 1, 2), tie("p", 1, 7), tie("p", 2, 1), tie("p", 7, 7), tie("pa", 1, 1), tie("q", 1, 1)))
	return []api.Graph{
		{},
		ids(1), ids(2), ids(999), ids(1000), ids(1, 2), ids(1, 1000), ids(999, 1000), ids(1, 3), ids(2, 3),
		nodes(node(1, "b")),
		nodes(node(1, "abcdefgh")),
		nodes(node(1, "a", prop("x", number(0)))),
		nodes(node(1, "a", prop("x", number(1)))),
		nodes(node(1, "a", prop("y", number(1)))),
		nodes(node(1, "a", prop("x", api.Value{Type: api.Bool, N: 1}))),
		nodes(node(1, "a", prop("x", words("")))),
		nodes(node(1, "a", prop("x", words("x")))),
		nodes(node(1, "a", prop("x", number(1)), prop("y", number(1)))),
		nodes(node(1, "a", prop("a", number(1)), prop("b", number(1)), prop("c", number(1)), prop("d", number(1)), prop("e", number(1)), prop("f", number(1)), prop("g", number(1)), prop("h", number(1)))),
		nodes(node(1, "b"), node(2, "a")),
		nodes(node(1, "a"), node(2, "a", prop("x", number(1)))),
		someNodes(59),
		someNodes(60),
		// Ends may be no nodes.
		ties(tie("p", 1, 1)),
		ties(tie("p", 1, 1000)),
		ties(tie("p", 1000, 1)),
		ties(tie("p", 1000, 1000)),
		ties(tie("abcdefgh", 1, 1)),
		both(ids(3), ties(tie("p", 1, 2))),
		both(ids(3), ties(tie("p", 3, 2))),
		both(ids(3), ties(tie("p", 1, 3))),
		both(ids(3), ties(tie("p", 3, 3))),
		both(ids(1), ties(tie("p", 1, 1))),
		// Ties rise by bond first, then by from, then by to.
		ties(tie("p", 1, 1), tie("p", 1, 2)),
		ties(tie("p", 1, 2), tie("p", 2, 1)),
		ties(tie("p", 2, 2), tie("q", 1, 1)),
		ties(tie("p", 2, 1), tie("pa", 1, 1)),
		ties(tie("abc", 9, 9), tie("b", 1, 1)),
		ties(tie("p", 2, 999), tie("p", 10, 1), tie("p", 10, 2), tie("p", 10, 10)),
		someTies(119),
		someTies(120),
		both(someNodes(60), someTies(120)),
		mixed,
	}
}

type badGraph struct {
	g    api.Graph
	want api.Errno
}

// badFull has graphs of too many, whatever else is wrong.
func badFull() []badGraph {
	return []badGraph{
		{someNodes(61), api.ErrFull},
		{someNodes(62), api.ErrFull},
		{someNodes(1000), api.ErrFull},
		{someTies(121), api.ErrFull},
		{someTies(122), api.ErrFull},
		{someTies(1000), api.ErrFull},
		{nodes(make([]api.Node, 61)...), api.ErrFull},
		{ties(make([]api.Tie, 121)...), api.ErrFull},
		{both(someNodes(61), someTies(121)), api.ErrFull},
		{both(someNodes(60), someTies(121)), api.ErrFull},
		{both(someNodes(61), someTies(120)), api.ErrFull},
		{both(someNodes(61), ties(tie("P", 0, 0))), api.ErrFull},
		// Too many ties are told ahead of a node's fault.
		{both(ids(0), someTies(121)), api.ErrFull},
		{both(ids(2, 1), someTies(121)), api.ErrFull},
		{both(nodes(node(1, "A")), someTies(121)), api.ErrFull},
		{both(nodes(node(1, "a", prop("x", number(1000001)))), someTies(121)), api.ErrFull},
	}
}

type badRecord struct {
	r    api.Record
	want api.Errno
}

// badRecords has records that are none, and chapter 2's errors of them.
func badRecords() []badRecord {
	return []badRecord{
		{make(api.Record, 9), api.ErrFull},
		{api.Record{prop("X", number(1))}, api.ErrSyntax},
		{api.Record{prop("x", api.Value{})}, api.ErrType},
		{api.Record{prop("x", number(1000001))}, api.ErrRange},
		{api.Record{prop("x", words(strings.Repeat("z", 21)))}, api.ErrFull},
		{api.Record{prop("x", api.Value{Type: api.Int, S: "1"})}, api.ErrSyntax},
		{api.Record{prop("x", number(1)), prop("x", number(1))}, api.ErrClash},
		{api.Record{prop("x", number(1)), prop("w", number(1))}, api.ErrClash},
	}
}

type badNode struct {
	n    api.Node
	want api.Errno
}

// badNodes has nodes that are none, each behind 5 as the one ahead, and what is told of them.
func badNodes() (l []badNode) {
	add := func(n api.Node, want api.Errno) { l = append(l, badNode{n, want}) }
	kinds, records := append(noNames(), "a"), append(badRecords(), badRecord{})
	for _, k := range kinds {
		for _, r := range records {
			// ErrRange ahead of all, ErrClash ahead of its kind, which is ahead of its record.
			for _, id := range noIds() {
				add(node(id, k, r.r...), api.ErrRange)
			}
			for _, id := range []int{1, 4, 5} {
				add(node(id, k, r.r...), api.ErrClash)
			}
			for _, id := range []int{6, 7, 1000} {
				if k != "a" {
					add(node(id, k, r.r...), api.ErrSyntax)
				} else if r.want != api.OK {
					add(node(id, k, r.r...), r.want)
				}
			}
		}
	}
	return l
}

type badTie struct {
	t    api.Tie
	want api.Errno
}

// badTies has ties that are none, each behind p,5,5 as the one ahead, and what is told of them.
func badTies() (l []badTie) {
	add := func(t api.Tie, want api.Errno) { l = append(l, badTie{t, want}) }
	ends := append(noIds(), 1, 4, 5, 6, 1000)
	for _, b := range noNames() {
		for _, from := range ends {
			add(tie(b, from, 6), api.ErrSyntax)
			add(tie(b, 6, from), api.ErrSyntax)
		}
	}
	for _, b := range []string{"o", "p", "pp", "q"} {
		for _, no := range noIds() {
			for _, end := range ends {
				add(tie(b, no, end), api.ErrRange)
				add(tie(b, end, no), api.ErrRange)
			}
		}
	}
	for _, t := range []api.Tie{tie("p", 5, 5), tie("p", 5, 4), tie("p", 5, 1), tie("p", 4, 5), tie("p", 4, 6), tie("p", 1, 1000), tie("o", 5, 5), tie("o", 6, 6), tie("o", 5, 1000), tie("o", 1000, 1000), tie("opqrstuv", 1000, 1000), tie("a", 6, 1)} {
		add(t, api.ErrClash)
	}
	return l
}

// badGraphs has graphs that are none, and what is told of each.
func badGraphs() []badGraph {
	bad := badFull()
	for _, c := range badNodes() {
		bad = append(bad, badGraph{nodes(node(5, "a"), c.n), c.want})
	}
	for _, c := range badTies() {
		bad = append(bad, badGraph{ties(tie("p", 5, 5), c.t), c.want})
	}
	return append(bad,
		badGraph{ids(0), api.ErrRange},
		badGraph{ids(1001), api.ErrRange},
		badGraph{ids(1, 1), api.ErrClash},
		badGraph{ids(1000, 1000), api.ErrClash},
		badGraph{ids(1, 2, 2), api.ErrClash},
		badGraph{ids(1, 3, 2), api.ErrClash},
		badGraph{ids(1, 2, 1), api.ErrClash},
		badGraph{ties(tie("p", 0, 1)), api.ErrRange},
		badGraph{ties(tie("p", 1, 0)), api.ErrRange},
		badGraph{ties(tie("p", 1001, 1)), api.ErrRange},
		badGraph{ties(tie("p", 1, 1001)), api.ErrRange},
		badGraph{ties(tie("p", 1, 1), tie("p", 1, 2), tie("p", 1, 2)), api.ErrClash},
		badGraph{ties(tie("p", 1, 1), tie("q", 1, 1), tie("p", 1, 2)), api.ErrClash},
		badGraph{ties(tie("p", 1, 1), tie("p", 2, 1), tie("p", 1, 2)), api.ErrClash},
	)
}

// TestCheck: G1, each error, and which one is told of several.
func TestCheck(t *testing.T) {
	for _, g := range append(goodGraphs(), api.Graph{Nodes: []api.Node{}, Ties: []api.Tie{}}, nodes(api.Node{Id: 1, Kind: "a", Record: api.Record{}})) {
		if err := Check(g); err != nil {
			t.Errorf("Check(%v): got %v", g, err)
		}
	}
	for _, c := range badGraphs() {
		if err := Check(c.g); told(err) != c.want {
			t.Errorf("Check(%v): got %v, want %v", c.g, err, c.want)
		}
	}
}

// TestCheckPlaces: G1, of several nodes, and ties, the first that has a fault, wherever it stands; nodes ahead of ties.
func TestCheckPlaces(t *testing.T) {
	faultyNodes := []struct {
		make func(id int) api.Node
		want api.Errno
	}{
		{func(id int) api.Node { return node(1000+id, "a") }, api.ErrRange},
		{func(id int) api.Node { return node(id, "A") }, api.ErrSyntax},
		{func(id int) api.Node { return node(id, "a", prop("x", api.Value{})) }, api.ErrType},
		{func(id int) api.Node { return node(id, "a", make(api.Record, 9)...) }, api.ErrFull},
	}
	faultyTies := []struct {
		tie  api.Tie
		want api.Errno
	}{{tie("p", 0, 1), api.ErrRange}, {tie("P", 1, 1), api.ErrSyntax}}
	for at := range 60 {
		for _, first := range faultyNodes {
			for _, second := range faultyNodes {
				g := both(someNodes(60), ties(tie("P", 0, 0)))
				g.Nodes[59] = second.make(60)
				g.Nodes[at] = first.make(at + 1)
				if err := Check(g); told(err) != first.want {
					t.Errorf("node %d of %v: got %v, want %v", at, g, err, first.want)
				}
			}
		}
	}
	for at := range 120 {
		for _, first := range faultyTies {
			for _, second := range faultyTies {
				g := both(someNodes(60), someTies(120))
				g.Ties[119], g.Ties[at] = second.tie, first.tie
				if err := Check(g); told(err) != first.want {
					t.Errorf("tie %d of %v: got %v, want %v", at, g, err, first.want)
				}
			}
		}
	}
}

// TestCheckStanding: G1, ids and ties that stand still, or fall, at each place.
func TestCheckStanding(t *testing.T) {
	for at := 1; at < 60; at++ {
		for back := range at {
			g := someNodes(60)
			g.Nodes[at].Id = back + 1
			if err := Check(g); told(err) != api.ErrClash {
				t.Errorf("node %d has the id %d: got %v", at, back+1, err)
			}
		}
	}
	for at := 1; at < 120; at++ {
		for back := range at {
			g := someTies(120)
			g.Ties[at] = g.Ties[back]
			if err := Check(g); told(err) != api.ErrClash {
				t.Errorf("tie %d is as tie %d: got %v", at, back, err)
			}
		}
	}
}

// TestCheckIds: G1, all numbers around the bounds, as an id, as a from and as a to.
func TestCheckIds(t *testing.T) {
	for n := -3; n <= 1003; n++ {
		want := api.OK
		if n < 1 || n > 1000 {
			want = api.ErrRange
		}
		for _, g := range []api.Graph{ids(n), ties(tie("p", n, 1)), ties(tie("p", 1, n)), ties(tie("p", n, n)), ties(tie("p", n, 1000)), ties(tie("p", 1000, n))} {
			if err := Check(g); told(err) != want {
				t.Errorf("Check(%v): got %v, want %v", g, err, want)
			}
		}
	}
}

// TestCheckRises: G1, of all pairs of some ties just those are right of which the first is less.
func TestCheckRises(t *testing.T) {
	var rising []api.Tie
	for _, b := range []string{"a", "aa", "ab", "b", "ba", "z"} {
		for _, from := range []int{1, 2, 10, 1000} {
			for _, to := range []int{1, 2, 10, 1000} {
				rising = append(rising, tie(b, from, to))
			}
		}
	}
	for i, a := range rising {
		for j, b := range rising {
			want := api.OK
			if i >= j {
				want = api.ErrClash
			}
			if err := Check(ties(a, b)); told(err) != want {
				t.Errorf("%v, then %v: got %v, want %v", a, b, err, want)
			}
		}
	}
}

// TestCompareTies: G1, by bond, then from, then to, whether they are right or not.
func TestCompareTies(t *testing.T) {
	rising := []api.Tie{
		tie("", 1, 1), tie("A", 1, 1), tie("a", math.MinInt, 1), tie("a", 0, 0), tie("a", 0, 1000), tie("a", 1, math.MinInt), tie("a", 1, 1), tie("a", 1, 2), tie("a", 1, 10),
		tie("a", 2, 1), tie("a", 10, 1), tie("a", math.MaxInt, math.MaxInt), tie("aa", 1, 1), tie("b", 1, 1), tie("\xff", 1, 1),
	}
	for i, a := range rising {
		for j, b := range rising {
			if got := CompareTies(a, b); got != cmp.Compare(i, j) {
				t.Errorf("CompareTies(%v, %v): got %d", a, b, got)
			}
		}
	}
}

// TestCheckFirst: G1, each call tells what is wrong with the graph ahead of all else, and then answers nothing.
func TestCheckFirst(t *testing.T) {
	for _, c := range badGraphs() {
		for _, id := range []int{0, 1, 5, 999} {
			if n, err := Node(c.g, id); !reflect.DeepEqual(n, api.Node{}) || told(err) != c.want {
				t.Errorf("Node(%v, %d): got %v, %v, want %v", c.g, id, n, err, c.want)
			}
			if l, err := Out(c.g, id, "p"); len(l) != 0 || told(err) != c.want {
				t.Errorf("Out(%v, %d): got %v, %v, want %v", c.g, id, l, err, c.want)
			}
			if l, err := In(c.g, id, "p"); len(l) != 0 || told(err) != c.want {
				t.Errorf("In(%v, %d): got %v, %v, want %v", c.g, id, l, err, c.want)
			}
		}
		if is, err := Same(c.g, c.g); is || told(err) != c.want {
			t.Errorf("Same(%v, itself): got %v, %v, want %v", c.g, is, err, c.want)
		}
		if is, err := Same(c.g, ids(1)); is || told(err) != c.want {
			t.Errorf("Same(%v, another): got %v, %v, want %v", c.g, is, err, c.want)
		}
		if is, err := Same(ids(1), c.g); is || told(err) != c.want {
			t.Errorf("Same(another, %v): got %v, %v, want %v", c.g, is, err, c.want)
		}
		if n, err := Next(c.g); n != 0 || told(err) != c.want {
			t.Errorf("Next(%v): got %v, %v, want %v", c.g, n, err, c.want)
		}
	}
}

// TestSameOrder: G1, a's fault is told ahead of b's.
func TestSameOrder(t *testing.T) {
	bad := []badGraph{
		{someNodes(61), api.ErrFull},
		{ids(0), api.ErrRange},
		{ids(1, 1), api.ErrClash},
		{nodes(node(1, "A")), api.ErrSyntax},
		{nodes(node(1, "a", prop("x", api.Value{}))), api.ErrType},
		{ties(tie("", 1, 1)), api.ErrSyntax},
		{ties(tie("p", 1, 0)), api.ErrRange},
		{ties(tie("p", 1, 1), tie("p", 1, 1)), api.ErrClash},
	}
	for _, a := range bad {
		for _, b := range bad {
			if is, err := Same(a.g, b.g); is || told(err) != a.want {
				t.Errorf("Same(%v, %v): got %v, %v, want %v", a.g, b.g, is, err, a.want)
			}
		}
	}
}

// TestNode: G1, each node by its id, and ErrNone of each other one.
func TestNode(t *testing.T) {
	for _, g := range goodGraphs() {
		byId := map[int]api.Node{}
		for _, n := range g.Nodes {
			byId[n.Id] = n
		}
		for _, id := range append(noIds(), 1, 2, 3, 4, 6, 7, 8, 58, 59, 60, 61, 998, 999, 1000) {
			want, there := byId[id]
			got, err := Node(g, id)
			if there && (err != nil || got.Id != id || got.Kind != want.Kind || !slices.Equal(got.Record, want.Record)) {
				t.Errorf("Node(%v, %d): got %v, %v, want %v", g, id, got, err, want)
			}
			if !there && (told(err) != api.ErrNone || !reflect.DeepEqual(got, api.Node{})) {
				t.Errorf("Node(%v, %d): got %v, %v, want ErrNone", g, id, got, err)
			}
		}
	}
}

// TestEnds: G1, Out and In of ties that go to nodes, or to none.
func TestEnds(t *testing.T) {
	g := both(ids(1, 2, 5, 1000), ties(tie("p", 1, 1), tie("p", 1, 2), tie("p", 1, 10), tie("p", 1, 1000), tie("p", 2, 1), tie("p", 3, 1), tie("p", 1000, 1), tie("pp", 1, 5), tie("q", 2, 3), tie("q", 3, 2)))
	cases := []struct {
		id      int
		bond    string
		out, in []int
	}{
		{1, "p", []int{1, 2, 10, 1000}, []int{1, 2, 3, 1000}},
		{2, "p", []int{1}, []int{1}},
		{5, "p", nil, nil},
		{1000, "p", []int{1}, []int{1}},
		{1, "pp", []int{5}, nil},
		{5, "pp", nil, []int{1}},
		{1, "q", nil, nil},
		{2, "q", []int{3}, []int{3}},
		// A bond that no tie has has no ends; nothing is asked of its name.
		{1, "o", nil, nil},
		{1, "", nil, nil},
		{1, "P", nil, nil},
		{1, "p ", nil, nil},
		{1, "abcdefghi", nil, nil},
		{1, strings.Repeat("p", 1000), nil, nil},
	}
	for _, c := range cases {
		if got, err := Out(g, c.id, c.bond); !slices.Equal(got, c.out) || err != nil {
			t.Errorf("Out %d %q: got %v, %v, want %v", c.id, c.bond, got, err, c.out)
		}
		if got, err := In(g, c.id, c.bond); !slices.Equal(got, c.in) || err != nil {
			t.Errorf("In %d %q: got %v, %v, want %v", c.id, c.bond, got, err, c.in)
		}
	}
	// 3 and 10 are ends of ties, but no nodes.
	for _, id := range append(noIds(), 3, 4, 6, 10, 999) {
		for _, bond := range []string{"p", "q", "zz", ""} {
			if got, err := Out(g, id, bond); len(got) != 0 || told(err) != api.ErrNone {
				t.Errorf("Out %d %q: got %v, %v, want ErrNone", id, bond, got, err)
			}
			if got, err := In(g, id, bond); len(got) != 0 || told(err) != api.ErrNone {
				t.Errorf("In %d %q: got %v, %v, want ErrNone", id, bond, got, err)
			}
		}
	}
}

// TestAllEnds: G1, Out and In of all sets of ties of two bonds between three ids, of which one is no node.
func TestAllEnds(t *testing.T) {
	var all []api.Tie
	for _, b := range []string{"p", "q"} {
		for from := 1; from <= 3; from++ {
			for to := 1; to <= 3; to++ {
				if from != 3 || to != 3 {
					all = append(all, tie(b, from, to))
				}
			}
		}
	}
	for bits := range 1 << len(all) {
		g := ids(1, 2)
		for i, t := range all {
			if bits>>i&1 == 1 {
				g.Ties = append(g.Ties, t)
			}
		}
		for _, id := range []int{1, 2} {
			checkEnds(t, g, id, "p")
			checkEnds(t, g, id, "q")
		}
	}
}

// checkEnds asks of each end whether the tie is there.
func checkEnds(t *testing.T, g api.Graph, id int, bond string) {
	t.Helper()
	var out, in []int
	for end := 1; end <= 3; end++ {
		if slices.Contains(g.Ties, tie(bond, id, end)) {
			out = append(out, end)
		}
		if slices.Contains(g.Ties, tie(bond, end, id)) {
			in = append(in, end)
		}
	}
	if got, err := Out(g, id, bond); !slices.Equal(got, out) || err != nil {
		t.Errorf("Out(%v, %d, %q): got %v, %v, want %v", g, id, bond, got, err, out)
	}
	if got, err := In(g, id, bond); !slices.Equal(got, in) || err != nil {
		t.Errorf("In(%v, %d, %q): got %v, %v, want %v", g, id, bond, got, err, in)
	}
}

// TestFullEnds: G1, a node of which all ties that may be go out, or come in.
func TestFullEnds(t *testing.T) {
	out, in, want := ids(500), ids(500), []int{}
	for i := range 120 {
		end := 1 + i*8
		out.Ties, in.Ties = append(out.Ties, tie("p", 500, end)), append(in.Ties, tie("p", end, 500))
		want = append(want, end)
	}
	if got, err := Out(out, 500, "p"); !slices.Equal(got, want) || err != nil {
		t.Errorf("Out: got %v, %v, want %v", got, err, want)
	}
	if got, err := In(in, 500, "p"); !slices.Equal(got, want) || err != nil {
		t.Errorf("In: got %v, %v, want %v", got, err, want)
	}
}

// TestSame: G1, of all pairs of graphs, each is the same as itself alone.
func TestSame(t *testing.T) {
	for i, a := range goodGraphs() {
		for j, b := range goodGraphs() {
			if is, err := Same(a, b); is != (i == j) || err != nil {
				t.Errorf("Same(%v, %v): got %v, %v", a, b, is, err)
			}
		}
	}
	// P4: an empty list and nil are the same.
	empty, none := api.Node{Id: 1, Kind: "a", Record: api.Record{}}, api.Node{Id: 1, Kind: "a"}
	pairs := [][2]api.Graph{
		{{}, {Nodes: []api.Node{}, Ties: []api.Tie{}}},
		{nodes(empty), nodes(none)},
		{{Nodes: []api.Node{none}, Ties: []api.Tie{}}, nodes(empty)},
	}
	for _, p := range pairs {
		for _, p := range [][2]api.Graph{p, {p[1], p[0]}} {
			if is, err := Same(p[0], p[1]); !is || err != nil {
				t.Errorf("Same(%#v, %#v): got %v, %v", p[0], p[1], is, err)
			}
		}
	}
}

// TestNext: G1, behind the greatest id, not into a gap; ends of ties are no ids that a node has.
func TestNext(t *testing.T) {
	cases := []struct {
		g    api.Graph
		want int
	}{
		{api.Graph{}, 1},
		{ids(1), 2},
		{ids(2), 3},
		{ids(1, 3), 4},
		{ids(2, 9, 400), 401},
		{ids(998), 999},
		{ids(999), 1000},
		{ids(1, 999), 1000},
		{someNodes(59), 60},
		{someNodes(60), 61},
		{ties(tie("p", 7, 8)), 1},
		{ties(tie("p", 1000, 1000)), 1},
		{both(ids(1), ties(tie("p", 1, 2), tie("p", 1000, 1))), 2},
	}
	for _, c := range cases {
		if got, err := Next(c.g); got != c.want || err != nil {
			t.Errorf("Next(%v): got %d, %v, want %d", c.g, got, err, c.want)
		}
	}
	for _, g := range []api.Graph{ids(1000), ids(1, 1000), ids(998, 999, 1000), both(ids(1000), ties(tie("p", 1, 1)))} {
		if got, err := Next(g); got != 0 || told(err) != api.ErrFull {
			t.Errorf("Next(%v): got %d, %v, want ErrFull", g, got, err)
		}
	}
	for id := 1; id < 1000; id++ {
		if got, err := Next(ids(id)); got != id+1 || err != nil {
			t.Errorf("Next of %d: got %d, %v", id, got, err)
		}
	}
}

// full makes a graph of lists with something behind their length, wrong where it would be read.
func full() (whole, cut api.Graph) {
	whole = both(nodes(node(1, "a", prop("x", number(1)), prop("y", words("u")), prop("A", api.Value{})), node(2, "b", prop("B", number(1))), node(1, "A")),
		ties(tie("p", 1, 1), tie("p", 1, 2), tie("p", 2, 1), tie("A", 0, 0)))
	cut = both(nodes(slices.Clone(whole.Nodes)[:2]...), ties(whole.Ties[:3]...))
	cut.Nodes[0].Record, cut.Nodes[1].Record = whole.Nodes[0].Record[:2], whole.Nodes[1].Record[:0]
	return whole, cut
}

// fill writes into all of a list's memory.
func fill[T any](l []T, with T) {
	for i := range l[:cap(l)] {
		l[:cap(l)][i] = with
	}
}

// TestFresh: P2 and P4, what is handed in stays as it is, behind its length, too; no answer is kept, or shares memory.
func TestFresh(t *testing.T) {
	whole, g := full()
	for range 2 {
		if err := Check(g); err != nil {
			t.Errorf("Check(%v): got %v", g, err)
		}
		first, err := Node(g, 1)
		if !slices.Equal(first.Record, api.Record{prop("x", number(1)), prop("y", words("u"))}) || err != nil {
			t.Errorf("Node 1: got %v, %v", first, err)
		}
		second, err := Node(g, 2)
		if second.Kind != "b" || len(second.Record) != 0 || err != nil {
			t.Errorf("Node 2: got %v, %v", second, err)
		}
		out, err := Out(g, 1, "p")
		if !slices.Equal(out, []int{1, 2}) || err != nil {
			t.Errorf("Out: got %v, %v", out, err)
		}
		in, err := In(g, 1, "p")
		if !slices.Equal(in, []int{1, 2}) || err != nil {
			t.Errorf("In: got %v, %v", in, err)
		}
		_, other := full()
		if is, err := Same(g, other); !is || err != nil {
			t.Errorf("Same: got %v, %v", is, err)
		}
		if next, err := Next(g); next != 3 || err != nil {
			t.Errorf("Next: got %v, %v", next, err)
		}
		fill(first.Record, prop("new", number(9)))
		fill(second.Record, prop("new", number(9)))
		fill(out, 9)
		fill(in, 9)
	}
	if again, cut := full(); !reflect.DeepEqual(whole, again) || !reflect.DeepEqual(g, cut) || g.Nodes[:3][2].Kind != "A" || g.Ties[:4][3].Bond != "A" {
		t.Errorf("what is handed in is written into: %v", whole)
	}
}

// TestFreshAppend: P2, what a caller puts behind a node's record is not to be seen in the graph.
func TestFreshAppend(t *testing.T) {
	all := api.Record{prop("x", number(1)), prop("y", number(2))}
	g := nodes(api.Node{Id: 1, Kind: "a", Record: all[:1]}, api.Node{Id: 2, Kind: "a", Record: all[1:]})
	n, err := Node(g, 1)
	if err != nil {
		t.Fatal(err)
	}
	n.Record = append(n.Record, prop("z", number(3)))
	if err := record.Check(n.Record); err != nil || all[1] != prop("y", number(2)) {
		t.Errorf("got %v, %v beside %v", n, err, all)
	}
}

// TestCopy: P2 and P4, a copy is the same, right or not, and shares no memory; what stands behind a length is neither read nor written.
func TestCopy(t *testing.T) {
	whole, g := full()
	want := both(nodes(node(1, "a", prop("x", number(1)), prop("y", words("u"))), node(2, "b")), ties(tie("p", 1, 1), tie("p", 1, 2), tie("p", 2, 1)))
	first, second := Copy(g), Copy(g)
	one := CopyNode(g.Nodes[0])
	for i := range first.Nodes {
		fill(first.Nodes[i].Record, prop("new", number(i)))
	}
	fill(first.Nodes, node(9, "new"))
	fill(first.Ties, tie("new", 9, 9))
	if again, cut := full(); !reflect.DeepEqual(whole, again) || !reflect.DeepEqual(g, cut) || g.Nodes[:3][2].Kind != "A" || g.Ties[:4][3].Bond != "A" {
		t.Errorf("what is handed in is written into: %v", whole)
	}
	fill(g.Nodes[0].Record, prop("new", number(9)))
	fill(g.Nodes, node(9, "new"))
	fill(g.Ties, tie("new", 9, 9))
	if is, err := Same(second, want); !is || err != nil {
		t.Errorf("Copy: got %v, %v, want %v", second, err, want)
	}
	if !sameNode(one, want.Nodes[0]) {
		t.Errorf("CopyNode: got %v, want %v", one, want.Nodes[0])
	}
	for _, c := range []api.Graph{{}, both(ids(7, 7, 0), ties(tie("", -1, 0), tie("", -1, 0))), nodes(node(1, "A", prop("", api.Value{}), prop("", api.Value{})))} {
		if got := Copy(c); !slices.EqualFunc(got.Nodes, c.Nodes, sameNode) || !slices.Equal(got.Ties, c.Ties) {
			t.Errorf("Copy(%v): got %v", c, got)
		}
	}
}
