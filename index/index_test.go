package index

import (
	"slices"
	"testing"

	"kinshape/api"
	"kinshape/check"
)

type badSchema struct {
	s    api.Schema
	want api.Errno
}

// badSchemas has one of each number of an error that chapters 3 and 4 have.
func badSchemas() []badSchema {
	kinds := func(l ...api.Kind) api.Schema { return api.Schema{Kinds: l} }
	bonds := func(l ...api.Bond) api.Schema { return api.Schema{Kinds: []api.Kind{{Name: "a"}}, Bonds: l} }
	fields := func(l ...api.Field) api.Schema { return kinds(api.Kind{Name: "a", Fields: l}) }
	return []badSchema{
		{kinds(make([]api.Kind, 13)...), api.ErrFull},
		{bonds(make([]api.Bond, 13)...), api.ErrFull},
		{kinds(api.Kind{}), api.ErrSyntax},
		{kinds(api.Kind{Name: "a"}, api.Kind{Name: "a"}), api.ErrClash},
		{kinds(api.Kind{Name: "a", Of: []string{"a"}}), api.ErrNone},
		{fields(api.Field{Name: "k"}), api.ErrType},
		{fields(api.Field{Name: "k", Type: api.Int, Key: true}), api.ErrShape},
		{bonds(api.Bond{From: "a", To: "a"}), api.ErrSyntax},
		{bonds(api.Bond{Name: "p", From: "a", To: "zz"}), api.ErrNone},
		{bonds(api.Bond{Name: "p", From: "a", To: "a", Min: 21, Max: -1}), api.ErrRange},
	}
}

type badGraph struct {
	g    api.Graph
	want api.Errno
}

// badGraphs has one of each number of an error that chapter 5 has, and those that it stands on.
func badGraphs() []badGraph {
	one := func(l ...api.Prop) api.Graph { return nodes(api.Node{Id: 1, Kind: "a", Record: l}) }
	return []badGraph{
		{nodes(make([]api.Node, 61)...), api.ErrFull},
		{with(api.Graph{}, make([]api.Tie, 121)...), api.ErrFull},
		{nodes(node(0, "a", "-")), api.ErrRange},
		{nodes(node(2, "a", "-"), node(1, "a", "-")), api.ErrClash},
		{nodes(node(1, "A", "-")), api.ErrSyntax},
		{one(make(api.Record, 9)...), api.ErrFull},
		{one(prop("K", number(1))), api.ErrSyntax},
		{one(prop("k", api.Value{})), api.ErrType},
		{one(prop("k", number(1000001))), api.ErrRange},
		{one(prop("k", number(1)), prop("k", number(1))), api.ErrClash},
		{with(api.Graph{}, tie("P", 1, 1)), api.ErrSyntax},
		{with(api.Graph{}, tie("p", 1, 1001)), api.ErrRange},
		{with(api.Graph{}, tie("p", 1, 1), tie("p", 1, 1)), api.ErrClash},
	}
}

// faulty is a graph that does not conform, and the one fault that it has by faultySchema.
type faulty struct {
	g    api.Graph
	what int
}

func faultySchema() api.Schema {
	return made("kind a k:int* m:text\nkind b of a\nkind c\nbond p c a 1 2\nbond q a a 0 any\n")
}

// faultyGraphs has one of each fault, and more where a fault has several forms.
func faultyGraphs() []faulty {
	a := node(1, "a", "k=1")
	return []faulty{
		{nodes(node(1, "zz", "-")), api.BadKind},
		{nodes(node(1, "a", "k=1,x=1")), api.BadField},
		{nodes(node(1, "a", "k=1,m=1")), api.BadField},
		{nodes(node(1, "a", "m='u'")), api.NoField},
		{nodes(a, node(2, "a", "k=1")), api.SameKey},
		{nodes(a, node(2, "b", "k=1")), api.SameKey},
		{with(nodes(a), tie("zz", 1, 1)), api.BadBond},
		{with(nodes(a), tie("q", 1, 2)), api.BadEnd},
		{with(nodes(a), tie("q", 2, 1)), api.BadEnd},
		{with(nodes(a), tie("p", 1, 1)), api.BadEnd},
		{nodes(a, node(2, "c", "-")), api.TooFew},
		{with(nodes(a, node(2, "a", "k=2"), node(3, "b", "k=3"), node(4, "c", "-")), tie("p", 4, 1), tie("p", 4, 2), tie("p", 4, 3)), api.TooMany},
	}
}

// testNewWrong asks New for an error, with which no index comes.
func testNewWrong(t *testing.T, s api.Schema, g api.Graph, want api.Errno) {
	t.Helper()
	if x, err := New(s, g); x != nil || told(err) != want {
		t.Errorf("New(%v, %v): got %v, %v, want %v", s, g, x, err, want)
	}
}

// TestNewErrors: I1, what is wrong with the schema is told ahead of what is wrong with the graph, and that ahead of ErrBreak.
func TestNewErrors(t *testing.T) {
	s := faultySchema()
	for _, c := range badSchemas() {
		testNewWrong(t, c.s, api.Graph{}, c.want)
		for _, b := range badGraphs() {
			testNewWrong(t, c.s, b.g, c.want)
		}
		for _, f := range faultyGraphs() {
			testNewWrong(t, c.s, f.g, c.want)
		}
	}
	for _, b := range badGraphs() {
		testNewWrong(t, s, b.g, b.want)
		testNewWrong(t, api.Schema{}, b.g, b.want)
	}
	for _, f := range faultyGraphs() {
		testNewWrong(t, s, f.g, api.ErrBreak)
		testNewWrong(t, api.Schema{}, f.g, api.ErrBreak)
		if l, err := check.Faults(s, f.g); len(l) != 1 || l[0].What != f.what || err != nil {
			t.Errorf("%v is to have the fault %d alone: %v, %v", f.g, f.what, l, err)
		}
	}
}

// TestNew: I1, of each graph that conforms, the empty one by the empty schema, too.
func TestNew(t *testing.T) {
	s := faultySchema()
	whole := with(nodes(node(1, "a", "k=1"), node(2, "b", "k=2,m='u'"), node(7, "c", "-"), node(1000, "a", "k=-7")), tie("p", 7, 1), tie("p", 7, 2), tie("q", 1, 1), tie("q", 1, 1000), tie("q", 2, 1))
	testAnswers(t, madeIndex(t, api.Schema{}, api.Graph{}), api.Schema{}, api.Graph{})
	testAnswers(t, madeIndex(t, s, api.Graph{}), s, api.Graph{})
	testAnswers(t, madeIndex(t, s, api.Graph{Nodes: []api.Node{}, Ties: []api.Tie{}}), s, api.Graph{})
	testAnswers(t, madeIndex(t, s, whole), s, whole)
}

// TestKind: I1, nodes of a kind and of those that come of it, over one kind and over several, each once, rising.
func TestKind(t *testing.T) {
	s := made("kind a\nkind b of a\nkind c of b\nkind d of a,b\nkind e\nkind f of c,d,e\nkind g\nkind h of g\nbond p a a 0 any\n")
	g := nodes(node(1, "c", "-"), node(3, "f", "-"), node(4, "a", "-"), node(9, "e", "-"), node(10, "b", "-"), node(11, "d", "-"), node(1000, "c", "-"))
	x := madeIndex(t, s, g)
	cases := []struct {
		name string
		want []int
	}{
		{"a", []int{1, 3, 4, 10, 11, 1000}},
		{"b", []int{1, 3, 10, 11, 1000}},
		{"c", []int{1, 3, 1000}},
		{"d", []int{3, 11}},
		{"e", []int{3, 9}},
		{"f", []int{3}},
		{"g", nil},
		{"h", nil},
	}
	for _, c := range cases {
		if got, err := x.Kind(c.name); !slices.Equal(got, c.want) || err != nil {
			t.Errorf("Kind(%q): got %v, %v, want %v", c.name, got, err, c.want)
		}
	}
	for _, name := range append(noNames(), "i", "zz", "p", "aa") {
		if got, err := x.Kind(name); len(got) != 0 || told(err) != api.ErrNone {
			t.Errorf("Kind(%q): got %v, %v, want ErrNone", name, got, err)
		}
	}
	testAnswers(t, x, s, g)
}

// keyed has a schema with keys of all types, a kind's own and those of its kin, and a graph with them.
func keyed() (api.Schema, api.Graph) {
	s := made("kind a k:int* m:text!\nkind b of a l:text*\nkind c of b t:bool*\nkind d k:text*\nkind e k:int!\nkind f of e\nkind g of b\nkind h n:int*\nbond p a a 0 any\n")
	g := nodes(node(1, "b", "k=5,l='u',m='v'"), node(2, "a", "k=1,m='u'"), node(3, "c", "k=0,l='',m='',t=true"), node(4, "d", "k='u'"), node(5, "c", "k=-1,l='5',m='',t=false"),
		node(6, "e", "k=5"), node(7, "f", "k=77"), node(8, "d", "k='5'"))
	return s, g
}

// TestKey: I1, of a kind's own key and of one that it has of another kind, of its own nodes and of those of kinds that come of it.
func TestKey(t *testing.T) {
	s, g := keyed()
	x := madeIndex(t, s, g)
	cases := []struct {
		name, field string
		v           api.Value
		want        int
	}{
		{"a", "k", number(1), 2},
		{"a", "k", number(5), 1},
		{"a", "k", number(0), 3},
		{"a", "k", number(-1), 5},
		{"b", "k", number(5), 1},
		{"b", "k", number(0), 3},
		{"b", "l", words("u"), 1},
		{"b", "l", words(""), 3},
		{"b", "l", words("5"), 5},
		{"c", "k", number(0), 3},
		{"c", "l", words(""), 3},
		{"c", "l", words("5"), 5},
		{"c", "t", truth(1), 3},
		{"c", "t", truth(0), 5},
		{"d", "k", words("u"), 4},
		{"d", "k", words("5"), 8},
	}
	for _, c := range cases {
		if got, err := x.Key(c.name, c.field, c.v); got != c.want || err != nil {
			t.Errorf("Key(%q, %q, %v): got %d, %v, want %d", c.name, c.field, c.v, got, err, c.want)
		}
	}
	testAnswers(t, x, s, g)
}

// TestKeyErrors: I1, a kind that is none ahead of a field that is none, or no key, and that ahead of a value that no node has.
func TestKeyErrors(t *testing.T) {
	s, g := keyed()
	x := madeIndex(t, s, g)
	values := append(noValues(), number(5), number(1), number(9), words("u"), words("v"), words("zz"), truth(0), truth(1))
	wrong := func(name, field string, v api.Value, want api.Errno) {
		t.Helper()
		if got, err := x.Key(name, field, v); got != 0 || told(err) != want {
			t.Errorf("Key(%q, %q, %v): got %d, %v, want %v", name, field, v, got, err, want)
		}
	}
	for _, v := range values {
		for _, name := range append(noNames(), "i", "zz", "p", "k") {
			for _, field := range []string{"k", "m", "zz", "", "K"} {
				wrong(name, field, v, api.ErrNone)
			}
		}
		for _, field := range append(noNames(), "zz", "n", "p", "a") {
			wrong("a", field, v, api.ErrShape)
			wrong("c", field, v, api.ErrShape)
		}
		// They are there, but no keys; or they are keys, but of a kind that comes of it, or of another one.
		for _, c := range [][2]string{{"a", "m"}, {"b", "m"}, {"c", "m"}, {"e", "k"}, {"f", "k"}, {"a", "l"}, {"a", "t"}, {"b", "t"}, {"d", "l"}, {"h", "k"}} {
			wrong(c[0], c[1], v, api.ErrShape)
		}
		// No node is of these kinds.
		wrong("g", "k", v, api.ErrNone)
		wrong("g", "l", v, api.ErrNone)
		wrong("h", "n", v, api.ErrNone)
	}
	for _, v := range noValues() {
		for _, c := range [][2]string{{"a", "k"}, {"b", "k"}, {"b", "l"}, {"c", "t"}, {"d", "k"}} {
			wrong(c[0], c[1], v, api.ErrNone)
		}
	}
	// Of another type, though its number or its text is there; of a node of another kind; of none.
	wrong("a", "k", truth(1), api.ErrNone)
	wrong("a", "k", words("u"), api.ErrNone)
	wrong("a", "k", words("5"), api.ErrNone)
	wrong("a", "k", number(77), api.ErrNone)
	wrong("a", "k", number(2), api.ErrNone)
	wrong("b", "k", number(1), api.ErrNone)
	wrong("c", "k", number(5), api.ErrNone)
	wrong("c", "l", words("u"), api.ErrNone)
	wrong("b", "l", words("v"), api.ErrNone)
	wrong("d", "k", number(5), api.ErrNone)
	wrong("c", "t", number(1), api.ErrNone)
}

// TestKeyLeast: I1, of several the least. No graph that conforms has several, so that the tables are asked themselves; what is in no key field is not in them.
func TestKeyLeast(t *testing.T) {
	s := made("kind a k:int* m:int\nkind b of a\nkind c of b\n")
	g := nodes(node(2, "c", "k=1,m=7"), node(3, "a", "k=2"), node(5, "b", "k=1,m=7"), node(7, "a", "k=1"), node(8, "b", "k=2"), node(9, "c", "k=2"), node(10, "c", "k=1"))
	if l, err := check.Faults(s, g); len(l) != 5 || err != nil {
		t.Errorf("each that has a key again is to be told: %v, %v", l, err)
	}
	testNewWrong(t, s, g, api.ErrBreak)
	got := tablesOf(shapesOf(s), g).keys
	want := map[key]int{
		{"a", "k", number(1)}: 2, {"b", "k", number(1)}: 2, {"c", "k", number(1)}: 2,
		{"a", "k", number(2)}: 3, {"b", "k", number(2)}: 8, {"c", "k", number(2)}: 9,
	}
	for k, id := range want {
		if got[k] != id {
			t.Errorf("%v: got %d, want %d", k, got[k], id)
		}
	}
	if len(got) != len(want) {
		t.Errorf("got %v, want %v", got, want)
	}
}

// TestEnds: I1, the other ends of ties, both ways, rising; a tie from a node to itself has it as its other end.
func TestEnds(t *testing.T) {
	s := made("kind a\nkind b of a\nbond q a a 0 any\nbond p b a 0 any\nbond r a b 0 any\n")
	g := with(nodes(node(1, "a", "-"), node(2, "b", "-"), node(3, "b", "-"), node(10, "a", "-"), node(20, "a", "-"), node(1000, "a", "-")),
		tie("p", 2, 1), tie("p", 2, 2), tie("p", 3, 1), tie("p", 3, 10), tie("q", 1, 20), tie("q", 2, 20), tie("q", 3, 20), tie("q", 10, 1), tie("q", 10, 2), tie("q", 10, 3), tie("q", 20, 20), tie("q", 1000, 20))
	x := madeIndex(t, s, g)
	cases := []struct {
		id      int
		bond    string
		out, in []int
	}{
		{1, "p", nil, []int{2, 3}},
		{2, "p", []int{1, 2}, []int{2}},
		{3, "p", []int{1, 10}, nil},
		{10, "p", nil, []int{3}},
		{20, "p", nil, nil},
		{1, "q", []int{20}, []int{10}},
		{10, "q", []int{1, 2, 3}, nil},
		{20, "q", []int{20}, []int{1, 2, 3, 20, 1000}},
		{1000, "q", []int{20}, nil},
		{1, "r", nil, nil},
		{2, "r", nil, nil},
	}
	for _, c := range cases {
		if got, err := x.Ends(c.id, c.bond, false); !slices.Equal(got, c.out) || err != nil {
			t.Errorf("Ends(%d, %q, out): got %v, %v, want %v", c.id, c.bond, got, err, c.out)
		}
		if got, err := x.Ends(c.id, c.bond, true); !slices.Equal(got, c.in) || err != nil {
			t.Errorf("Ends(%d, %q, back): got %v, %v, want %v", c.id, c.bond, got, err, c.in)
		}
	}
	for _, back := range []bool{false, true} {
		wrong := func(id int, bond string) {
			t.Helper()
			if got, err := x.Ends(id, bond, back); len(got) != 0 || told(err) != api.ErrNone {
				t.Errorf("Ends(%d, %q, %v): got %v, %v, want ErrNone", id, bond, back, got, err)
			}
		}
		for _, id := range append(noIds(), 4, 9, 11, 19, 21, 999) {
			for _, bond := range append(noNames(), "p", "q", "r", "zz") {
				wrong(id, bond)
			}
		}
		for _, id := range []int{1, 2, 3, 10, 20, 1000} {
			for _, bond := range append(noNames(), "zz", "a", "b", "pp", "s") {
				wrong(id, bond)
			}
		}
	}
	testAnswers(t, x, s, g)
}

// fullIndex has as many kinds, bonds, nodes and ties as may be: each kind comes of the one ahead, and has the keys of the first one.
func fullIndex() (s api.Schema, g api.Graph) {
	names := "abcdefghijkl"
	for i := range names {
		k := api.Kind{Name: names[i : i+1]}
		if i == 0 {
			for j := range api.MaxProps {
				k.Fields = append(k.Fields, api.Field{Name: names[j : j+1], Type: api.Int, Must: true, Key: true})
			}
		} else {
			k.Of = []string{names[i-1 : i]}
		}
		s.Kinds = append(s.Kinds, k)
		s.Bonds = append(s.Bonds, api.Bond{Name: names[i : i+1], From: "a", To: "a", Max: -1})
	}
	for i := range api.MaxNodes {
		n := api.Node{Id: i*16 + 1, Kind: names[i%12 : i%12+1]}
		for j := range api.MaxProps {
			n.Record = append(n.Record, prop(names[j:j+1], number(10*i+j)))
		}
		g.Nodes = append(g.Nodes, n)
	}
	for i := range api.MaxTies {
		g.Ties = append(g.Ties, tie(names[i/10:i/10+1], 1, i%10*16+1))
	}
	return s, g
}

// TestFull: I1, an index of as much as may be.
func TestFull(t *testing.T) {
	s, g := fullIndex()
	x := madeIndex(t, s, g)
	testAnswers(t, x, s, g)
	if l, err := x.Kind("a"); len(l) != 60 || err != nil {
		t.Errorf("Kind: got %v, %v", l, err)
	}
	if l, err := x.Ends(1, "l", false); len(l) != 10 || err != nil {
		t.Errorf("Ends: got %v, %v", l, err)
	}
	// What wants more room is not done, until a node is gone, and its tie with it.
	for _, c := range []struct {
		o    api.Op
		want api.Errno
	}{
		{newOp(node(2, "a", "a=5,b=5,c=5,d=5,e=5,f=4,g=4,h=4")), api.ErrFull},
		{bindOp(tie("l", 17, 17)), api.ErrFull},
		{set(1, "i", number(1)), api.ErrFull},
		{gone(17), api.OK},
		{newOp(node(2, "a", "a=5,b=5,c=5,d=5,e=5,f=4,g=4,h=4")), api.OK},
		{bindOp(tie("l", 2, 2)), api.OK},
	} {
		if err := x.Do(c.o); told(err) != c.want {
			t.Errorf("Do(%v): got %v, want %v", c.o, err, c.want)
		}
		testAnswers(t, x, s, x.Graph())
	}
}
