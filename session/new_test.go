package session

import (
	"testing"

	"kinshape/api"
	"kinshape/check"
)

type badSchema struct {
	s    api.Schema
	want api.Errno
}

// badSchemas has one of each number of an error that chapter 4 has, and those that it stands on.
func badSchemas() []badSchema {
	kinds := func(l ...api.Kind) api.Schema { return api.Schema{Kinds: l} }
	bonds := func(l ...api.Bond) api.Schema { return api.Schema{Kinds: []api.Kind{{Name: "a"}}, Bonds: l} }
	fields := func(l ...api.Field) api.Schema { return kinds(api.Kind{Name: "a", Fields: l}) }
	return []badSchema{
		{kinds(make([]api.Kind, 13)...), api.ErrFull},
		{bonds(make([]api.Bond, 13)...), api.ErrFull},
		{kinds(api.Kind{}), api.ErrSyntax},
		{kinds(api.Kind{Name: "a"}, api.Kind{Name: "a"}), api.ErrClash},
		{kinds(api.Kind{Name: "a", Of: []string{"a"}}), api.ErrNone},
		{fields(api.Field{Name: "k"}), api.ErrType},
		{fields(api.Field{Name: "k", Type: api.Int, Key: true}), api.ErrShape},
		{bonds(api.Bond{From: "a", To: "a"}), api.ErrSyntax},
		{bonds(api.Bond{Name: "p", From: "a", To: "zz"}), api.ErrNone},
		{bonds(api.Bond{Name: "p", From: "a", To: "a", Min: 21, Max: -1}), api.ErrRange},
	}
}

type badGraph struct {
	g    api.Graph
	want api.Errno
}

// badGraphs has one of each number of an error that chapter 5 has, and those that it stands on.
func badGraphs() []badGraph {
	one := func(l ...api.Prop) api.Graph { return nodes(api.Node{Id: 1, Kind: "a", Record: l}) }
	return []badGraph{
		{nodes(make([]api.Node, 61)...), api.ErrFull},
		{with(api.Graph{}, make([]api.Tie, 121)...), api.ErrFull},
		{web("0 a -"), api.ErrRange},
		{web("2 a -; 1 a -"), api.ErrClash},
		{web("1 A -"), api.ErrSyntax},
		{one(make(api.Record, 9)...), api.ErrFull},
		{one(prop("K", number(1))), api.ErrSyntax},
		{one(prop("k", api.Value{})), api.ErrType},
		{one(prop("k", number(1000001))), api.ErrRange},
		{one(prop("k", number(1)), prop("k", number(1))), api.ErrClash},
		{web("1 a -; P 1 1"), api.ErrSyntax},
		{web("1 a -; p 1 1001"), api.ErrRange},
		{web("1 a -; p 1 1; p 1 1"), api.ErrClash},
	}
}

// faulty is a graph that has one fault by someSchema.
type faulty struct {
	g    api.Graph
	what int
}

// faultyGraphs has each fault of chapter 6.
func faultyGraphs() []faulty {
	return []faulty{
		{web("1 zz -"), api.BadKind},
		{web("1 a k=1; 2 c k=1"), api.BadField},
		{web("1 a k=1,m=1"), api.BadField},
		{web("1 a m='u'"), api.NoField},
		{web("1 a k=1; 2 a k=1"), api.SameKey},
		{web("1 a k=1; zz 1 1"), api.BadBond},
		{web("1 a k=1; q 1 1"), api.BadEnd},
		{web("1 a k=1; q 1 2"), api.BadEnd},
		{web("1 b k=1,x=true"), api.TooFew},
		{web("1 a k=1; 2 a k=2; 3 a k=3; 4 c -; p 4 1; p 4 2; p 4 3"), api.TooMany},
	}
}

// testNoNew asks New for an error, with which there is no base.
func testNoNew(t *testing.T, s api.Schema, g api.Graph, want api.Errno) {
	t.Helper()
	if b, err := New(s, g); b != nil || told(err) != want {
		t.Errorf("New(%v, %v): got %v, %v, want %v", s, g, b, err, want)
	}
}

// TestNew: B1, of each graph that conforms, the empty one by the empty schema, too; no session is open, and none has committed.
func TestNew(t *testing.T) {
	testNow(t, base(t, api.Schema{}, api.Graph{}), api.Graph{}, 0)
	testNow(t, base(t, someSchema(), api.Graph{}), api.Graph{}, 0)
	testNow(t, base(t, someSchema(), api.Graph{Nodes: []api.Node{}, Ties: []api.Tie{}}), api.Graph{}, 0)
	testNow(t, base(t, someSchema(), someGraph()), someGraph(), 0)
	testNow(t, base(t, looseSchema(), looseGraph()), looseGraph(), 0)
	testNow(t, base(t, fullSchema(), fullGraph(0, 0)), fullGraph(0, 0), 0)
}

// TestNewWrong: B1, the schema's error ahead of the graph's, and that ahead of ErrBreak.
func TestNewWrong(t *testing.T) {
	for _, c := range badSchemas() {
		testNoNew(t, c.s, api.Graph{}, c.want)
		testNoNew(t, c.s, someGraph(), c.want)
		for _, b := range badGraphs() {
			testNoNew(t, c.s, b.g, c.want)
		}
	}
	for _, b := range badGraphs() {
		testNoNew(t, api.Schema{}, b.g, b.want)
		testNoNew(t, plan("kind b"), b.g, b.want)
		testNoNew(t, someSchema(), b.g, b.want)
	}
	for _, f := range faultyGraphs() {
		if l, err := check.Faults(someSchema(), f.g); len(l) != 1 || l[0].What != f.what || err != nil {
			t.Errorf("%v is to have the fault %d alone: %v, %v", f.g, f.what, l, err)
		}
		testNoNew(t, someSchema(), f.g, api.ErrBreak)
		testNoNew(t, api.Schema{}, f.g, api.ErrBreak)
	}
	// What does not conform, and has an id that is none behind it.
	testNoNew(t, someSchema(), web("1 zz -; 1001 a k=1"), api.ErrRange)
}
