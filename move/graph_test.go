package move

import (
	"math/rand"
	"slices"
	"testing"

	"kinshape/api"
	"kinshape/change"
	"kinshape/check"
)

// TestGraph: M1, all Nodes go, each by its Kind, of each What; the Ties stay.
func TestGraph(t *testing.T) {
	const ties = "; p 1 3; p 1 5; p 20 3; p 1000 5; q 8 8; q 8 9; q 9 8; r 3 5; r 3 1000; r 5 1000"
	const beside = "; 8 e -; 9 e -; 20 a -; 1000 d -" + ties
	const same = "1 a k=1,m='u'; 2 b f=2,k=1,x=true; 3 c y=5; 5 d f=1,k=3,m='v',x=false,y=7,z='w'" + beside
	cases := []struct {
		c    api.Change
		want string
	}{
		{addWith("a", must(field("l", api.Int)), number(7)), "1 a k=1,l=7,m='u'; 2 b f=2,k=1,l=7,x=true; 3 c y=5; 5 d f=1,k=3,l=7,m='v',x=false,y=7,z='w'; 8 e -; 9 e -; 20 a l=7; 1000 d l=7" + ties},
		{addWith("b", field("k", api.Int), number(9)), "1 a k=1,m='u'; 2 b f=2,k=1,x=true; 3 c y=5; 5 d f=1,k=3,m='v',x=false,y=7,z='w'; 8 e -; 9 e -; 20 a -; 1000 d k=9" + ties},
		{addWith("c", field("aa", api.Text), words("")), "1 a k=1,m='u'; 2 b f=2,k=1,x=true; 3 c aa='',y=5; 5 d aa='',f=1,k=3,m='v',x=false,y=7,z='w'; 8 e -; 9 e -; 20 a -; 1000 d aa=''" + ties},
		{addWith("e", field("k", api.Int), number(0)), "1 a k=1,m='u'; 2 b f=2,k=1,x=true; 3 c y=5; 5 d f=1,k=3,m='v',x=false,y=7,z='w'; 8 e k=0; 9 e k=0; 20 a -; 1000 d -" + ties},
		{addWith("g", must(field("k", api.Int)), number(0)), same},
		{addField("a", field("l", api.Int)), same},
		{dropField("a", "k"), "1 a m='u'; 2 b f=2,x=true; 3 c y=5; 5 d f=1,m='v',x=false,y=7,z='w'" + beside},
		{dropField("b", "f"), "1 a k=1,m='u'; 2 b k=1,x=true; 3 c y=5; 5 d k=3,m='v',x=false,y=7,z='w'" + beside},
		{dropField("d", "k"), "1 a k=1,m='u'; 2 b f=2,k=1,x=true; 3 c y=5; 5 d f=1,m='v',x=false,y=7,z='w'" + beside},
		{renameTo("a", "m", "zz"), "1 a k=1,zz='u'; 2 b f=2,k=1,x=true; 3 c y=5; 5 d f=1,k=3,x=false,y=7,z='w',zz='v'" + beside},
		{renameTo("c", "y", "b"), "1 a k=1,m='u'; 2 b f=2,k=1,x=true; 3 c b=5; 5 d b=7,f=1,k=3,m='v',x=false,z='w'" + beside},
		// The own k of d stays in its schema; its nodes have n of a then.
		{renameTo("a", "k", "n"), "1 a m='u',n=1; 2 b f=2,n=1,x=true; 3 c y=5; 5 d f=1,m='v',n=3,x=false,y=7,z='w'" + beside},
		{addKind(breed("h", "a c", must(field("j", api.Int)))), same},
		{dropKind("g"), same},
		{addBond(bond("w b e", 0, 0)), same},
		{addBond(bond("w g e", 5, 5)), same},
		{setTo("q", 1, 2), same},
		{setTo("p", 0, 2), same},
	}
	for _, c := range cases {
		testGraph(t, someSchema(), c.c, someGraph(), web(c.want))
	}
}

// TestGraphDropBond: M1, without the Ties of the Bond, those ahead of, between and behind others; their Nodes stay.
func TestGraphDropBond(t *testing.T) {
	all := someGraph()
	for _, name := range []string{"p", "q", "r"} {
		var left []api.Tie
		for _, tie := range all.Ties {
			if tie.Bond != name {
				left = append(left, tie)
			}
		}
		testGraph(t, someSchema(), dropBond(name), all, with(all, left...))
		testGraph(t, someSchema(), dropBond(name), with(all, left...), with(all, left...))
		testGraph(t, someSchema(), dropBond(name), with(all), with(all))
	}
	s := plan("kind a; bond p a a 1 any; bond pp a a 0 any")
	testGraph(t, s, dropBond("p"), web("1 a -; p 1 1"), web("1 a -"))
	testGraph(t, s, dropBond("p"), web("1 a -; p 1 1; pp 1 1"), web("1 a -; pp 1 1"))
	testGraph(t, s, dropBond("pp"), web("1 a -; p 1 1; pp 1 1"), web("1 a -; p 1 1"))
	// Another What with the name of a Bond leaves its Ties.
	s = plan("kind p k:int; kind a; bond p a a 0 any; bond a a a 0 any")
	g := web("1 p k=1; 2 a -; a 2 2; p 2 2")
	testGraph(t, s, dropField("p", "k"), g, web("1 p -; 2 a -; a 2 2; p 2 2"))
	testGraph(t, s, setTo("p", 0, 1), g, g)
	testNoGraph(t, s, dropKind("p"), g, api.ErrBreak)
	testGraph(t, s, dropKind("p"), web("2 a -; a 2 2; p 2 2"), web("2 a -; a 2 2; p 2 2"))
}

// TestGraphNone: M1, of a Graph without Nodes comes the same, of each What.
func TestGraphNone(t *testing.T) {
	for _, c := range someChanges() {
		testGraph(t, someSchema(), c, api.Graph{}, api.Graph{})
		testGraph(t, someSchema(), c, api.Graph{Nodes: []api.Node{}, Ties: []api.Tie{}}, api.Graph{})
	}
	testGraph(t, api.Schema{}, addKind(breed("a", "")), api.Graph{}, api.Graph{})
	testGraph(t, plan("kind a"), dropKind("a"), api.Graph{}, api.Graph{})
	testGraph(t, plan("kind a"), addBond(bond("p a a", 20, 20)), api.Graph{}, api.Graph{})
}

// TestGraphMost: M1, as many Nodes and Ties as there may be.
func TestGraphMost(t *testing.T) {
	s := plan("kind a; bond p a a 0 any; bond q a a 0 any")
	g, want := ids(upTo(60)...), api.Graph{}
	for i := range 60 {
		g.Ties = append(g.Ties, tie("p", i+1, 60-i))
		want.Nodes = append(want.Nodes, node(i+1, "a", "k=7"))
	}
	for i := range 60 {
		g.Ties = append(g.Ties, tie("q", i+1, i+1))
	}
	want.Ties = g.Ties
	testGraph(t, s, addWith("a", must(field("k", api.Int)), number(7)), g, want)
	testGraph(t, s, dropBond("p"), g, with(g, g.Ties[60:]...))
	testGraph(t, s, dropBond("q"), g, with(g, g.Ties[:60]...))
}

type broken struct {
	s, g string
	c    api.Change
}

// brokenMoves has changes that can be done, and graphs that conform, of which comes what does not, with each fault that may come.
func brokenMoves() []broken {
	return []broken{
		// BadKind.
		{"kind a; kind b", "1 a -; 2 b -", dropKind("b")},
		{"kind a; kind b", "1 a -", dropKind("a")},
		// BadField: it has both, so that neither goes.
		{"kind a k:int; kind b of a m:int", "1 a k=1; 2 b k=2,m=3", renameTo("a", "k", "m")},
		{"kind a m:int; kind b of a k:int", "1 a m=1; 2 b k=2,m=3", renameTo("b", "k", "m")},
		// NoField: one of its kin says that it must be there, still.
		{"kind a k:int!; kind b of a k:int!", "1 a k=1; 2 b k=2", dropField("a", "k")},
		{"kind a k:int!; kind b of a k:int!", "1 a k=1; 2 b k=2", dropField("b", "k")},
		{"kind a k:int!; kind b of a k:int!", "1 a k=1; 2 b k=2", renameTo("a", "k", "m")},
		{"kind a k:int!; kind b k:int!; kind c of a,b", "1 a k=1; 2 b k=2; 3 c k=3", renameTo("b", "k", "m")},
		// SameKey: it has a name that others have as a key.
		{"kind a k:int*; kind b m:int*", "1 a k=1; 2 b m=1", renameTo("a", "k", "m")},
		{"kind a k:int*; kind b m:int*", "1 a k=1; 2 b m=2; 3 a k=2", renameTo("b", "m", "k")},
		// TooFew.
		{"kind a", "1 a -", addBond(bond("p a a", 1, -1))},
		{"kind a; kind b of a", "1 b -", addBond(bond("p a a", 1, 1))},
		{"kind a; bond p a a 1 any", "1 a -; 2 a -; p 1 1; p 1 2; p 2 1", setTo("p", 2, -1)},
		// TooMany.
		{"kind a; bond p a a 1 any", "1 a -; 2 a -; p 1 1; p 1 2; p 2 1", setTo("p", 0, 1)},
		{"kind a; bond p a a 0 any", "1 a -; p 1 1", setTo("p", 0, 0)},
	}
}

// TestGraphBreak: M1, ErrBreak: what comes does not conform to the Schema that Do makes.
func TestGraphBreak(t *testing.T) {
	for _, b := range brokenMoves() {
		if _, err := change.Do(plan(b.s), b.c); err != nil {
			t.Errorf("%s: %v: %v", b.s, b.c, err)
		}
		if ok, err := check.Conforms(plan(b.s), web(b.g)); !ok || err != nil {
			t.Errorf("%s: %s: %v, %v", b.s, b.g, ok, err)
		}
		testNoGraph(t, plan(b.s), b.c, web(b.g), api.ErrBreak)
	}
	// With one Node or Tie, or a bound, less or more it conforms.
	testGraph(t, plan("kind a; kind b"), dropKind("b"), web("1 a -"), web("1 a -"))
	testGraph(t, plan("kind a k:int; kind b of a m:int"), renameTo("a", "k", "m"), web("1 a k=1; 2 b k=2; 3 b m=3; 4 b -"), web("1 a m=1; 2 b m=2; 3 b m=3; 4 b -"))
	testGraph(t, plan("kind a k:int!; kind b of a k:int!"), dropField("a", "k"), web("1 a k=1"), web("1 a -"))
	testGraph(t, plan("kind a k:int; kind b of a k:int"), dropField("a", "k"), web("1 a k=1; 2 b k=2"), web("1 a -; 2 b -"))
	testGraph(t, plan("kind a k:int*; kind b m:int*"), renameTo("a", "k", "m"), web("1 a k=1; 2 b m=2"), web("1 a m=1; 2 b m=2"))
	testGraph(t, plan("kind a; bond p a a 1 any"), setTo("p", 1, 2), web("1 a -; 2 a -; p 1 1; p 1 2; p 2 1"), web("1 a -; 2 a -; p 1 1; p 1 2; p 2 1"))
}

// TestGraphWrong: M1 and M2, Graph and New: chapter 13's Do's error; chapter 5's Check; ErrState.
func TestGraphWrong(t *testing.T) {
	right := []api.Change{addWith("a", field("l", api.Int), number(7)), dropBond("p"), addBond(bond("w a a", 1, 1))}
	graphs := []api.Graph{{}, ids(1), someGraph(), ids(2, 1), ids(upTo(61)...), web("1 zz -"), with(ids(1), tie("P", 1, 1))}
	for _, g := range graphs {
		for _, b := range badChanges() {
			testNoNew(t, someSchema(), b.c, g, b.want)
		}
		for _, b := range badSchemas() {
			testNoNew(t, b.s, right[0], g, b.want)
			testNoNew(t, b.s, whatever(0), g, b.want)
		}
	}
	for _, c := range right {
		for _, b := range badGraphs() {
			testNoNew(t, someSchema(), c, b.g, b.want)
			// It is told ahead of ErrState: by this Schema no Node conforms.
			testNoNew(t, plan("kind y; bond p y y 0 any"), setTo("p", 0, 1), b.g, b.want)
		}
		for _, g := range oddGraphs() {
			testNoNew(t, someSchema(), c, g, api.ErrState)
		}
	}
}

// TestGraphMended: M1, ErrState: a Graph that does not conform ahead is none that may go, even if it conformed behind.
func TestGraphMended(t *testing.T) {
	testNoNew(t, plan("kind a k:int"), dropField("a", "k"), web("1 a k='u'"), api.ErrState)
	testNoNew(t, plan("kind a k:int"), renameTo("a", "k", "l"), web("1 a l=1"), api.ErrState)
	testNoNew(t, plan("kind a"), addWith("a", field("k", api.Int), number(1)), web("1 a k=1"), api.ErrState)
	testNoNew(t, plan("kind a"), addKind(breed("b", "")), web("1 b -"), api.ErrState)
	testNoNew(t, plan("kind a; bond p a a 0 1"), dropBond("p"), web("1 a -; 2 a -; p 1 1; p 1 2"), api.ErrState)
	testNoNew(t, plan("kind a"), addBond(bond("p a a", 0, 1)), web("1 a -; p 1 1"), api.ErrState)
	testNoNew(t, plan("kind a; bond p a a 1 1"), setTo("p", 0, 1), web("1 a -"), api.ErrState)
	// A Record that is full conforms to no Schema in which it could have one Prop more: it is told ahead of ErrFull.
	full := web("1 a -; 2 a aa=1,b=1,c=1,d=1,e=1,f=1,g=1,h=1")
	testNoNew(t, plan("kind a k:int"), addWith("a", field("l", api.Int), number(1)), full, api.ErrState)
	eight := plan("kind a aa:int b:int c:int d:int e:int f:int g:int h:int")
	testNoNew(t, eight, addWith("a", field("l", api.Int), number(1)), full, api.ErrFull)
	testGraph(t, eight, renameTo("a", "b", "z"), full, web("1 a -; 2 a aa=1,c=1,d=1,e=1,f=1,g=1,h=1,z=1"))
	seven := plan("kind a aa:int b:int c:int d:int e:int f:int g:int")
	testGraph(t, seven, addWith("a", field("l", api.Int), number(1)), web("1 a -; 2 a aa=1,b=1,c=1,d=1,e=1,f=1,g=1"), web("1 a l=1; 2 a aa=1,b=1,c=1,d=1,e=1,f=1,g=1,l=1"))
}

// TestGraphPlainly: M1 and M2, graphs from a fixed seed, at once and in steps, as they are told plainly.
func TestGraphPlainly(t *testing.T) {
	r := rand.New(rand.NewSource(141))
	seen := map[api.Errno]int{}
	for range 20_000 {
		s := randomSchema(r)
		c, g := randomChange(r, s), randomGraph(r, s, 6)
		if r.Intn(20) == 0 {
			g.Nodes = append(g.Nodes, randomNode(r))
		}
		want, wrong := plainGraph(s, c, g)
		got, err := Graph(s, c, g)
		if !sameGraph(got, want) || told(err) != wrong {
			t.Fatalf("Graph(%v, %v, %v): got %v, %v, want %v, %v", s, c, g, got, err, want, wrong)
		}
		seen[wrong]++
		testSteps(t, r, s, c, g, want, wrong)
	}
	for _, e := range []api.Errno{api.OK, api.ErrNone, api.ErrClash, api.ErrState, api.ErrBreak, api.ErrRange, api.ErrSyntax, api.ErrType, api.ErrShape} {
		if seen[e] < 20 {
			t.Errorf("%v: seen %d times", e, seen[e])
		}
	}
}

// testSteps goes with a Move in steps of any size to where Graph is to come, and holds it against the plain telling on its way.
func testSteps(t *testing.T, r *rand.Rand, s api.Schema, c api.Change, g, want api.Graph, wrong api.Errno) {
	t.Helper()
	if bad := plainNew(s, c, g); bad != api.OK {
		if m, err := New(s, c, g); m != nil || told(err) != bad {
			t.Fatalf("New(%v, %v, %v): got %v, %v, want %v", s, c, g, m, err, bad)
		}
		return
	}
	m := begun(t, s, c, g)
	now := api.Graph{Nodes: slices.Clone(g.Nodes), Ties: g.Ties}
	for went := 0; went < len(g.Nodes); {
		testNow(t, m, len(g.Nodes)-went, now)
		testNoDone(t, m, api.ErrState)
		n := 1 + r.Intn(7)
		step := min(n, len(g.Nodes)-went)
		testStep(t, m, n, step)
		for range step {
			now.Nodes[went], _ = plainTurned(s, c, g.Nodes[went])
			went++
		}
	}
	testNow(t, m, 0, now)
	testNoStep(t, m, 1, api.ErrState)
	if wrong == api.OK {
		testEnd(t, m, s, c, want)
		testNow(t, m, 0, now)
		return
	}
	testNoDone(t, m, wrong)
	testNow(t, m, len(g.Nodes), g)
}
