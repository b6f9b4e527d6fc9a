package index

import (
	"math"
	"math/rand"
	"slices"
	"strings"
	"testing"

	"kinshape/api"
	"kinshape/check"
	"kinshape/delta"
)

// doSchema has what each fault needs.
func doSchema() api.Schema {
	return made("kind a k:int* m:text\nkind b of a x:bool!\nkind c\nkind d of b,c\nbond p c a 0 2\nbond q a c 0 any\nbond r b b 1 any\n")
}

func doGraph() api.Graph {
	return with(nodes(node(1, "a", "k=1"), node(2, "b", "k=2,m='u',x=true"), node(4, "c", "-"), node(5, "a", "k=5,m='u'"), node(9, "d", "k=9,x=false"), node(1000, "a", "k=0")),
		tie("p", 4, 1), tie("p", 4, 5), tie("p", 9, 9), tie("q", 1, 4), tie("q", 2, 4), tie("q", 2, 9), tie("r", 2, 2), tie("r", 2, 9), tie("r", 9, 9))
}

// testDone asks Do for no error, and then for all of what chapter 7 makes of the graph.
func testDone(t *testing.T, x *Index, s api.Schema, o api.Op) {
	t.Helper()
	want, err := delta.Do(x.Graph(), o)
	if err != nil {
		t.Fatalf("Do(%v) is to be done: %v", o, err)
	}
	if err := x.Do(o); err != nil {
		t.Errorf("Do(%v): got %v", o, err)
	}
	testAnswers(t, x, s, want)
}

// testNotDone asks Do for an error, behind which all is as before.
func testNotDone(t *testing.T, x *Index, s api.Schema, o api.Op, want api.Errno) {
	t.Helper()
	before := x.Graph()
	if err := x.Do(o); told(err) != want {
		t.Errorf("Do(%v): got %v, want %v", o, err, want)
	}
	testAnswers(t, x, s, before)
}

// TestDo: I2, each What is done, and Kind, Key, Ends and Graph answer of the new graph.
func TestDo(t *testing.T) {
	s := doSchema()
	x := madeIndex(t, s, doGraph())
	ids := func(name string, want ...int) {
		t.Helper()
		if got, err := x.Kind(name); !slices.Equal(got, want) || err != nil {
			t.Errorf("Kind(%q): got %v, %v, want %v", name, got, err, want)
		}
	}
	has := func(name, field string, v api.Value, want int, wrong api.Errno) {
		t.Helper()
		if got, err := x.Key(name, field, v); got != want || told(err) != wrong {
			t.Errorf("Key(%q, %q, %v): got %d, %v, want %d, %v", name, field, v, got, err, want, wrong)
		}
	}
	leads := func(id int, bond string, back bool, want ...int) {
		t.Helper()
		if got, err := x.Ends(id, bond, back); !slices.Equal(got, want) || err != nil {
			t.Errorf("Ends(%d, %q, %v): got %v, %v, want %v", id, bond, back, got, err, want)
		}
	}
	ids("a", 1, 2, 5, 9, 1000)
	testDone(t, x, s, newOp(node(3, "a", "k=33,m=''")))
	ids("a", 1, 2, 3, 5, 9, 1000)
	has("a", "k", number(33), 3, api.OK)
	leads(3, "q", false)
	testDone(t, x, s, set(3, "k", number(34)))
	has("a", "k", number(33), 0, api.ErrNone)
	has("a", "k", number(34), 3, api.OK)
	testDone(t, x, s, unset(3, "m"))
	testDone(t, x, s, bindOp(tie("q", 3, 4)))
	leads(3, "q", false, 4)
	leads(4, "q", true, 1, 2, 3)
	testDone(t, x, s, looseOp(tie("q", 1, 4)))
	leads(1, "q", false)
	leads(4, "q", true, 2, 3)
	testDone(t, x, s, gone(4))
	ids("c", 9)
	leads(1, "p", true)
	leads(3, "q", false)
	testDone(t, x, s, gone(1))
	ids("a", 2, 3, 5, 9, 1000)
	has("a", "k", number(1), 0, api.ErrNone)
	// What was another one's key, and its id, may be had again.
	testDone(t, x, s, newOp(node(4, "a", "k=1")))
	has("a", "k", number(1), 4, api.OK)
	testDone(t, x, s, newOp(node(1, "c", "-")))
	ids("c", 1, 9)
	testDone(t, x, s, bindOp(tie("p", 1, 4)))
	leads(4, "p", true, 1)
	for _, id := range []int{1, 3, 4, 5, 1000} {
		testDone(t, x, s, gone(id))
	}
	ids("a", 2, 9)
	// Node 2 has a tie to itself left, when 9 goes, so that 9 may.
	testDone(t, x, s, gone(9))
	testDone(t, x, s, gone(2))
	ids("a")
	testDone(t, x, s, newOp(node(7, "c", "-")))
	ids("c", 7)
}

// TestDoWhat: I2, a What that is none.
func TestDoWhat(t *testing.T) {
	s := doSchema()
	x := madeIndex(t, s, doGraph())
	for _, what := range []int{0, -1, 7, 8, 256, 257, 1<<32 + 1, math.MaxInt, math.MinInt} {
		for _, o := range []api.Op{{}, newOp(node(3, "a", "k=3")), newOp(node(3, "zz", "-")), gone(4), set(1, "k", number(3)), bindOp(tie("q", 5, 4)), looseOp(tie("q", 1, 4))} {
			o.What = what
			testNotDone(t, x, s, o, api.ErrRange)
		}
	}
}

// TestDoErrors: I2, each error of chapter 7, ahead of ErrBreak, behind which all is as before.
func TestDoErrors(t *testing.T) {
	s := doSchema()
	x := madeIndex(t, s, doGraph())
	of := func(l ...api.Prop) api.Node { return api.Node{Id: 3, Kind: "a", Record: l} }
	cases := []struct {
		o    api.Op
		want api.Errno
	}{
		{newOp(node(0, "a", "k=3")), api.ErrRange},
		{newOp(node(1001, "zz", "-")), api.ErrRange},
		{newOp(api.Node{Id: 3}), api.ErrSyntax},
		{newOp(api.Node{Id: 3, Kind: "A"}), api.ErrSyntax},
		{newOp(of(make(api.Record, 9)...)), api.ErrFull},
		{newOp(of(prop("K", number(1)))), api.ErrSyntax},
		{newOp(of(prop("k", api.Value{}))), api.ErrType},
		{newOp(of(prop("k", number(1000001)))), api.ErrRange},
		{newOp(of(prop("m", words(strings.Repeat("z", 21))))), api.ErrFull},
		{newOp(of(prop("m", words("\n")))), api.ErrSyntax},
		{newOp(of(prop("m", words("u")), prop("k", number(3)))), api.ErrClash},
		{newOp(node(1, "a", "k=3")), api.ErrClash},
		{newOp(node(1, "zz", "-")), api.ErrClash},
		{newOp(node(1, "a", "k=1")), api.ErrClash},
		{gone(0), api.ErrNone},
		{gone(3), api.ErrNone},
		{gone(math.MinInt), api.ErrNone},
		{set(3, "k", number(3)), api.ErrNone},
		{set(3, "K", api.Value{}), api.ErrNone},
		{set(1, "K", number(3)), api.ErrSyntax},
		{set(1, "zz", api.Value{}), api.ErrType},
		{set(1, "k", number(-1000001)), api.ErrRange},
		{set(1, "m", words(strings.Repeat("z", 21))), api.ErrFull},
		{set(1, "k", api.Value{Type: api.Int, N: 1, S: "1"}), api.ErrSyntax},
		{unset(3, "k"), api.ErrNone},
		{unset(1, "m"), api.ErrNone},
		{unset(1, ""), api.ErrNone},
		{bindOp(tie("P", 4, 1)), api.ErrSyntax},
		{bindOp(tie("", 0, 0)), api.ErrSyntax},
		{bindOp(tie("zz", 0, 1)), api.ErrRange},
		{bindOp(tie("p", 4, 1001)), api.ErrRange},
		{bindOp(tie("p", 4, 1)), api.ErrClash},
		{looseOp(tie("p", 1, 4)), api.ErrNone},
		{looseOp(tie("zz", 1, 4)), api.ErrNone},
		{looseOp(tie("", 0, 0)), api.ErrNone},
	}
	for _, c := range cases {
		testNotDone(t, x, s, c.o, c.want)
	}
	// All of that once more behind an op that is done.
	testDone(t, x, s, set(1000, "m", words("v")))
	for _, c := range cases {
		testNotDone(t, x, s, c.o, c.want)
	}
}

// TestDoBreak: I2, what does not conform, by each fault that an op may bring, is not done.
func TestDoBreak(t *testing.T) {
	s := doSchema()
	x := madeIndex(t, s, doGraph())
	cases := []struct {
		o    api.Op
		what int
	}{
		{newOp(node(3, "zz", "-")), api.BadKind},
		{newOp(node(3, "a", "k=3,zz=1")), api.BadField},
		{newOp(node(3, "c", "k=3")), api.BadField},
		{newOp(node(3, "a", "k='3'")), api.BadField},
		{set(1, "zz", number(1)), api.BadField},
		{set(1, "x", truth(1)), api.BadField},
		{set(1, "m", number(1)), api.BadField},
		{set(1, "k", truth(1)), api.BadField},
		{newOp(node(3, "a", "m='u'")), api.NoField},
		{unset(1, "k"), api.NoField},
		{unset(2, "x"), api.NoField},
		{unset(9, "k"), api.NoField},
		{newOp(node(3, "a", "k=5")), api.SameKey},
		{newOp(node(3, "a", "k=9")), api.SameKey},
		{set(5, "k", number(2)), api.SameKey},
		{set(1, "k", number(9)), api.SameKey},
		{bindOp(tie("zz", 1, 1)), api.BadBond},
		{bindOp(tie("p", 4, 3)), api.BadEnd},
		{bindOp(tie("q", 3, 4)), api.BadEnd},
		{bindOp(tie("p", 1, 1)), api.BadEnd},
		{bindOp(tie("q", 1, 1)), api.BadEnd},
		{bindOp(tie("r", 2, 1)), api.BadEnd},
		{newOp(node(3, "b", "k=3,x=true")), api.TooFew},
		{looseOp(tie("r", 9, 9)), api.TooFew},
		{bindOp(tie("p", 4, 9)), api.TooMany},
	}
	for _, c := range cases {
		made, err := delta.Do(doGraph(), c.o)
		if err != nil {
			t.Errorf("Do(%v) of the graph alone: %v", c.o, err)
		}
		if l, err := check.Faults(s, made); err != nil || len(l) == 0 || !slices.ContainsFunc(l, func(f api.Fault) bool { return f.What == c.what }) {
			t.Errorf("Do(%v) is to bring the fault %d: %v, %v", c.o, c.what, l, err)
		}
		testNotDone(t, x, s, c.o, api.ErrBreak)
	}
}

// TestDoGoneBreak: I2, a node that may not go, as with its ties another one has too few.
func TestDoGoneBreak(t *testing.T) {
	s := made("kind a\nkind b\nbond p a b 1 2\n")
	g := with(nodes(node(1, "a", "-"), node(2, "b", "-"), node(3, "b", "-")), tie("p", 1, 2))
	x := madeIndex(t, s, g)
	testNotDone(t, x, s, gone(2), api.ErrBreak)
	testNotDone(t, x, s, looseOp(tie("p", 1, 2)), api.ErrBreak)
	testDone(t, x, s, bindOp(tie("p", 1, 3)))
	testDone(t, x, s, gone(2))
	testNotDone(t, x, s, gone(3), api.ErrBreak)
	testDone(t, x, s, gone(1))
	testDone(t, x, s, gone(3))
	// It may not come again, as it would come without a tie.
	testNotDone(t, x, s, newOp(node(1, "a", "-")), api.ErrBreak)
}

// wantDo is what Do answers of a graph, and what the graph is then.
func wantDo(s api.Schema, g api.Graph, o api.Op) (api.Graph, api.Errno) {
	done, err := delta.Do(g, o)
	if err != nil {
		return g, told(err)
	}
	if l, err := check.Faults(s, done); len(l) > 0 || err != nil {
		return g, api.ErrBreak
	}
	return done, api.OK
}

// testWanted asks Do for what wantDo has, and then for all else; it gives the graph back.
func testWanted(t *testing.T, x *Index, s api.Schema, g api.Graph, o api.Op) api.Graph {
	t.Helper()
	want, wrong := wantDo(s, g, o)
	if err := x.Do(o); told(err) != wrong {
		t.Fatalf("Do(%v) of %v by %v: got %v, want %v", o, g, s, err, wrong)
	}
	testAnswers(t, x, s, want)
	return want
}

// smallOps has ops on the nodes 1 to 3.
func smallOps() (l []api.Op) {
	for id := 1; id <= 3; id++ {
		l = append(l, gone(id), unset(id, "k"), set(id, "k", number(1)), set(id, "k", number(2)), set(id, "k", number(3)), set(id, "m", words("u")))
		for _, kind := range []string{"a", "b", "c"} {
			l = append(l, newOp(node(id, kind, "-")), newOp(node(id, kind, "k=1")), newOp(node(id, kind, "k=3")))
		}
		for to := 1; to <= 3; to++ {
			l = append(l, bindOp(tie("p", id, to)), looseOp(tie("p", id, to)))
		}
	}
	return l
}

// TestAllSmall: I1 and I2, all graphs of up to three nodes of some forms, with some ties, and each of some ops on them.
func TestAllSmall(t *testing.T) {
	s := made("kind a k:int*\nkind b of a m:text\nkind c\nbond p a a 0 1\n")
	forms := []api.Node{{}, node(0, "a", "k=1"), node(0, "a", "k=2"), node(0, "b", "k=1"), node(0, "b", "k=2,m='u'"), node(0, "c", "-")}
	someTies := [][]api.Tie{nil, {tie("p", 1, 1)}, {tie("p", 1, 2)}, {tie("p", 3, 1)}, {tie("p", 1, 3), tie("p", 2, 3)}, {tie("p", 1, 2), tie("p", 2, 1), tie("p", 3, 3)}}
	ops := smallOps()
	for form := range len(forms) * len(forms) * len(forms) {
		for _, ties := range someTies {
			g := with(api.Graph{}, ties...)
			for id, left := 1, form; id <= 3; id, left = id+1, left/len(forms) {
				if n := forms[left%len(forms)]; n.Kind != "" {
					n.Id = id
					g.Nodes = append(g.Nodes, n)
				}
			}
			if is, err := check.Conforms(s, g); !is || err != nil {
				testNewWrong(t, s, g, api.ErrBreak)
				continue
			}
			testAnswers(t, madeIndex(t, s, g), s, g)
			for _, o := range ops {
				testWanted(t, madeIndex(t, s, g), s, g, o)
			}
		}
	}
}

// longSchema bounds little, so that many ops are done.
func longSchema() api.Schema {
	return made("kind a k:int* m:text\nkind b of a x:bool\nkind c\nkind d of b,c\nbond p c a 0 2\nbond q a a 0 any\nbond r a c 0 any\n")
}

// someOp is any op on a graph, of which most go together with longSchema.
func someOp(r *rand.Rand, g api.Graph) api.Op {
	pick := func(l ...string) string { return l[r.Intn(len(l))] }
	id := func() int { return 1 + r.Intn(7) }
	whats := []int{api.New, api.New, api.Gone, api.Set, api.Set, api.Unset, api.Bind, api.Bind, api.Bind, api.Loose}
	v := []api.Value{number(r.Intn(12)), number(r.Intn(12)), truth(r.Intn(2)), words(pick("", "u", "1"))}[r.Intn(4)]
	o := api.Op{What: whats[r.Intn(len(whats))], Prop: prop(pick("k", "m", "x"), v), Tie: tie(pick("p", "q", "r"), id(), id())}
	if o.What == api.Loose && len(g.Ties) > 0 {
		o.Tie = g.Ties[r.Intn(len(g.Ties))]
	}
	o.Node = api.Node{Id: id(), Kind: pick("a", "b", "c", "d")}
	if o.Node.Kind != "c" {
		o.Node.Record = append(o.Node.Record, prop("k", number(r.Intn(12))))
	}
	if r.Intn(3) == 0 && o.Node.Kind != "c" {
		o.Node.Record = append(o.Node.Record, prop("m", words(pick("", "u"))))
	}
	return o
}

// TestLong: I2, many ops one after the other, with and without errors; the source of numbers is the same each time.
func TestLong(t *testing.T) {
	s := longSchema()
	r := rand.New(rand.NewSource(8))
	done, broken := [7]int{}, 0
	for range 10 {
		g := api.Graph{}
		x := madeIndex(t, s, g)
		for range 400 {
			o := someOp(r, g)
			_, wrong := wantDo(s, g, o)
			if wrong == api.OK {
				done[o.What]++
			}
			if wrong == api.ErrBreak {
				broken++
			}
			g = testWanted(t, x, s, g, o)
		}
	}
	if broken < 100 || slices.Min(done[1:]) < 20 {
		t.Errorf("too few ops were done, or broken off: %v, %d", done, broken)
	}
}
