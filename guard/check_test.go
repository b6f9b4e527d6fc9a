package guard

import (
	"math/rand"
	"slices"
	"testing"

	"kinshape/api"
	"kinshape/check"
)

// faulty has ops on someGraph, and what is wrong by someSchema then.
type faulty struct {
	l    []api.Op
	want []api.Fault
}

func wrong(l []api.Op, want ...api.Fault) faulty { return faulty{l, want} }

// faultyOps has each fault of chapter 6, brought by each What that may bring it.
func faultyOps() []faulty {
	return []faulty{
		wrong(ops(newOp(node(3, "zz", "-"))), fault(api.BadKind, 3, "zz")),
		wrong(ops(newOp(node(3, "zz", "k=1,zz=1"))), fault(api.BadKind, 3, "zz")),
		wrong(ops(newOp(node(3, "a", "k=3,zz=1"))), fault(api.BadField, 3, "zz")),
		wrong(ops(newOp(node(3, "c", "k=3"))), fault(api.BadField, 3, "k")),
		wrong(ops(newOp(node(3, "a", "k=3,m=1"))), fault(api.BadField, 3, "m")),
		wrong(ops(set(1, "zz", number(1))), fault(api.BadField, 1, "zz")),
		wrong(ops(set(1, "x", truth(1))), fault(api.BadField, 1, "x")),
		wrong(ops(set(1000, "m", number(1))), fault(api.BadField, 1000, "m")),
		wrong(ops(set(5, "k", truth(1))), fault(api.BadField, 5, "k")),
		wrong(ops(newOp(node(3, "a", "m='u'"))), fault(api.NoField, 3, "k")),
		wrong(ops(unset(1, "k")), fault(api.NoField, 1, "k")),
		wrong(ops(unset(2, "x")), fault(api.NoField, 2, "x")),
		wrong(ops(unset(9, "k")), fault(api.NoField, 9, "k")),
		wrong(ops(newOp(node(10, "a", "k=5"))), fault(api.SameKey, 10, "k")),
		wrong(ops(newOp(node(3, "a", "k=9"))), fault(api.SameKey, 9, "k")),
		wrong(ops(set(5, "k", number(2))), fault(api.SameKey, 5, "k")),
		wrong(ops(set(1, "k", number(9))), fault(api.SameKey, 9, "k")),
		wrong(ops(bindOp(tie("zz", 1, 1))), fault(api.BadBond, 1, "zz")),
		wrong(ops(bindOp(tie("a", 7, 8))), fault(api.BadBond, 7, "a")),
		wrong(ops(bindOp(tie("p", 4, 4)), looseOp(tie("p", 4, 1))), fault(api.BadEnd, 4, "p")),
		wrong(ops(bindOp(tie("q", 3, 4))), fault(api.BadEnd, 3, "q")),
		wrong(ops(bindOp(tie("q", 1, 3))), fault(api.BadEnd, 1, "q")),
		wrong(ops(bindOp(tie("p", 1, 1))), fault(api.BadEnd, 1, "p")),
		wrong(ops(newOp(node(3, "b", "k=3,x=true"))), fault(api.TooFew, 3, "r")),
		wrong(ops(looseOp(tie("r", 9, 9))), fault(api.TooFew, 9, "r")),
		wrong(ops(looseOp(tie("r", 2, 2)), gone(9)), fault(api.TooFew, 2, "r")),
		wrong(ops(bindOp(tie("p", 4, 9))), fault(api.TooMany, 4, "p")),
	}
}

// severalFaults has ops with more than one fault, in the order of chapter 6, whatever the order of the ops.
func severalFaults() []faulty {
	return []faulty{
		wrong(ops(bindOp(tie("zz", 1, 1)), unset(9, "x"), set(1, "zz", number(1))), fault(api.BadField, 1, "zz"), fault(api.NoField, 9, "x"), fault(api.BadBond, 1, "zz")),
		wrong(ops(newOp(node(3, "b", "k=1,m=7"))), fault(api.BadField, 3, "m"), fault(api.SameKey, 3, "k"), fault(api.NoField, 3, "x"), fault(api.TooFew, 3, "r")),
		wrong(ops(set(1000, "k", number(9)), set(5, "k", number(9))), fault(api.SameKey, 9, "k"), fault(api.SameKey, 1000, "k")),
		wrong(ops(gone(1), newOp(node(1, "zz", "-")), bindOp(tie("q", 1, 4))), fault(api.BadKind, 1, "zz"), fault(api.BadEnd, 1, "q")),
		wrong(ops(bindOp(tie("p", 4, 7)), bindOp(tie("p", 4, 8))), fault(api.TooMany, 4, "p"), fault(api.BadEnd, 4, "p"), fault(api.BadEnd, 4, "p")),
		wrong(ops(newOp(node(7, "yy", "-")), newOp(node(3, "zz", "-")), newOp(node(6, "yy", "-"))), fault(api.BadKind, 3, "zz"), fault(api.BadKind, 6, "yy"), fault(api.BadKind, 7, "yy")),
		// A fault that an op brings, and one that another op leaves.
		wrong(ops(unset(1, "k"), unset(2, "x"), set(1, "k", number(1))), fault(api.NoField, 2, "x")),
		wrong(ops(unset(1, "k"), gone(1), looseOp(tie("r", 9, 9))), fault(api.TooFew, 9, "r")),
	}
}

// TestCheckFaults: G1, the faults of what ops make: each one, and several; May then is false.
func TestCheckFaults(t *testing.T) {
	var seen [api.TooMany + 1]int
	for _, c := range slices.Concat(faultyOps(), severalFaults()) {
		testFaults(t, someSchema(), someGraph(), c.l, c.want...)
		for _, f := range c.want {
			seen[f.What]++
		}
	}
	for what := api.BadKind; what <= api.TooMany; what++ {
		if seen[what] == 0 {
			t.Errorf("no ops bring the fault %d", what)
		}
	}
}

// TestCheckNoFaults: G1, with no ops, and with ops behind which it conforms; May then is true.
func TestCheckNoFaults(t *testing.T) {
	s, g := someSchema(), someGraph()
	testFaults(t, api.Schema{}, api.Graph{}, nil)
	testFaults(t, s, api.Graph{}, nil)
	testFaults(t, s, api.Graph{Nodes: []api.Node{}, Ties: []api.Tie{}}, []api.Op{})
	testFaults(t, s, g, nil)
	testFaults(t, fullSchema(), fullGraph(), nil)
	for _, l := range [][]api.Op{
		ops(newOp(node(3, "a", "k=3"))),
		ops(gone(1)),
		ops(gone(9)),
		ops(set(1, "m", words(""))),
		ops(unset(2, "m")),
		ops(bindOp(tie("q", 5, 9))),
		ops(looseOp(tie("p", 4, 1))),
		ops(newOp(node(3, "d", "k=3,m='',x=true")), bindOp(tie("r", 3, 9)), bindOp(tie("p", 3, 3)), looseOp(tie("r", 2, 2)), set(3, "k", number(77)), unset(3, "m")),
		ops(gone(1), gone(2), gone(4), gone(5), gone(9), gone(1000)),
		fullOps(40),
	} {
		testFaults(t, s, g, l)
	}
	testFaults(t, s, api.Graph{}, ops(newOp(node(1, "c", "-")), newOp(node(7, "a", "k=0")), bindOp(tie("p", 1, 7))))
	testFaults(t, fullSchema(), fullGraph(), ops(gone(60), newOp(node(60, "a", "-")), looseOp(tie("p", 1, 1)), bindOp(tie("p", 60, 60))))
}

// TestCheckBetween: G1, what does not conform on the way is not told, if it conforms behind the last op.
func TestCheckBetween(t *testing.T) {
	s, g := someSchema(), someGraph()
	for _, l := range [][]api.Op{
		ops(newOp(node(3, "zz", "-")), gone(3)),
		ops(set(1, "zz", number(1)), set(5, "m", words("v")), unset(1, "zz")),
		ops(set(1, "k", words("u")), set(1, "k", number(1))),
		ops(unset(2, "x"), bindOp(tie("q", 5, 4)), set(2, "x", truth(0))),
		ops(set(1, "k", number(5)), set(5, "k", number(1))),
		ops(bindOp(tie("zz", 1, 1)), looseOp(tie("zz", 1, 1))),
		ops(bindOp(tie("q", 3, 4)), newOp(node(3, "a", "k=3"))),
		ops(bindOp(tie("p", 1, 1)), gone(1)),
		ops(newOp(node(3, "b", "k=3,x=true")), bindOp(tie("r", 3, 2))),
		ops(looseOp(tie("r", 9, 9)), bindOp(tie("r", 9, 2))),
		ops(bindOp(tie("p", 4, 9)), looseOp(tie("p", 4, 1))),
		ops(set(1, "m", words("")), gone(4), newOp(node(4, "zz", "-")), gone(4), newOp(node(4, "c", "-"))),
	} {
		if !breaksBetween(s, g, l) {
			t.Errorf("%v is to break something on the way", l)
		}
		testFaults(t, s, g, l)
	}
	// Whatever ops break is whole again, when they are turned.
	for _, c := range slices.Concat(faultyOps(), severalFaults()) {
		testFaults(t, s, g, slices.Concat(c.l, ops(set(1000, "m", words("w"))), turned(t, g, c.l)))
	}
}

// breaksBetween tells whether something that some of the ops make, but not all, does not conform.
func breaksBetween(s api.Schema, g api.Graph, l []api.Op) bool {
	for i := range l {
		between, _ := plainAll(g, l[:i])
		if is, err := check.Conforms(s, between); !is && err == nil {
			return true
		}
	}
	return false
}

// TestCheckSchemaFirst: G1, the schema's error is told ahead of all else that is wrong.
func TestCheckSchemaFirst(t *testing.T) {
	for _, c := range badSchemas() {
		for _, l := range someLists() {
			testWrong(t, c.s, api.Graph{}, l, c.want)
			testWrong(t, c.s, someGraph(), l, c.want)
			for _, b := range badGraphs() {
				testWrong(t, c.s, b.g, l, c.want)
			}
		}
	}
}

// TestCheckGraphSecond: G1, the graph's error, whether it would conform or not, and whatever the ops are.
func TestCheckGraphSecond(t *testing.T) {
	for _, b := range badGraphs() {
		for _, s := range []api.Schema{{}, made("kind a\nbond p a a 0 any\n"), someSchema()} {
			for _, l := range someLists() {
				testWrong(t, s, b.g, l, b.want)
			}
		}
	}
}

// TestCheckState: G1, a graph that does not conform, by each fault, whatever the ops are, even if behind them it would conform.
func TestCheckState(t *testing.T) {
	s := someSchema()
	for _, c := range slices.Concat(faultyOps(), severalFaults()) {
		g, _ := plainAll(someGraph(), c.l)
		if l, err := check.Faults(s, g); !slices.Equal(l, c.want) || err != nil {
			t.Errorf("%v is to have the faults %v: %v, %v", g, c.want, l, err)
		}
		for _, l := range someLists() {
			testWrong(t, s, g, l, api.ErrState)
		}
		testWrong(t, s, g, turned(t, someGraph(), c.l), api.ErrState)
		testWrong(t, api.Schema{}, g, nil, api.ErrState)
	}
	testWrong(t, api.Schema{}, someGraph(), nil, api.ErrState)
	testWrong(t, made("kind a\n"), ids(1, 2), ops(gone(7)), api.ErrNone)
	testWrong(t, made("kind b\n"), ids(1, 2), ops(gone(7)), api.ErrState)
	testWrong(t, made("kind b\n"), ids(1, 2), ops(gone(1), gone(2)), api.ErrState)
}

// TestCheckOps: G1, each error of chapter 7's All, at each place, ahead of the faults that other ops bring.
func TestCheckOps(t *testing.T) {
	s, g := someSchema(), someGraph()
	free, more := set(1000, "m", words("w")), newOp(node(8, "zz", "-"))
	for _, b := range badOps() {
		testWrong(t, s, g, ops(b.o), b.want)
		testWrong(t, s, g, ops(free, b.o), b.want)
		testWrong(t, s, g, ops(b.o, free), b.want)
		testWrong(t, s, g, ops(more, b.o), b.want)
		testWrong(t, s, g, ops(b.o, more), b.want)
		// The first op's error is told.
		for _, other := range badOps() {
			testWrong(t, s, g, ops(free, b.o, other.o), b.want)
		}
		l := fullOps(40)
		l[39] = b.o
		testWrong(t, s, g, l, b.want)
		// Ahead of them all: there are too many.
		testWrong(t, s, g, append(ops(b.o), fullOps(40)...), api.ErrFull)
		testWrong(t, s, g, append(fullOps(40), b.o), api.ErrFull)
	}
	// Errors of what ops ahead have made.
	testWrong(t, s, g, ops(gone(4), looseOp(tie("q", 1, 4))), api.ErrNone)
	testWrong(t, s, g, ops(gone(4), gone(4)), api.ErrNone)
	testWrong(t, s, g, ops(newOp(node(3, "a", "k=3")), newOp(node(3, "a", "k=4"))), api.ErrClash)
	testWrong(t, fullSchema(), fullGraph(), ops(newOp(node(61, "a", "-"))), api.ErrFull)
	testWrong(t, fullSchema(), fullGraph(), ops(bindOp(tie("p", 60, 60))), api.ErrFull)
	testWrong(t, fullSchema(), fullGraph(), ops(set(1, "i", number(1))), api.ErrFull)
}

// TestMaxOps: G1, as many ops as may be, and more: All's ErrFull is behind the schema's, the graph's and ErrState in Check, and ahead of the graph's in Touched.
func TestMaxOps(t *testing.T) {
	s, g := someSchema(), someGraph()
	for n := range 41 {
		testFaults(t, s, g, fullOps(n))
		if n > 0 {
			testTouched(t, g, fullOps(n), 1)
		}
	}
	broken, _ := plainAll(g, ops(unset(1, "k")))
	for _, n := range []int{41, 42, 80, 1000} {
		for _, l := range [][]api.Op{fullOps(n), make([]api.Op, n)} {
			testWrong(t, s, g, l, api.ErrFull)
			testWrong(t, s, broken, l, api.ErrState)
			testWrong(t, made("kind a\nkind b\n"), nodes(node(2000, "a", "-")), l, api.ErrRange)
			testWrong(t, api.Schema{Kinds: make([]api.Kind, 1)}, broken, l, api.ErrSyntax)
			testUntouched(t, g, l, api.ErrFull)
			testUntouched(t, broken, l, api.ErrFull)
			for _, b := range badGraphs() {
				testUntouched(t, b.g, l, api.ErrFull)
			}
		}
	}
}

// someLists has lists of ops, with and without errors.
func someLists() [][]api.Op {
	return [][]api.Op{nil, {}, ops(gone(1)), ops(gone(1), gone(1)), ops(newOp(node(3, "zz", "-"))), ops(api.Op{}), ops(bindOp(tie("P", 0, 0))), fullOps(41), make([]api.Op, 41)}
}

// smallOps has ops on the nodes 1 to 3.
func smallOps() (l []api.Op) {
	for id := 1; id <= 3; id++ {
		l = append(l, gone(id), unset(id, "k"), set(id, "k", number(1)), set(id, "k", number(3)), newOp(node(id, "a", "k=1")), newOp(node(id, "b", "k=3")))
		l = append(l, bindOp(tie("p", id, 1)), bindOp(tie("p", id, id%3+1)), looseOp(tie("p", id, 1)), looseOp(tie("p", id, 2)))
	}
	return append(l, newOp(node(2, "c", "-")), newOp(node(3, "zz", "-")), set(1, "m", words("u")), bindOp(tie("zz", 1, 2)))
}

// smallGraphs has all graphs of up to three nodes of some forms, with some ties, whether they conform or not.
func smallGraphs() (l []api.Graph) {
	forms := []api.Node{{}, node(0, "a", "k=1"), node(0, "a", "k=2"), node(0, "b", "k=3,m='u'"), node(0, "c", "-")}
	someTies := [][]api.Tie{nil, {tie("p", 1, 1)}, {tie("p", 1, 2)}, {tie("p", 1, 2), tie("p", 2, 1), tie("p", 3, 3)}, {tie("p", 3, 1)}, {tie("p", 1, 3), tie("p", 2, 3)}}
	for form := range len(forms) * len(forms) * len(forms) {
		for _, ties := range someTies {
			g := with(api.Graph{}, ties...)
			for id, left := 1, form; id <= 3; id, left = id+1, left/len(forms) {
				if n := forms[left%len(forms)]; n.Kind != "" {
					n.Id = id
					g.Nodes = append(g.Nodes, n)
				}
			}
			l = append(l, g)
		}
	}
	return l
}

// TestAllSmall: G1, all small graphs, each small op on those that conform, and all pairs of small ops on every fourth of them, against the plain tellings.
func TestAllSmall(t *testing.T) {
	s := made("kind a k:int*\nkind b of a m:text\nkind c\nbond p a a 0 1\n")
	small := smallOps()
	conforming := 0
	for _, g := range smallGraphs() {
		testPlainly(t, s, g, nil)
		if is, err := check.Conforms(s, g); !is || err != nil {
			testWrong(t, s, g, small, api.ErrState)
			continue
		}
		conforming++
		for _, first := range small {
			testPlainly(t, s, g, ops(first))
			if conforming%4 != 0 {
				continue
			}
			for _, second := range small {
				testPlainly(t, s, g, ops(first, second))
			}
		}
	}
	if conforming < 80 {
		t.Errorf("of the small graphs only %d conform", conforming)
	}
}

// someOp is any op on a graph, of which most may be done.
func someOp(r *rand.Rand, g api.Graph) api.Op {
	pick := func(l ...string) string { return l[r.Intn(len(l))] }
	id := func() int {
		if len(g.Nodes) > 0 && r.Intn(4) > 0 {
			return g.Nodes[r.Intn(len(g.Nodes))].Id
		}
		return 1 + r.Intn(12)
	}
	whats := []int{api.New, api.New, api.Gone, api.Set, api.Unset, api.Bind, api.Bind, api.Bind, api.Loose}
	o := api.Op{What: whats[r.Intn(len(whats))], Prop: prop(pick("k", "m"), number(r.Intn(30))), Tie: tie(pick("p", "q"), id(), id())}
	o.Node = api.Node{Id: id(), Kind: pick("a", "b", "c")}
	if o.What == api.New {
		o.Node.Id = 1 + r.Intn(12)
	}
	if o.Node.Kind != "c" {
		o.Node.Record = api.Record{prop("k", number(r.Intn(30)))}
	}
	if o.What == api.Loose && len(g.Ties) > 0 {
		o.Tie = g.Ties[r.Intn(len(g.Ties))]
	}
	return o
}

// someRow has n ops that may be done one after the other.
func someRow(r *rand.Rand, g api.Graph, n int) (l []api.Op) {
	for len(l) < n {
		o := someOp(r, g)
		if next, wrong := plainAll(g, ops(o)); wrong == api.OK {
			g, l = next, append(l, o)
		}
	}
	return l
}

// TestLong: G1, long rows of ops, against the plain tellings; the source of numbers is the same each time. Where what comes conforms, the next row begins.
func TestLong(t *testing.T) {
	s := made("kind a k:int* m:int\nkind b of a\nkind c\nbond p a a 0 any\nbond q a c 0 2\n")
	r := rand.New(rand.NewSource(9))
	g := api.Graph{}
	may, faults := 0, 0
	for range 1500 {
		l := someRow(r, g, 1+r.Intn(12))
		testPlainly(t, s, g, l)
		if is, _ := May(s, g, l); is {
			g, _ = plainAll(g, l)
			may++
		} else {
			faults++
		}
	}
	for range 300 {
		testPlainly(t, s, g, someRow(r, g, 40))
	}
	if may < 50 || faults < 50 {
		t.Errorf("too few rows may be done, or may not: %d, %d", may, faults)
	}
}
