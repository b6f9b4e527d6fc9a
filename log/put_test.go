package log

import (
	"slices"
	"strings"
	"testing"

	"kinshape/api"
	"kinshape/check"
	"kinshape/delta"
)

// TestPut: L1, each What, several ops, one behind the other, and none at all; what comes is their graph, of the same schema.
func TestPut(t *testing.T) {
	s := someSchema()
	x := made(t, s)
	for _, c := range []struct {
		l    []api.Op
		want string
	}{
		{nil, ""},
		{ops(newOp(node(5, "a", "k=1"))), "5 a k=1"},
		{ops(newOp(node(2, "c", "-")), newOp(node(9, "c", "-"))), "2 c -; 5 a k=1; 9 c -"},
		{ops(bind("q", 5, 9)), "2 c -; 5 a k=1; 9 c -; q 5 9"},
		{ops(bind("q", 5, 2), bind("p", 2, 5)), "2 c -; 5 a k=1; 9 c -; p 2 5; q 5 2; q 5 9"},
		{ops(set(5, "m", words("it's"))), "2 c -; 5 a k=1,m='it''s'; 9 c -; p 2 5; q 5 2; q 5 9"},
		{ops(set(5, "k", number(-1_000_000))), "2 c -; 5 a k=-1000000,m='it''s'; 9 c -; p 2 5; q 5 2; q 5 9"},
		{ops(unset(5, "m")), "2 c -; 5 a k=-1000000; 9 c -; p 2 5; q 5 2; q 5 9"},
		{ops(), "2 c -; 5 a k=-1000000; 9 c -; p 2 5; q 5 2; q 5 9"},
		{ops(loose("q", 5, 2)), "2 c -; 5 a k=-1000000; 9 c -; p 2 5; q 5 9"},
		// What is between does not conform, but what comes does.
		{ops(newOp(node(1, "b", "-")), bind("r", 1, 1), set(1, "k", number(3)), set(1, "x", truth(1))), "1 b k=3,x=true; 2 c -; 5 a k=-1000000; 9 c -; p 2 5; q 5 9; r 1 1"},
		{ops(bind("zz", 7, 7), newOp(node(6, "zz", "-")), gone(6), loose("zz", 7, 7)), "1 b k=3,x=true; 2 c -; 5 a k=-1000000; 9 c -; p 2 5; q 5 9; r 1 1"},
		{ops(gone(9)), "1 b k=3,x=true; 2 c -; 5 a k=-1000000; p 2 5; r 1 1"},
		{ops(gone(1), gone(2), gone(5)), ""},
	} {
		testGoesTo(t, x, put(c.l...), s, web(c.want))
	}
}

// TestPutMost: L1, as many ops, nodes and ties as there may be.
func TestPutMost(t *testing.T) {
	s := plan("kind a; bond p a a 0 any")
	x := made(t, s)
	var g api.Graph
	for i := range api.MaxNodes {
		g.Nodes = append(g.Nodes, node(i+1, "a", "-"))
	}
	for i := range api.MaxTies {
		g.Ties = append(g.Ties, tie("p", i/10+1, i%10+1))
	}
	for l := range slices.Chunk(making(g), api.MaxOps) {
		testGoes(t, x, put(l...))
	}
	testIs(t, x, s, g)
	testNo(t, x, put(newOp(node(61, "a", "-"))), api.ErrFull)
	testNo(t, x, put(bind("p", 60, 60)), api.ErrFull)
	testGoes(t, x, put(gone(60), newOp(node(1000, "a", "-")), loose("p", 1, 1), bind("p", 1000, 1000)))
	// MaxOps and one more.
	testGoes(t, x, put(slices.Repeat(ops(set(1, "k", number(1)), unset(1, "k")), 20)...))
	testNo(t, x, put(append(slices.Repeat(ops(set(1, "k", number(1)), unset(1, "k")), 20), loose("p", 1, 2))...), api.ErrFull)
}

type badOp struct {
	o    api.Op
	want api.Errno
}

// badOps has an op of each What with each error that chapter 7 has of one on someGraph.
func badOps() []badOp {
	record := func(l ...api.Prop) api.Op { return newOp(api.Node{Id: 8, Kind: "a", Record: l}) }
	l := []badOp{
		{newOp(node(0, "a", "k=8")), api.ErrRange}, {newOp(node(1001, "a", "k=8")), api.ErrRange},
		{newOp(node(8, "A", "k=8")), api.ErrSyntax}, {newOp(node(8, "", "k=8")), api.ErrSyntax},
		{record(make(api.Record, 9)...), api.ErrFull},
		{record(prop("K", number(1))), api.ErrSyntax},
		{record(prop("k", api.Value{})), api.ErrType},
		{record(prop("k", number(1_000_001))), api.ErrRange},
		{record(prop("m", words(strings.Repeat("u", 21)))), api.ErrFull},
		{record(prop("m", words("\n"))), api.ErrSyntax},
		{record(prop("k", number(1)), prop("k", number(1))), api.ErrClash},
		{newOp(node(5, "a", "k=8")), api.ErrClash},
		{gone(8), api.ErrNone}, {gone(0), api.ErrNone},
		{set(8, "k", number(1)), api.ErrNone}, {set(1, "K", number(1)), api.ErrSyntax}, {set(1, "m", api.Value{}), api.ErrType}, {set(1, "k", number(-1_000_001)), api.ErrRange},
		{unset(8, "k"), api.ErrNone}, {unset(1, "x"), api.ErrNone},
		{bind("P", 4, 1), api.ErrSyntax}, {bind("p", 0, 1), api.ErrRange}, {bind("p", 4, 1001), api.ErrRange}, {bind("p", 4, 1), api.ErrClash},
		{loose("p", 1, 4), api.ErrNone}, {loose("q", 4, 1), api.ErrNone},
	}
	for _, what := range []int{0, -1, 7, 256 + api.New, 1<<32 + api.Bind} {
		l = append(l, badOp{api.Op{What: what, Node: node(8, "a", "k=8"), Tie: tie("q", 1, 9)}, api.ErrRange})
	}
	return l
}

// TestPutWrong: L1, chapter 7's All's error, of an op at the first, a middle and the last place, behind which nothing of the others is done.
func TestPutWrong(t *testing.T) {
	x := filled(t)
	right := ops(set(1, "m", words("w")), bind("q", 1, 9), unset(5, "m"))
	for _, b := range badOps() {
		testNo(t, x, put(b.o), b.want)
		for at := range 4 {
			testNo(t, x, put(slices.Insert(slices.Clone(right), at, b.o)...), b.want)
		}
		// It is told ahead of what does not conform, and of one behind it.
		for _, f := range faultyPuts() {
			testNo(t, x, put(b.o, f.l[0]), b.want)
			testNo(t, x, put(append(slices.Clone(f.l), b.o)...), b.want)
		}
		testNo(t, x, put(b.o, api.Op{}, gone(7)), b.want)
		testNo(t, x, put(slices.Repeat(ops(b.o), 41)...), api.ErrFull)
	}
	testGoes(t, x, put(right...))
	// A record that is full.
	s := plan("kind a aa:int b:int c:int d:int e:int f:int g:int h:int")
	x = played(t, s, put(newOp(node(1, "a", "aa=1,b=1,c=1,d=1,e=1,f=1,g=1,h=1"))))
	testNo(t, x, put(set(1, "i", number(1))), api.ErrFull)
	testGoes(t, x, put(set(1, "h", number(2))))
}

// faultyPut has ops that give someGraph one fault, and what mends it.
type faultyPut struct {
	what int
	l    []api.Op
	mend api.Op
}

// faultyPuts has each fault of chapter 6.
func faultyPuts() []faultyPut {
	return []faultyPut{
		{api.BadKind, ops(newOp(node(3, "zz", "-"))), gone(3)},
		{api.BadField, ops(set(4, "k", number(9))), unset(4, "k")},
		{api.BadField, ops(set(1, "m", number(9))), set(1, "m", words("9"))},
		{api.NoField, ops(unset(1, "k")), set(1, "k", number(7))},
		{api.NoField, ops(newOp(node(3, "a", "m='u'"))), set(3, "k", number(7))},
		{api.SameKey, ops(set(1, "k", number(5))), set(5, "k", number(1))},
		{api.SameKey, ops(newOp(node(3, "d", "k=1,x=true")), bind("r", 3, 3)), gone(3)},
		{api.BadBond, ops(bind("zz", 1, 1)), loose("zz", 1, 1)},
		{api.BadEnd, ops(bind("p", 1, 5)), gone(5)},
		{api.BadEnd, ops(bind("q", 1, 3)), newOp(node(3, "c", "-"))},
		{api.TooFew, ops(loose("r", 9, 9)), bind("r", 9, 2)},
		{api.TooFew, ops(newOp(node(3, "b", "k=3,x=false"))), bind("r", 3, 9)},
		{api.TooMany, ops(bind("p", 4, 9)), gone(5)},
	}
}

// TestPutBreak: L1, ErrBreak: what comes does not conform, by each fault.
func TestPutBreak(t *testing.T) {
	for _, f := range faultyPuts() {
		g, _, err := delta.All(someGraph(), f.l)
		faults, _ := check.Faults(someSchema(), g)
		if err != nil || len(faults) != 1 || faults[0].What != f.what {
			t.Errorf("%v is to bring the fault %d alone: %v, %v", f.l, f.what, faults, err)
		}
		x := filled(t)
		testNo(t, x, put(f.l...), api.ErrBreak)
		// What mends it comes too late by itself; together they go.
		together := append(slices.Clone(f.l), f.mend)
		want, _, err := delta.All(someGraph(), together)
		if err != nil {
			t.Errorf("%v are to go: %v", together, err)
		}
		testGoesTo(t, x, put(together...), someSchema(), want)
	}
}

// TestPutStopped: L1, ErrState, when it has stopped, ahead of every other error.
func TestPutStopped(t *testing.T) {
	x := filled(t)
	x.Fail(0)
	if err := x.Sync(); told(err) != api.ErrState {
		t.Errorf("Sync: got %v", err)
	}
	for _, b := range badOps() {
		testNo(t, x, put(b.o), api.ErrState)
	}
	for _, f := range faultyPuts() {
		testNo(t, x, put(f.l...), api.ErrState)
		testNo(t, x, put(append(f.l, f.mend)...), api.ErrState)
	}
	testStopped(t, x)
}

// TestPutRecords: L1, each has at least two bytes, however little it tells, and none with an error has any.
func TestPutRecords(t *testing.T) {
	x := made(t, plan("kind a k:int; bond p a a 0 any"))
	for i := range 50 {
		for _, c := range []step{put(), put(newOp(node(1, "a", "-"))), put(set(1, "k", number(i))), put(set(1, "k", number(i))), put(bind("p", 1, 1)), put(gone(1))} {
			testGoes(t, x, c)
			testNo(t, x, put(gone(2)), api.ErrNone)
			testNo(t, x, put(newOp(node(2, "zz", "-"))), api.ErrBreak)
			testNo(t, x, alter(dropBond("q")), api.ErrNone)
		}
	}
	if x.Safe() != 0 {
		t.Errorf("%d bytes are safe", x.Safe())
	}
}

// TestPutRead: L1 and P2 of DOC.md, what an op has that its What does not read is not kept.
func TestPutRead(t *testing.T) {
	s := plan("kind a k:int; bond p a a 0 any")
	short, wide := made(t, s), made(t, s)
	long := strings.Repeat("long", 1000)
	for _, o := range ops(newOp(node(1, "a", "-")), set(1, "k", number(1)), unset(1, "k"), bind("p", 1, 1), loose("p", 1, 1), gone(1)) {
		testGoes(t, short, put(o))
		more := api.Op{What: o.What, Node: api.Node{Id: o.Node.Id, Kind: long, Record: make(api.Record, 100)}, Prop: prop(o.Prop.Name, words(long)), Tie: tie(long, 7, 7)}
		switch o.What {
		case api.New:
			more.Node = o.Node
		case api.Set:
			more.Prop = o.Prop
		case api.Bind, api.Loose:
			more.Tie = o.Tie
		}
		testGoes(t, wide, put(more))
		testNow(t, wide, allOf(short))
	}
	wide.Crash(wide.Bytes())
	short.Crash(short.Bytes())
	testNow(t, wide, allOf(short))
}
