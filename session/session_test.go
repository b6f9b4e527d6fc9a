package session

import (
	"fmt"
	"math"
	"strings"
	"testing"

	"kinshape/api"
	"kinshape/check"
)

// TestOpen: B1, up to four are open; a fifth is not opened, until one of them is committed or aborted, whichever one.
func TestOpen(t *testing.T) {
	b := base(t, someSchema(), someGraph())
	testNow(t, b, someGraph(), 0)
	testOpen(t, b, 1)
	testNow(t, b, someGraph(), 0, 1)
	testOpen(t, b, 2)
	testOpen(t, b, 3)
	testNow(t, b, someGraph(), 0, 1, 2, 3)
	testOpen(t, b, 4)
	testNow(t, b, someGraph(), 0, 1, 2, 3, 4)
	testNoOpen(t, b)
	testNoOpen(t, b)
	for id := 1; id <= 4; id++ {
		b := begun(t, someSchema(), someGraph(), 4)
		testNoOpen(t, b)
		testCommit(t, b, id, someGraph())
		testOpen(t, b, 5)
		testNoOpen(t, b)
		testAbort(t, b, 5)
		testOpen(t, b, 6)
		testNoOpen(t, b)
	}
	// One that could not be closed leaves no place.
	testDo(t, b, 2, unset(1, "k"))
	testNoCommit(t, b, 2, api.ErrBreak)
	testNoCommit(t, b, 5, api.ErrNone)
	testNoAbort(t, b, 5)
	testNoOpen(t, b)
}

// TestNumbers: B1, the numbers are 1, 2, .., and none is given anew, whatever became of the session that had it.
func TestNumbers(t *testing.T) {
	b := base(t, someSchema(), someGraph())
	for id := 1; id <= 100; id++ {
		testOpen(t, b, id)
		switch id % 3 {
		case 0:
			testAbort(t, b, id)
		case 1:
			testCommit(t, b, id, someGraph())
		default:
			// It stays open until three more have been opened.
			if id > 2 {
				testAbort(t, b, id-3)
			}
		}
	}
	testNow(t, b, someGraph(), 34, 98)
	for id := 1; id < 98; id++ {
		testClosed(t, b, id)
	}
	// Open takes no number, where it has an error.
	b = begun(t, someSchema(), someGraph(), 4)
	for range 10 {
		testNoOpen(t, b)
	}
	testAbort(t, b, 4)
	testOpen(t, b, 5)
	testAbort(t, b, 1)
	testOpen(t, b, 6)
	testNow(t, b, someGraph(), 0, 2, 3, 5, 6)
}

// TestIds: B1, those that are open, rising, in whatever order they are closed.
func TestIds(t *testing.T) {
	b := begun(t, someSchema(), someGraph(), 4)
	testCommit(t, b, 2, someGraph())
	testNow(t, b, someGraph(), 1, 1, 3, 4)
	testOpen(t, b, 5)
	testNow(t, b, someGraph(), 1, 1, 3, 4, 5)
	testAbort(t, b, 4)
	testNow(t, b, someGraph(), 1, 1, 3, 5)
	testAbort(t, b, 1)
	testNow(t, b, someGraph(), 1, 3, 5)
	testOpen(t, b, 6)
	testOpen(t, b, 7)
	testNow(t, b, someGraph(), 1, 3, 5, 6, 7)
	for i, id := range []int{7, 3, 6, 5} {
		testCommit(t, b, id, someGraph())
		testNow(t, b, someGraph(), 2+i, [][]int{{3, 5, 6}, {5, 6}, {5}, {}}[i]...)
	}
}

// TestAge: B1, each commit counts, and nothing else: no Open, no Do, no Abort, and no commit that has an error.
func TestAge(t *testing.T) {
	b := begun(t, someSchema(), someGraph(), 4)
	g := someGraph()
	g.Nodes[0].Record[0].Value.N = 7
	testDo(t, b, 1, set(1, "k", number(7)))
	testDo(t, b, 2, set(1, "k", number(8)))
	testDo(t, b, 3, unset(5, "k"))
	testNow(t, b, someGraph(), 0, 1, 2, 3, 4)
	testNoCommit(t, b, 3, api.ErrBreak)
	testNow(t, b, someGraph(), 0, 1, 2, 3, 4)
	testCommit(t, b, 1, g)
	testNow(t, b, g, 1, 2, 3, 4)
	testNoCommit(t, b, 2, api.ErrLate)
	testNoCommit(t, b, 1, api.ErrNone)
	testNoCommit(t, b, 9, api.ErrNone)
	testNow(t, b, g, 1, 2, 3, 4)
	testAbort(t, b, 2)
	testNow(t, b, g, 1, 3, 4)
	testCommit(t, b, 4, g)
	testNow(t, b, g, 2, 3)
}

// TestNumbersOfNone: B1 and B2, each number that was never given is ErrNone, with no session open, with some and with four.
func TestNumbersOfNone(t *testing.T) {
	for open := range 5 {
		b := begun(t, someSchema(), someGraph(), open)
		for _, id := range append(noNumbers(), open+1, open+2) {
			testClosed(t, b, id)
		}
		testNow(t, b, someGraph(), 0, []int{1, 2, 3, 4}[:open]...)
	}
}

// TestSee: B1, a session sees the graph as it was when it was opened, with its own ops, whatever others do, commit or abort.
func TestSee(t *testing.T) {
	b := begun(t, looseSchema(), web("1 a k=1; 2 a k=2; p 1 2"), 3)
	for id := 1; id <= 3; id++ {
		testSee(t, b, id, web("1 a k=1; 2 a k=2; p 1 2"))
	}
	testDo(t, b, 1, set(1, "k", number(7)))
	testDo(t, b, 2, gone(2))
	testSee(t, b, 1, web("1 a k=7; 2 a k=2; p 1 2"))
	testSee(t, b, 2, web("1 a k=1"))
	testSee(t, b, 3, web("1 a k=1; 2 a k=2; p 1 2"))
	testNow(t, b, web("1 a k=1; 2 a k=2; p 1 2"), 0, 1, 2, 3)
	testCommit(t, b, 1, web("1 a k=7; 2 a k=2; p 1 2"))
	testSee(t, b, 2, web("1 a k=1"))
	testSee(t, b, 3, web("1 a k=1; 2 a k=2; p 1 2"))
	// Opened behind the commit: it sees what came of it.
	testOpen(t, b, 4)
	testSee(t, b, 4, web("1 a k=7; 2 a k=2; p 1 2"))
	testDo(t, b, 3, set(2, "m", words("u")), newOp(node(5, "a", "-")))
	testCommit(t, b, 3, web("1 a k=7; 2 a k=2,m='u'; 5 a -; p 1 2"))
	testSee(t, b, 4, web("1 a k=7; 2 a k=2; p 1 2"))
	testSee(t, b, 2, web("1 a k=1"))
	testOpen(t, b, 5)
	testDo(t, b, 4, loose("p", 1, 2), unset(1, "k"))
	testSee(t, b, 4, web("1 a -; 2 a k=2"))
	testSee(t, b, 5, web("1 a k=7; 2 a k=2,m='u'; 5 a -; p 1 2"))
	// Late, and aborted then: neither one is seen by others.
	testNoCommit(t, b, 2, api.ErrLate)
	testAbort(t, b, 2)
	testSee(t, b, 4, web("1 a -; 2 a k=2"))
	testSee(t, b, 5, web("1 a k=7; 2 a k=2,m='u'; 5 a -; p 1 2"))
	testDo(t, b, 5, bind("q", 5, 5))
	testCommit(t, b, 5, web("1 a k=7; 2 a k=2,m='u'; 5 a -; p 1 2; q 5 5"))
	testSee(t, b, 4, web("1 a -; 2 a k=2"))
	testNow(t, b, web("1 a k=7; 2 a k=2,m='u'; 5 a -; p 1 2; q 5 5"), 3, 4)
}

// TestDoWhats: B1, each What is done to what the session sees, and to nothing else.
func TestDoWhats(t *testing.T) {
	g := web("1 a k=1; 2 a k=2; p 1 2")
	b := begun(t, looseSchema(), g, 2)
	for _, c := range []struct {
		o    api.Op
		want string
	}{
		{newOp(node(3, "a", "k=3,m='u'")), "1 a k=1; 2 a k=2; 3 a k=3,m='u'; p 1 2"},
		{set(3, "k", number(4)), "1 a k=1; 2 a k=2; 3 a k=4,m='u'; p 1 2"},
		{set(1, "m", words("v")), "1 a k=1,m='v'; 2 a k=2; 3 a k=4,m='u'; p 1 2"},
		{unset(3, "m"), "1 a k=1,m='v'; 2 a k=2; 3 a k=4; p 1 2"},
		{bind("q", 3, 1), "1 a k=1,m='v'; 2 a k=2; 3 a k=4; p 1 2; q 3 1"},
		{bind("p", 1, 1), "1 a k=1,m='v'; 2 a k=2; 3 a k=4; p 1 1; p 1 2; q 3 1"},
		{loose("p", 1, 2), "1 a k=1,m='v'; 2 a k=2; 3 a k=4; p 1 1; q 3 1"},
		{gone(1), "2 a k=2; 3 a k=4"},
		{newOp(node(1, "a", "-")), "1 a -; 2 a k=2; 3 a k=4"},
	} {
		testDo(t, b, 2, c.o)
		testSee(t, b, 2, web(c.want))
		testSee(t, b, 1, g)
		testNow(t, b, g, 0, 1, 2)
	}
	testCommit(t, b, 2, web("1 a -; 2 a k=2; 3 a k=4"))
}

type badOp struct {
	o    api.Op
	want api.Errno
}

// badOps has, of each What and of those that are none, each number of an error that an op on someGraph may have.
func badOps() []badOp {
	of := func(l ...api.Prop) api.Op { return newOp(api.Node{Id: 3, Kind: "a", Record: l}) }
	long := words(strings.Repeat("z", 21))
	l := []badOp{
		{newOp(node(0, "a", "k=3")), api.ErrRange}, {newOp(node(1001, "a", "k=3")), api.ErrRange}, {newOp(node(3, "A", "k=3")), api.ErrSyntax},
		{of(make(api.Record, 9)...), api.ErrFull}, {of(prop("K", number(3))), api.ErrSyntax}, {of(prop("k", api.Value{})), api.ErrType}, {of(prop("k", number(1000001))), api.ErrRange},
		{of(prop("k", number(3)), prop("m", long)), api.ErrFull}, {of(prop("m", words("u")), prop("k", number(3))), api.ErrClash}, {newOp(node(1, "a", "k=3")), api.ErrClash},
		{gone(3), api.ErrNone}, {gone(math.MinInt), api.ErrNone},
		{set(3, "k", number(3)), api.ErrNone}, {set(1, "K", number(3)), api.ErrSyntax}, {set(1, "k", api.Value{}), api.ErrType}, {set(1, "k", number(-1000001)), api.ErrRange}, {set(1, "m", long), api.ErrFull}, {set(1, "m", words("\n")), api.ErrSyntax},
		{unset(3, "k"), api.ErrNone}, {unset(1, "m"), api.ErrNone},
		{bind("Q", 1, 4), api.ErrSyntax}, {bind("q", 0, 4), api.ErrRange}, {bind("q", 1, 1001), api.ErrRange}, {bind("q", 1, 4), api.ErrClash},
		{loose("q", 4, 1), api.ErrNone}, {loose("", 0, 0), api.ErrNone},
		// With several errors.
		{newOp(api.Node{Id: 0, Kind: "A", Record: make(api.Record, 9)}), api.ErrRange}, {newOp(api.Node{Id: 1, Kind: "A", Record: make(api.Record, 9)}), api.ErrSyntax}, {newOp(api.Node{Id: 1, Kind: "a", Record: make(api.Record, 9)}), api.ErrFull},
		{set(3, "K", api.Value{}), api.ErrNone}, {set(1, "K", api.Value{}), api.ErrSyntax}, {bind("Q", 0, 0), api.ErrSyntax},
	}
	for _, what := range []int{0, -1, -6, 7, 8, 256, 257, 1<<32 + 1, math.MaxInt, math.MinInt} {
		l = append(l, badOp{api.Op{What: what, Node: node(3, "a", "k=3"), Prop: prop("k", number(3)), Tie: tie("q", 5, 4)}, api.ErrRange})
	}
	return l
}

// TestDoWrong: B1, each error of chapter 7's Do, behind which what is seen is as it was, and of which nothing is committed.
func TestDoWrong(t *testing.T) {
	b := begun(t, someSchema(), someGraph(), 2)
	for _, c := range badOps() {
		testNoDo(t, b, 1, c.o, c.want)
	}
	testDo(t, b, 1, set(1000, "m", words("w")))
	for _, c := range badOps() {
		testNoDo(t, b, 1, c.o, c.want)
	}
	want := someGraph()
	want.Nodes[5] = node(1000, "a", "k=0,m='w'")
	testSee(t, b, 1, want)
	testCommit(t, b, 1, want)
	testCommit(t, b, 2, want)
	// Of as much as may be, and by what ops ahead have made.
	b = begun(t, fullSchema(), fullGraph(0, 0), 1)
	testNoDo(t, b, 1, newOp(node(100, "a", "k=100")), api.ErrFull)
	testNoDo(t, b, 1, bind("p", 60, 60), api.ErrFull)
	testDo(t, b, 1, gone(60), newOp(node(100, "a", "k=100")), loose("p", 1, 1), bind("p", 100, 100))
	testNoDo(t, b, 1, gone(60), api.ErrNone)
	testNoDo(t, b, 1, newOp(node(100, "a", "k=101")), api.ErrClash)
	testNoDo(t, b, 1, loose("p", 1, 1), api.ErrNone)
	testNoDo(t, b, 1, bind("p", 100, 100), api.ErrClash)
}

// TestDoSeesItsOwn: B1, an op's error is that on what its session sees, not that on the graph, or on what others see.
func TestDoSeesItsOwn(t *testing.T) {
	b := begun(t, looseSchema(), web("1 a k=1; p 1 1"), 3)
	testDo(t, b, 1, newOp(node(2, "a", "-")), unset(1, "k"), loose("p", 1, 1))
	testCommit(t, b, 1, web("1 a -; 2 a -"))
	testNoDo(t, b, 2, gone(2), api.ErrNone)
	testNoDo(t, b, 2, bind("p", 1, 1), api.ErrClash)
	testDo(t, b, 2, unset(1, "k"), loose("p", 1, 1), newOp(node(2, "a", "k=7")))
	testNoDo(t, b, 3, set(2, "k", number(1)), api.ErrNone)
	testDo(t, b, 3, gone(1))
	testSee(t, b, 3, api.Graph{})
	testSee(t, b, 2, web("1 a -; 2 a k=7"))
	testOpen(t, b, 4)
	testNoDo(t, b, 4, unset(1, "k"), api.ErrNone)
	testNoDo(t, b, 4, newOp(node(2, "a", "-")), api.ErrClash)
	testDo(t, b, 4, set(2, "k", number(9)))
	testNow(t, b, web("1 a -; 2 a -"), 1, 2, 3, 4)
}

// TestMaxOps: B1, a session does up to 40 ops; ErrFull is behind ErrNone, and ahead of an op's own errors. What has an error is not counted.
func TestMaxOps(t *testing.T) {
	b := begun(t, someSchema(), someGraph(), 3)
	want := someGraph()
	for i := range 40 {
		for _, c := range badOps() {
			testNoDo(t, b, 1, c.o, c.want)
		}
		testDo(t, b, 1, set(1, "k", number(100+i)))
		want.Nodes[0].Record[0].Value.N = 100 + i
		testSee(t, b, 1, want)
	}
	for range 3 {
		testNoDo(t, b, 1, set(1, "k", number(7)), api.ErrFull)
		testNoDo(t, b, 1, gone(5), api.ErrFull)
		for _, c := range badOps() {
			testNoDo(t, b, 1, c.o, api.ErrFull)
		}
	}
	// Each session has its own.
	for i := range 39 {
		testDo(t, b, 2, set(5, "k", number(200+i)))
	}
	testDo(t, b, 2, set(5, "k", number(5)))
	testNoDo(t, b, 2, set(5, "k", number(5)), api.ErrFull)
	testCommit(t, b, 1, want)
	testClosed(t, b, 1)
	testNoDo(t, b, 2, set(5, "k", number(5)), api.ErrFull)
	testCommit(t, b, 2, want)
	testDo(t, b, 3, set(1000, "m", words("")))
	testAbort(t, b, 3)
	testOpen(t, b, 4)
	testDo(t, b, 4, set(5, "k", number(77)))
}

// faultyOps has ops, each of which brings a fault of chapter 6 into someGraph, and others by which that one goes again.
type faultyOps struct {
	what         int
	faulty, mend []api.Op
}

func allFaultyOps() []faultyOps {
	return []faultyOps{
		{api.BadKind, ops(newOp(node(3, "zz", "-"))), ops(gone(3))},
		{api.BadField, ops(set(1, "zz", number(1))), ops(unset(1, "zz"))},
		{api.BadField, ops(set(1, "k", words("u"))), ops(set(1, "k", number(1)))},
		{api.NoField, ops(unset(2, "x")), ops(set(2, "x", truth(1)))},
		{api.SameKey, ops(set(5, "k", number(9))), ops(set(5, "k", number(5)))},
		{api.BadBond, ops(bind("zz", 1, 1)), ops(loose("zz", 1, 1))},
		{api.BadEnd, ops(bind("q", 1, 7)), ops(loose("q", 1, 7))},
		{api.BadEnd, ops(bind("p", 1, 1)), ops(loose("p", 1, 1))},
		{api.TooFew, ops(loose("r", 9, 9)), ops(bind("r", 9, 9))},
		{api.TooMany, ops(bind("p", 4, 9)), ops(loose("p", 4, 9))},
	}
}

// TestDoMeanwhile: B1, what a session sees need not conform; more may be done to it then, until it does.
func TestDoMeanwhile(t *testing.T) {
	for _, c := range allFaultyOps() {
		b := begun(t, someSchema(), someGraph(), 2)
		testDo(t, b, 1, c.faulty...)
		g, _ := b.See(1)
		if l, err := check.Faults(someSchema(), g); len(l) != 1 || l[0].What != c.what || err != nil {
			t.Errorf("%v is to have the fault %d alone: %v, %v", g, c.what, l, err)
		}
		testDo(t, b, 1, set(1000, "k", number(77)))
		testDo(t, b, 1, c.mend...)
		testDo(t, b, 1, set(1000, "k", number(0)))
		testSee(t, b, 1, someGraph())
		testSee(t, b, 2, someGraph())
		testCommit(t, b, 1, someGraph())
	}
}

// TestAbort: B1, of a session that is aborted nothing stays, whatever it did; whichever one it is.
func TestAbort(t *testing.T) {
	for id := 1; id <= 4; id++ {
		b := begun(t, someSchema(), someGraph(), 4)
		for other := 1; other <= 4; other++ {
			testDo(t, b, other, set(1000, "k", number(100+other)), newOp(node(100+other, "zz", "-")))
			testSee(t, b, other, withNode(other))
		}
		testAbort(t, b, id)
		testNoAbort(t, b, id)
		for other := 1; other <= 4; other++ {
			if other != id {
				testSee(t, b, other, withNode(other))
				testAbort(t, b, other)
			}
		}
		testNow(t, b, someGraph(), 0)
		testOpen(t, b, 5)
		testSee(t, b, 5, someGraph())
		testAbort(t, b, 5)
	}
}

// withNode is what TestAbort's session of a number sees.
func withNode(id int) api.Graph {
	g := someGraph()
	g.Nodes[5] = node(1000, "a", fmt.Sprint("k=", 100+id))
	last := g.Nodes[5]
	g.Nodes = append(g.Nodes[:5], node(100+id, "zz", "-"), last)
	return g
}

// TestBasesApart: two bases have nothing in common.
func TestBasesApart(t *testing.T) {
	s, g := someSchema(), someGraph()
	b, other := begun(t, s, g, 1), begun(t, s, g, 2)
	want := someGraph()
	want.Nodes[0] = node(1, "a", "k=7")
	testDo(t, b, 1, set(1, "k", number(7)))
	testDo(t, other, 1, set(1, "k", number(8)))
	testCommit(t, b, 1, want)
	testNow(t, other, someGraph(), 0, 1, 2)
	testOpen(t, b, 2)
	testOpen(t, other, 3)
	want = someGraph()
	want.Nodes[0] = node(1, "a", "k=8")
	testSee(t, other, 3, someGraph())
	testCommit(t, other, 1, want)
}
