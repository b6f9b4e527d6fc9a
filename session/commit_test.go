package session

import (
	"fmt"
	"slices"
	"testing"

	"kinshape/api"
	"kinshape/check"
)

// touching has ops on looseGraph, and the nodes that they touch.
type touching struct {
	l   []api.Op
	ids []int
}

// touchings has each What, ops by which nothing is another than before, and nodes that go with ties of the graph and of ops ahead.
func touchings() []touching {
	return []touching{
		{nil, nil},
		{ops(newOp(node(8, "a", "-"))), []int{8}},
		{ops(set(1, "k", number(7))), []int{1}},
		{ops(set(1, "k", number(1))), []int{1}},
		{ops(unset(2, "m")), []int{2}},
		{ops(set(7, "m", words("w"))), []int{7}},
		{ops(bind("p", 4, 7)), []int{4, 7}},
		{ops(bind("q", 7, 1)), []int{1, 7}},
		{ops(bind("q", 3, 3)), []int{3}},
		{ops(loose("p", 1, 2)), []int{1, 2}},
		{ops(loose("q", 5, 5)), []int{5}},
		{ops(gone(7)), []int{7}},
		{ops(gone(5)), []int{5}},
		{ops(gone(4)), []int{3, 4}},
		{ops(gone(6)), []int{1, 6}},
		{ops(gone(2)), []int{1, 2, 3}},
		{ops(set(3, "k", number(1)), unset(3, "k")), []int{3}},
		{ops(newOp(node(9, "a", "-")), gone(9)), []int{9}},
		{ops(bind("p", 5, 6), loose("p", 5, 6)), []int{5, 6}},
		{ops(newOp(node(8, "a", "-")), bind("p", 8, 4), gone(8)), []int{4, 8}},
		{ops(loose("p", 3, 4), gone(4)), []int{3, 4}},
		{ops(gone(1), gone(2)), []int{1, 2, 3, 6}},
		{ops(gone(7), newOp(node(7, "a", "-")), set(5, "m", words("u"))), []int{5, 7}},
		{ops(set(6, "k", number(1)), set(4, "k", number(2)), set(7, "k", number(3)), set(5, "k", number(4)), set(3, "k", number(5))), []int{3, 4, 5, 6, 7}},
	}
}

// meet tells whether two lists have something in common.
func meet(a, b []int) bool {
	return slices.ContainsFunc(a, func(n int) bool { return slices.Contains(b, n) })
}

// made is what ops make of a graph.
func made(t *testing.T, g api.Graph, l ...api.Op) api.Graph {
	t.Helper()
	g, wrong := plainAll(g, l)
	if wrong != api.OK {
		t.Fatalf("%v are to be done: %v", l, wrong)
	}
	return g
}

// TestLate: B2, of two sessions the one that commits behind the other one is late, if both touched a node, and else not: each pair of touchings.
func TestLate(t *testing.T) {
	late := 0
	for _, first := range touchings() {
		for _, second := range touchings() {
			b := begun(t, looseSchema(), looseGraph(), 2)
			testDo(t, b, 2, second.l...)
			testDo(t, b, 1, first.l...)
			g := made(t, looseGraph(), first.l...)
			testCommit(t, b, 1, g)
			if meet(first.ids, second.ids) {
				late++
				testNoCommit(t, b, 2, api.ErrLate)
				testAbort(t, b, 2)
				testNow(t, b, g, 1)
				continue
			}
			testCommit(t, b, 2, made(t, g, second.l...))
			testNow(t, b, made(t, g, second.l...), 2)
		}
	}
	if all := len(touchings()) * len(touchings()); late < all/5 || late > all*4/5 {
		t.Errorf("of %d pairs %d are late", all, late)
	}
}

// TestLateSince: B2, only what was committed since a session was opened makes it late, whenever it did its ops, and whenever the other one was opened.
func TestLateSince(t *testing.T) {
	change := func(k int) api.Op { return set(1, "k", number(k)) }
	with := func(k int) api.Graph { return web(fmt.Sprintf("1 a k=%d; 2 a -", k)) }
	b := begun(t, looseSchema(), with(1), 1)
	// Opened behind the commit of one that touched the node.
	testDo(t, b, 1, change(2))
	testCommit(t, b, 1, with(2))
	testOpen(t, b, 2)
	testDo(t, b, 2, change(3))
	testCommit(t, b, 2, with(3))
	// Opened ahead of it, with its ops ahead of and behind the commit.
	testOpen(t, b, 3)
	testOpen(t, b, 4)
	testOpen(t, b, 5)
	testDo(t, b, 3, change(4))
	testDo(t, b, 4, change(5))
	testCommit(t, b, 3, with(4))
	testDo(t, b, 5, change(6))
	testNoCommit(t, b, 4, api.ErrLate)
	testNoCommit(t, b, 5, api.ErrLate)
	// The one that commits was opened later than the one that is late.
	testAbort(t, b, 4)
	testAbort(t, b, 5)
	testOpen(t, b, 6)
	testOpen(t, b, 7)
	testDo(t, b, 7, change(7))
	testDo(t, b, 6, change(8))
	testCommit(t, b, 7, with(7))
	testNoCommit(t, b, 6, api.ErrLate)
	// One that is opened now is not late, though 6 is still.
	testOpen(t, b, 8)
	testDo(t, b, 8, change(9))
	testCommit(t, b, 8, with(9))
	testNoCommit(t, b, 6, api.ErrLate)
	testNow(t, b, with(9), 5, 6)
}

// TestLateOfSeveral: B2, any of the commits since then makes late, the first one, one between and the last one.
func TestLateOfSeveral(t *testing.T) {
	for at := range 5 {
		b := begun(t, looseSchema(), looseGraph(), 2)
		testDo(t, b, 1, set(4, "k", number(9)))
		g := looseGraph()
		for i := range 5 {
			id := 7
			if i == at {
				id = 4
			}
			next := i + 3
			testOpen(t, b, next)
			o := set(id, "m", words(fmt.Sprint(i)))
			testDo(t, b, next, o)
			g = made(t, g, o)
			testCommit(t, b, next, g)
		}
		testNoCommit(t, b, 1, api.ErrLate)
		testAbort(t, b, 1)
		testDo(t, b, 2, set(3, "k", number(1)))
		testCommit(t, b, 2, made(t, g, set(3, "k", number(1))))
	}
}

// TestNotLate: B2, what was aborted, or refused, or could not be done, makes nobody late; nor does a session that did nothing, which is never late itself.
func TestNotLate(t *testing.T) {
	s, g := someSchema(), someGraph()
	o := set(1, "k", number(7))
	want := made(t, g, o)
	b := begun(t, s, g, 3)
	testDo(t, b, 1, o)
	testDo(t, b, 2, set(1, "k", number(8)))
	testAbort(t, b, 2)
	testDo(t, b, 3, set(1, "k", number(5)))
	testNoCommit(t, b, 3, api.ErrBreak)
	testCommit(t, b, 1, want)
	// Ops with an error touch nothing, of the one that commits first, and of the one behind.
	b = begun(t, s, g, 2)
	testNoDo(t, b, 1, unset(5, "x"), api.ErrNone)
	testNoDo(t, b, 1, bind("q", 1, 4), api.ErrClash)
	testDo(t, b, 1, set(1000, "m", words("u")))
	testNoDo(t, b, 2, set(1000, "K", number(1)), api.ErrSyntax)
	testDo(t, b, 2, unset(5, "m"), set(1, "m", words("v")))
	testCommit(t, b, 1, made(t, g, set(1000, "m", words("u"))))
	testCommit(t, b, 2, made(t, g, set(1000, "m", words("u")), unset(5, "m"), set(1, "m", words("v"))))
	// Those that did nothing, ahead of and behind others.
	b = begun(t, s, g, 4)
	testDo(t, b, 2, o)
	testDo(t, b, 3, set(1, "m", words("v")))
	testCommit(t, b, 1, g)
	testCommit(t, b, 2, want)
	testNoCommit(t, b, 3, api.ErrLate)
	testCommit(t, b, 4, want)
	testNow(t, b, want, 3, 3)
	// One that is late is none that has committed.
	testOpen(t, b, 5)
	testDo(t, b, 5, set(1, "k", number(77)))
	testNoCommit(t, b, 3, api.ErrLate)
	testCommit(t, b, 5, made(t, g, set(1, "k", number(77))))
}

// TestLateEnds: B2, touched are the other ends of the ties that a session saw at what it let go, or bound there itself, and no others.
func TestLateEnds(t *testing.T) {
	s := looseSchema()
	// 1 saw the tie, which is there no more when it commits: 2 is touched by it.
	b := begun(t, s, web("1 a -; 2 a -; 3 a -; p 1 2"), 3)
	testDo(t, b, 1, gone(1))
	testDo(t, b, 3, set(2, "k", number(1)))
	testCommit(t, b, 3, web("1 a -; 2 a k=1; 3 a -; p 1 2"))
	testNoCommit(t, b, 1, api.ErrLate)
	// Opened behind the commit that loosed the tie, it does not touch 2.
	testDo(t, b, 2, loose("p", 1, 2))
	testNoCommit(t, b, 2, api.ErrLate)
	testOpen(t, b, 4)
	testDo(t, b, 4, loose("p", 1, 2))
	testCommit(t, b, 4, web("1 a -; 2 a k=1; 3 a -"))
	testOpen(t, b, 5)
	testOpen(t, b, 6)
	testDo(t, b, 5, gone(1))
	testDo(t, b, 6, set(2, "k", number(2)))
	testCommit(t, b, 6, web("1 a -; 2 a k=2; 3 a -"))
	testCommit(t, b, 5, web("2 a k=2; 3 a -"))
	// A tie that a commit binds to what another one lets go.
	b = begun(t, s, web("1 a -; 2 a -; 3 a -"), 3)
	testDo(t, b, 1, gone(1))
	testDo(t, b, 2, bind("p", 2, 1))
	testDo(t, b, 3, bind("q", 3, 3))
	testCommit(t, b, 2, web("1 a -; 2 a -; 3 a -; p 2 1"))
	testNoCommit(t, b, 1, api.ErrLate)
	testCommit(t, b, 3, web("1 a -; 2 a -; 3 a -; p 2 1; q 3 3"))
	// The other way round; of the one that goes first 2 is touched by a tie that it bound itself.
	b = begun(t, s, web("1 a -; 2 a -; 3 a -"), 3)
	testDo(t, b, 1, bind("p", 2, 1), gone(1))
	testDo(t, b, 2, set(2, "k", number(2)))
	testDo(t, b, 3, bind("p", 3, 1))
	testCommit(t, b, 1, web("2 a -; 3 a -"))
	testNoCommit(t, b, 2, api.ErrLate)
	testNoCommit(t, b, 3, api.ErrLate)
}

// TestLateStays: B2, one that is late is open still, and may do more, but stays late; it may be aborted.
func TestLateStays(t *testing.T) {
	b := begun(t, looseSchema(), looseGraph(), 2)
	testDo(t, b, 1, set(1, "k", number(7)))
	testDo(t, b, 2, set(1, "k", number(8)))
	g := made(t, looseGraph(), set(1, "k", number(7)))
	testCommit(t, b, 1, g)
	testNoCommit(t, b, 2, api.ErrLate)
	testDo(t, b, 2, set(1, "k", number(1)), set(7, "k", number(1)))
	testSee(t, b, 2, made(t, looseGraph(), set(7, "k", number(1))))
	testNoCommit(t, b, 2, api.ErrLate)
	testNoCommit(t, b, 2, api.ErrLate)
	// What it did touches nobody.
	testOpen(t, b, 3)
	testDo(t, b, 3, unset(1, "k"), set(7, "k", number(2)))
	testCommit(t, b, 3, made(t, g, unset(1, "k"), set(7, "k", number(2))))
	testAbort(t, b, 2)
	testNow(t, b, made(t, g, unset(1, "k"), set(7, "k", number(2))), 2)
}

// TestCommitFull: B2, chapter 7's ErrFull of nodes and of ties on the graph as it is; behind it the session is as it was, and commits when there is room again.
func TestCommitFull(t *testing.T) {
	for _, c := range []struct {
		g                        api.Graph
		first, other, room, more api.Op
	}{
		{fullGraph(1, 0), newOp(node(100, "a", "k=100")), newOp(node(200, "a", "k=200")), gone(59), gone(40)},
		{fullGraph(0, 1), bind("p", 59, 59), bind("p", 60, 60), loose("p", 1, 1), loose("p", 2, 2)},
	} {
		b := begun(t, fullSchema(), c.g, 3)
		testDo(t, b, 1, set(30, "m", words("u")), c.first)
		testDo(t, b, 2, set(31, "m", words("v")), c.other, set(32, "m", words("w")))
		g := made(t, c.g, set(30, "m", words("u")), c.first)
		testCommit(t, b, 1, g)
		testNoCommit(t, b, 2, api.ErrFull)
		testNoCommit(t, b, 2, api.ErrFull)
		// Its ops are done one by one: one more, behind them, makes room too late.
		testDo(t, b, 2, c.more)
		testNoCommit(t, b, 2, api.ErrFull)
		testDo(t, b, 3, c.room)
		g = made(t, g, c.room)
		testCommit(t, b, 3, g)
		testCommit(t, b, 2, made(t, g, set(31, "m", words("v")), c.other, set(32, "m", words("w")), c.more))
	}
}

// TestCommitAll: B2, each error that chapter 7's All may have of ops that were done, if the graph is another one. As no commit leads there that doesn't make late, but for ErrFull, the graph is laid in by hand.
func TestCommitAll(t *testing.T) {
	for _, c := range []struct {
		o    api.Op
		now  string
		want api.Errno
	}{
		{newOp(node(8, "a", "-")), "7 a -; 8 a -", api.ErrClash},
		{gone(1), "7 a -", api.ErrNone},
		{set(1, "k", number(7)), "7 a k=7", api.ErrNone},
		{set(1, "k", number(7)), "1 a aa=1,b=1,c=1,d=1,e=1,f=1,g=1,h=1; 7 a -", api.ErrFull},
		{unset(1, "k"), "7 a k=1", api.ErrNone},
		{unset(1, "k"), "1 a m='u'; 7 a -", api.ErrNone},
		{bind("p", 2, 2), "2 a -; 7 a -; p 2 2", api.ErrClash},
		{loose("p", 1, 2), "1 a -; 2 a -; 7 a -; p 2 1", api.ErrNone},
	} {
		b := begun(t, looseSchema(), looseGraph(), 2)
		testDo(t, b, 1, set(7, "k", number(7)), c.o, set(7, "k", number(8)))
		b.graph = web(c.now)
		testNoCommit(t, b, 1, c.want)
		testNoCommit(t, b, 1, c.want)
		testAbort(t, b, 1)
		testNow(t, b, web(c.now), 0, 2)
	}
}

// TestCommitBreak: B2, what does not conform, by each fault, is not committed; the session goes on from there, and commits when the fault is mended.
func TestCommitBreak(t *testing.T) {
	for _, c := range allFaultyOps() {
		b := begun(t, someSchema(), someGraph(), 2)
		testDo(t, b, 1, set(1000, "m", words("w")))
		testDo(t, b, 1, c.faulty...)
		want := made(t, someGraph(), set(1000, "m", words("w")))
		testNoCommit(t, b, 1, api.ErrBreak)
		testNoCommit(t, b, 1, api.ErrBreak)
		testNow(t, b, someGraph(), 0, 1, 2)
		testDo(t, b, 1, c.mend...)
		testCommit(t, b, 1, want)
		// It may be aborted as well.
		testOpen(t, b, 3)
		testDo(t, b, 3, c.faulty...)
		testNoCommit(t, b, 3, api.ErrBreak)
		testAbort(t, b, 3)
		testCommit(t, b, 2, want)
	}
}

// TestCommitBreakTogether: B2, what each of two sees conforms, but not both together; or what one sees does not, but what comes does.
func TestCommitBreakTogether(t *testing.T) {
	s, g := someSchema(), someGraph()
	for _, c := range []struct{ first, other api.Op }{
		{set(1, "k", number(7)), set(5, "k", number(7))},
		{set(1, "k", number(7)), newOp(node(3, "a", "k=7"))},
		{newOp(node(3, "a", "k=7")), newOp(node(7, "a", "k=7"))},
		{newOp(node(7, "a", "k=7")), newOp(node(3, "a", "k=7"))},
	} {
		b := begun(t, s, g, 3)
		testDo(t, b, 1, c.first)
		testDo(t, b, 2, c.other)
		for id := 1; id <= 2; id++ {
			seen, _ := b.See(id)
			if is, err := check.Conforms(s, seen); !is || err != nil {
				t.Errorf("%v is to conform: %v", seen, err)
			}
		}
		testCommit(t, b, 1, made(t, g, c.first))
		testNoCommit(t, b, 2, api.ErrBreak)
		testCommit(t, b, 3, made(t, g, c.first))
		// Another key, by itself, or by another one that is not in its way.
		testOpen(t, b, 4)
		testDo(t, b, 4, set(c.first.Node.Id, "k", number(8)))
		testCommit(t, b, 4, made(t, g, c.first, set(c.first.Node.Id, "k", number(8))))
		testCommit(t, b, 2, made(t, g, c.first, set(c.first.Node.Id, "k", number(8)), c.other))
	}
	// The key that 2 takes is free, when 1 has committed, though what 2 sees has it twice.
	b := begun(t, s, g, 2)
	testDo(t, b, 1, set(1, "k", number(7)))
	testDo(t, b, 2, set(5, "k", number(1)))
	testNoCommit(t, b, 2, api.ErrBreak)
	testCommit(t, b, 1, made(t, g, set(1, "k", number(7))))
	testCommit(t, b, 2, made(t, g, set(1, "k", number(7)), set(5, "k", number(1))))
}

// TestCommitFirst: B2, of several errors ErrNone is the first one, then ErrLate, All's, and ErrBreak.
func TestCommitFirst(t *testing.T) {
	full := newOp(node(200, "a", "k=200"))
	broken := unset(20, "k")
	touch := set(10, "m", words("u"))
	for faults := range 8 {
		b := begun(t, fullSchema(), fullGraph(1, 1), 2)
		testDo(t, b, 1, newOp(node(100, "a", "k=100")), set(10, "m", words("w")))
		want := api.OK
		if faults&1 != 0 {
			testDo(t, b, 2, broken)
			want = api.ErrBreak
		}
		if faults&2 != 0 {
			testDo(t, b, 2, full)
			want = api.ErrFull
		}
		if faults&4 != 0 {
			testDo(t, b, 2, touch)
			want = api.ErrLate
		}
		g := made(t, fullGraph(1, 1), newOp(node(100, "a", "k=100")), set(10, "m", words("w")))
		testCommit(t, b, 1, g)
		if want == api.OK {
			testCommit(t, b, 2, g)
			continue
		}
		testNoCommit(t, b, 2, want)
		testAbort(t, b, 2)
		testNoCommit(t, b, 2, api.ErrNone)
		testNow(t, b, g, 1)
	}
}

// TestCommitNothing: B2, a session that did nothing commits, of an empty graph, too, and there is one commit more.
func TestCommitNothing(t *testing.T) {
	for _, g := range []api.Graph{{}, someGraph()} {
		b := begun(t, someSchema(), g, 4)
		for i, id := range []int{3, 1, 4, 2} {
			testCommit(t, b, id, g)
			testNow(t, b, g, i+1, [][]int{{1, 2, 4}, {2, 4}, {2}, {}}[i]...)
		}
	}
	b := begun(t, api.Schema{}, api.Graph{}, 1)
	testDo(t, b, 1, newOp(node(1, "a", "-")))
	testNoCommit(t, b, 1, api.ErrBreak)
	testDo(t, b, 1, gone(1))
	testCommit(t, b, 1, api.Graph{})
}

// TestCommitMost: B2, four sessions of 40 ops each, that touch different nodes.
func TestCommitMost(t *testing.T) {
	b := begun(t, fullSchema(), fullGraph(0, 0), 4)
	for id := 1; id <= 4; id++ {
		for i := range 40 {
			testDo(t, b, id, set(15*id-i%15, "m", words(fmt.Sprint(id, i))))
		}
		testNoDo(t, b, id, gone(1), api.ErrFull)
	}
	g := fullGraph(0, 0)
	for _, id := range []int{4, 2, 1, 3} {
		for i := 25; i < 40; i++ {
			at := 15*id - i%15 - 1
			g.Nodes[at] = node(at+1, "a", fmt.Sprintf("k=%d,m='%s'", at+1, fmt.Sprint(id, i)))
		}
		testCommit(t, b, id, g)
	}
	testNow(t, b, g, 4)
}
