package move

import (
	"math"
	"testing"

	"kinshape/api"
)

// growing has a Graph, and a Change with which its Nodes of the Kinds a and b go.
func growing() (api.Schema, api.Change, api.Graph) {
	return plan("kind a k:int; kind b of a; kind c; bond p a a 0 any; bond q c a 0 any"), addWith("a", must(field("l", api.Int)), number(7)), web("1 a k=1; 3 c -; 4 b -; 7 a -; 9 c -; p 1 4; p 7 1; q 3 1")
}

// grown is its Graph when so many of its Nodes went.
func grown(went int) api.Graph {
	_, _, g := growing()
	for i, text := range []string{"k=1,l=7", "-", "l=7", "l=7", "-"}[:went] {
		g.Nodes[i].Record = made(text)
	}
	return g
}

// moving is a Move of it.
func moving(t *testing.T) *Move {
	t.Helper()
	s, c, g := growing()
	return begun(t, s, c, g)
}

// TestStep: M2, the next Nodes, by Id, as many as are asked for, or as there are; Left and Graph ahead of the first Step, between two, and behind the last one.
func TestStep(t *testing.T) {
	s, c, _ := growing()
	// Each way in which five may be taken.
	for bits := range 1 << 4 {
		m := moving(t)
		went, size := 0, 0
		for i := range 5 {
			size++
			if i < 4 && bits>>i&1 == 0 {
				continue
			}
			testNow(t, m, 5-went, grown(went))
			testNoDone(t, m, api.ErrState)
			testStep(t, m, size, size)
			went, size = went+size, 0
		}
		testNow(t, m, 0, grown(5))
		testEnd(t, m, s, c, grown(5))
	}
}

// TestStepMore: M2, fewer, if there are no more.
func TestStepMore(t *testing.T) {
	for went := range 5 {
		for _, n := range []int{5 - went, 6 - went, 7, 59, 60} {
			m := moving(t)
			for range went {
				testStep(t, m, 1, 1)
			}
			testStep(t, m, n, 5-went)
			testNow(t, m, 0, grown(5))
		}
	}
}

// TestStepRange: M2, ErrRange: n is not from 1 to MaxNodes (60), ahead of ErrState; nothing is changed.
func TestStepRange(t *testing.T) {
	bad := []int{0, -1, -60, 61, 62, 1000, math.MaxInt, math.MinInt, 1<<32 + 1}
	m := moving(t)
	for went := range 6 {
		for _, n := range bad {
			testNoStep(t, m, n, api.ErrRange)
			testNow(t, m, 5-went, grown(went))
		}
		if went < 5 {
			testStep(t, m, 1, 1)
		}
	}
	for _, n := range []int{1, 2, 59, 60} {
		testNoStep(t, m, n, api.ErrState)
		testNow(t, m, 0, grown(5))
	}
}

// TestStepSizes: M2, all numbers around the bounds, with as many Nodes as there may be.
func TestStepSizes(t *testing.T) {
	s, g := plan("kind a"), ids(upTo(60)...)
	for n := -3; n <= 64; n++ {
		m := begun(t, s, addWith("a", field("k", api.Int), number(7)), g)
		if n < 1 || n > 60 {
			testNoStep(t, m, n, api.ErrRange)
			testNow(t, m, 60, g)
			continue
		}
		for left := 60; left > 0; left -= n {
			if got := m.Left(); got != left {
				t.Errorf("steps of %d: got %d left, want %d", n, got, left)
			}
			testStep(t, m, n, min(n, left))
		}
		testNoStep(t, m, n, api.ErrState)
	}
}

// TestNoNodes: M2, without Nodes none is Left, and it is Done.
func TestNoNodes(t *testing.T) {
	for _, c := range someChanges() {
		m := begun(t, someSchema(), c, api.Graph{})
		for range 2 {
			testNow(t, m, 0, api.Graph{})
			testNoStep(t, m, 1, api.ErrState)
			testNoStep(t, m, 60, api.ErrState)
			testNoStep(t, m, 0, api.ErrRange)
			testNoStep(t, m, 61, api.ErrRange)
			testEnd(t, m, someSchema(), c, api.Graph{})
		}
	}
}

func growth() api.Change { return addWith("a", field("l", api.Int), number(7)) }

// fullAt makes a Move of five Nodes of which one cannot go. A Graph that conforms to its Schema has none such, as a Kind has no more Fields than a Record may have Props; so its first Graph is put in by hand.
func fullAt(t *testing.T, at int) (*Move, api.Graph) {
	t.Helper()
	s := plan("kind a k:int; bond p a a 0 any")
	m := begun(t, s, growth(), api.Graph{})
	g := web("1 a k=1; 2 a -; 3 a k=3; 4 a -; 5 a -; p 1 2; p 5 5")
	g.Nodes[at].Record = made("aa=1,b=1,c=1,d=1,e=1,f=1,g=1,h=1")
	m.first = g
	m.restart()
	return m, g
}

// TestStepFull: M2, ErrFull: one of them cannot, at the first, a middle and the last place of a step: then none of them does. Those ahead of it may.
func TestStepFull(t *testing.T) {
	for at := range 5 {
		for n := at + 1; n <= 6; n++ {
			m, g := fullAt(t, at)
			for range 2 {
				testNoStep(t, m, n, api.ErrFull)
				testNow(t, m, 5, g)
			}
			testNoDone(t, m, api.ErrState)
		}
		// M1: so does what Graph does when it is begun.
		m, g := fullAt(t, at)
		if got, err := m.atOnce(); !noGraph(got) || told(err) != api.ErrFull {
			t.Errorf("at once: got %v, %v", got, err)
		}
		for i := range at {
			testStep(t, m, 1, 1)
			g.Nodes[i].Record = plainRecord(growth(), g.Nodes[i].Record)
			testNow(t, m, 4-i, g)
		}
		for n := 1; n <= 6; n++ {
			testNoStep(t, m, n, api.ErrFull)
			testNow(t, m, 5-at, g)
		}
		testNoStep(t, m, 61, api.ErrRange)
		testNow(t, m, 5-at, g)
	}
}

// TestAllTies: M2, Graph has all Ties, also those that Done leaves behind.
func TestAllTies(t *testing.T) {
	g := someGraph()
	m := begun(t, someSchema(), dropBond("p"), g)
	for went := range 9 {
		testNow(t, m, 8-went, g)
		if went < 8 {
			testNoDone(t, m, api.ErrState)
			testStep(t, m, 1, 1)
		}
	}
	for range 2 {
		testEnd(t, m, someSchema(), dropBond("p"), with(g, g.Ties[4:]...))
		testNow(t, m, 0, g)
	}
}

// TestDone: M2, it may be asked again, and nothing is Left then.
func TestDone(t *testing.T) {
	for _, c := range someChanges() {
		want, wrong := plainGraph(someSchema(), c, someGraph())
		if wrong != api.OK {
			t.Errorf("%v: %v", c, wrong)
			continue
		}
		m := begun(t, someSchema(), c, someGraph())
		testNoDone(t, m, api.ErrState)
		testNow(t, m, 8, someGraph())
		testStep(t, m, 7, 7)
		testNoDone(t, m, api.ErrState)
		testStep(t, m, 7, 1)
		for range 3 {
			testEnd(t, m, someSchema(), c, want)
			testNoStep(t, m, 1, api.ErrState)
			if got := m.Left(); got != 0 {
				t.Errorf("%v: %d are left", c, got)
			}
		}
	}
}

// TestDoneBreak: M2, ErrBreak: it does not conform: then Graph is the first one again, and all are Left; from there it goes on as before.
func TestDoneBreak(t *testing.T) {
	for _, b := range brokenMoves() {
		m := begun(t, plan(b.s), b.c, web(b.g))
		all := len(web(b.g).Nodes)
		for size := 1; size <= 4; size++ {
			now := web(b.g)
			for went := 0; went < all; went += size {
				testNow(t, m, all-went, now)
				testNoDone(t, m, api.ErrState)
				testStep(t, m, size, min(size, all-went))
				for i := went; i < min(went+size, all); i++ {
					now.Nodes[i], _ = plainTurned(plan(b.s), b.c, now.Nodes[i])
				}
			}
			testNow(t, m, 0, now)
			testNoStep(t, m, 1, api.ErrState)
			testNoDone(t, m, api.ErrBreak)
			testNow(t, m, all, web(b.g))
		}
		testNoDone(t, m, api.ErrState)
	}
}

// TestMovesApart: P2 of DOC.md, what a Move does hangs on the calls on it alone.
func TestMovesApart(t *testing.T) {
	s, c, g := growing()
	a, b := begun(t, s, c, g), begun(t, s, dropField("a", "k"), g)
	testStep(t, a, 3, 3)
	testNow(t, b, 5, g)
	testStep(t, b, 1, 1)
	testNow(t, a, 2, grown(3))
	testStep(t, a, 60, 2)
	testEnd(t, a, s, c, grown(5))
	testStep(t, b, 60, 4)
	g.Nodes[0].Record = nil
	testEnd(t, b, s, dropField("a", "k"), g)
	testEnd(t, a, s, c, grown(5))
}
