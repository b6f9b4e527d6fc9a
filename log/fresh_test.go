package log

import (
	"math"
	"reflect"
	"slices"
	"testing"

	"kinshape/api"
)

// reach has all of a list's memory.
func reach[T any](l []T) []T { return l[:cap(l)] }

// fill writes into all of a list's memory.
func fill[T any](l []T, with T) {
	for i := range reach(l) {
		reach(l)[i] = with
	}
}

// cutKind is made of lists with something behind their length that is wrong where it is read.
func cutKind(name, of string) api.Kind {
	own := []api.Field{{Name: "f" + name, Type: api.Int, Must: true}, {Name: "m" + name, Type: api.Text}, {Name: "A"}}
	k := api.Kind{Name: name, Of: []string{of, "zz"}[:1], Fields: own[:2]}
	if of == "" {
		k.Of = k.Of[:0]
	}
	return k
}

func cutSchema() api.Schema {
	kinds := []api.Kind{cutKind("a", ""), cutKind("b", "a"), {Name: "A"}}
	bonds := []api.Bond{{Name: "p", From: "a", To: "b", Max: -1}, {Name: "P"}}
	return api.Schema{Kinds: kinds[:2], Bonds: bonds[:1]}
}

// uncutSchema is the same, without anything behind.
func uncutSchema() api.Schema {
	return plan("kind a fa:int! ma:text; kind b of a fb:int! mb:text; bond p a b 0 any")
}

// cutOps are made so, too.
func cutOps() []api.Op {
	r := append(node(0, "", "fa=1,fb=2,ma='u'").Record, prop("A", api.Value{}), prop("a", number(1)))
	l := ops(newOp(api.Node{Id: 1, Kind: "b", Record: r[:3]}), newOp(api.Node{Id: 2, Kind: "a", Record: r[:1]}), bind("p", 2, 1), api.Op{What: 77}, gone(500))
	return l[:3]
}

const uncutGraph = "1 b fa=1,fb=2,ma='u'; 2 a fa=1; p 2 1"

// wholeKinds has all of the memory of kinds.
func wholeKinds(l []api.Kind) []any {
	all := []any{slices.Clone(reach(l))}
	for _, k := range l {
		all = append(all, slices.Clone(reach(k.Of)), slices.Clone(reach(k.Fields)))
	}
	return all
}

func wholeSchema(s api.Schema) []any {
	return append(wholeKinds(s.Kinds), slices.Clone(reach(s.Bonds)))
}

func wholeOps(l []api.Op) []any {
	all := []any{slices.Clone(reach(l))}
	for _, o := range l {
		all = append(all, slices.Clone(reach(o.Node.Record)))
	}
	return all
}

func wipeKinds(l []api.Kind) {
	for _, k := range l {
		fill(k.Of, "wiped")
		fill(k.Fields, api.Field{Name: "wiped", Type: api.Bool})
	}
	fill(l, api.Kind{Name: "wiped"})
}

func wipeSchema(s api.Schema) {
	wipeKinds(s.Kinds)
	fill(s.Bonds, api.Bond{Name: "wiped"})
}

func wipeOps(l []api.Op) {
	for _, o := range l {
		fill(o.Node.Record, prop("wiped", number(9)))
	}
	fill(l, gone(999))
}

// wipeGraph writes into all of a graph's memory, of which no list may share any with another one.
func wipeGraph(t *testing.T, g api.Graph) {
	t.Helper()
	var kept []api.Record
	for _, n := range g.Nodes {
		kept = append(kept, slices.Clone(n.Record))
	}
	for i, n := range g.Nodes {
		if !slices.Equal(n.Record, kept[i]) {
			t.Errorf("the node %d shares memory with one ahead", n.Id)
		}
		fill(n.Record, prop("wiped", number(9)))
	}
	fill(g.Nodes, api.Node{Id: 999, Kind: "wiped"})
	fill(g.Ties, tie("wiped", 999, 999))
}

// wipeAnswers writes into all that a log answers, behind which it is to answer as before.
func wipeAnswers(t *testing.T, x *Log) {
	t.Helper()
	before := allOf(x)
	for range 2 {
		now := allOf(x)
		wipeSchema(now.schema)
		wipeGraph(t, now.graph)
		testNow(t, x, before)
	}
}

// testSame asks whether what is handed in is as it was, behind its length, too.
func testSame(t *testing.T, now, before []any) {
	t.Helper()
	if !reflect.DeepEqual(now, before) {
		t.Errorf("what is handed in is written into: %v, before %v", now, before)
	}
}

// testCut plays with a log of cutSchema, that crashes at last.
func testCut(t *testing.T, x *Log) {
	t.Helper()
	testNow(t, x, all{schema: uncutSchema()})
	testGoesTo(t, x, put(cutOps()...), uncutSchema(), web(uncutGraph))
	testGoes(t, x, alter(dropField("a", "ma")))
	testGoes(t, x, alter(setTo("p", 0, 5)))
	testNow(t, x, all{plan("kind a fa:int!; kind b of a fb:int! mb:text; bond p a b 0 5"), web("1 b fa=1,fb=2; 2 a fa=1; p 2 1"), x.Bytes(), 0})
	testCrashes(t, x, math.MaxInt, allOf(x))
	testCrashes(t, x, 0, allOf(x))
}

// TestFreshNew: P2 and P4 of DOC.md, the schema that New is handed stays as it is, behind its lists' length, too, whatever is done then; and it may be written into, without a log being changed, or what comes of a Crash.
func TestFreshNew(t *testing.T) {
	s := cutSchema()
	x, other := made(t, s), made(t, s)
	testCut(t, x)
	testSame(t, wholeSchema(s), wholeSchema(cutSchema()))
	wipeSchema(s)
	testCrashes(t, other, 0, all{schema: uncutSchema()})
	testCut(t, other)
	testNow(t, x, allOf(other))
	// With an error it stays, too.
	s = cutSchema()
	s.Bonds[0].To = "zz"
	if _, err := New(s); told(err) != api.ErrNone {
		t.Errorf("New: got %v", err)
	}
	s.Bonds[0].To = "b"
	testSame(t, wholeSchema(s), wholeSchema(cutSchema()))
}

// TestFreshPut: P2 and P4 of DOC.md, ops and their records stay as they are, behind their length, too, also with an error, or where it stops; and they may be written into, without the log being changed, or what comes of a Crash.
func TestFreshPut(t *testing.T) {
	l := cutOps()
	x := made(t, cutSchema())
	testGoes(t, x, put(l...))
	testNo(t, x, put(l...), api.ErrClash)
	testNo(t, x, put(l[2:]...), api.ErrClash)
	x.Fail(0)
	if err := x.Put(nil); told(err) != api.ErrState {
		t.Errorf("Put: got %v", err)
	}
	testNo(t, x, put(l...), api.ErrState)
	testSame(t, wholeOps(l), wholeOps(cutOps()))
	wipeOps(l)
	testIs(t, x, uncutSchema(), web(uncutGraph))
	x.Crash(math.MaxInt)
	testIs(t, x, uncutSchema(), web(uncutGraph))
	// One that breaks, and one that stops.
	for n, want := range map[int]api.Errno{-1: api.ErrBreak, 0: api.ErrState} {
		l = cutOps()
		x = made(t, cutSchema())
		if want == api.ErrBreak {
			l[1].Node.Kind = "zz"
		}
		x.Fail(n)
		if err := x.Put(l); told(err) != want {
			t.Errorf("Put: got %v, want %v", err, want)
		}
		l[1].Node.Kind = "a"
		testSame(t, wholeOps(l), wholeOps(cutOps()))
	}
}

// TestFreshAlter: P2 and P4 of DOC.md, so stays a change.
func TestFreshAlter(t *testing.T) {
	c := addKind(cutKind("c", "b"))
	want := plan("kind a fa:int! ma:text; kind b of a fb:int! mb:text; kind c of b fc:int! mc:text; bond p a b 0 any")
	x := made(t, cutSchema())
	testGoesTo(t, x, alter(c), want, api.Graph{})
	testNo(t, x, alter(c), api.ErrClash)
	x.Fail(0)
	if err := x.Alter(dropKind("c")); told(err) != api.ErrState {
		t.Errorf("Alter: got %v", err)
	}
	testNo(t, x, alter(c), api.ErrState)
	testSame(t, wholeKinds([]api.Kind{c.Kind}), wholeKinds([]api.Kind{cutKind("c", "b")}))
	wipeKinds([]api.Kind{c.Kind})
	testIs(t, x, want, api.Graph{})
	x.Crash(math.MaxInt)
	testIs(t, x, want, api.Graph{})
	// What stops.
	c = addKind(cutKind("d", "c"))
	x.Fail(0)
	if err := x.Alter(c); told(err) != api.ErrState {
		t.Errorf("Alter: got %v", err)
	}
	testSame(t, wholeKinds([]api.Kind{c.Kind}), wholeKinds([]api.Kind{cutKind("d", "c")}))
}

// TestFreshSameRecord: P2 of DOC.md, records that share memory where they are handed in do not where they come out.
func TestFreshSameRecord(t *testing.T) {
	r := node(0, "", "k=1,m='u'").Record
	of, own := []string{"a"}, []api.Field{field("x", api.Bool)}
	x := made(t, plan("kind a k:int m:text"))
	testGoes(t, x, put(newOp(api.Node{Id: 1, Kind: "a", Record: r}), newOp(api.Node{Id: 2, Kind: "a", Record: r[:1]}), newOp(api.Node{Id: 3, Kind: "a", Record: r}), set(3, "k", number(3))))
	testGoes(t, x, alter(addKind(api.Kind{Name: "b", Of: of, Fields: own})))
	testGoes(t, x, alter(addKind(api.Kind{Name: "c", Of: of, Fields: own})))
	testGoes(t, x, alter(renameTo("c", "x", "y")))
	for range 2 {
		testIs(t, x, plan("kind a k:int m:text; kind b of a x:bool; kind c of a y:bool"), web("1 a k=1,m='u'; 2 a k=1; 3 a k=3,m='u'"))
		wipeAnswers(t, x)
		x.Crash(math.MaxInt)
		wipeAnswers(t, x)
	}
}

// TestFreshAnswers: P2 of DOC.md, what Schema and Graph answer may be written into at any time, without the log being changed, or what comes of a Crash.
func TestFreshAnswers(t *testing.T) {
	l := recordSteps()
	states := behindEach(t, someSchema(), l)
	x := made(t, someSchema())
	wipeAnswers(t, x)
	for i, c := range l {
		testGoes(t, x, c)
		testIs(t, x, states[i+1].schema, states[i+1].graph)
		wipeAnswers(t, x)
	}
	testGoes(t, x, sync())
	wipeAnswers(t, x)
	x.Fail(0)
	testStops(t, x, put(), halfOf(t, someSchema(), l, put()))
	wipeAnswers(t, x)
	testCrashes(t, x, 0, states[len(l)])
	wipeAnswers(t, x)
	for at := range states {
		x = made(t, someSchema())
		for _, c := range l {
			testGoes(t, x, c)
			wipeAnswers(t, x)
		}
		testCrashes(t, x, states[at].bytes, states[at])
		wipeAnswers(t, x)
	}
}

// TestSameAgain: P2 of DOC.md, what a log answers hangs on the calls alone: the same calls, the same answers.
func TestSameAgain(t *testing.T) {
	want := behindEach(t, someSchema(), recordSteps())
	for range 20 {
		if got := behindEach(t, someSchema(), recordSteps()); !slices.EqualFunc(got, want, all.same) {
			t.Fatalf("got %v, before %v", got, want)
		}
	}
}
