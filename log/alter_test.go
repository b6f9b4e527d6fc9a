package log

import (
	"strings"
	"testing"

	"kinshape/api"
	"kinshape/change"
)

// TestAlter: L1, each What, one behind the other; the graph goes with the schema, by which Put goes then.
func TestAlter(t *testing.T) {
	x := filled(t)
	const ends = "p 4 1; p 4 5; p 9 9; q 1 4; q 2 4; q 2 9; r 2 2; r 2 9; r 9 9"
	for _, c := range []struct {
		c       api.Change
		s, g    string
		no, yes api.Op
	}{
		{addKind(breed("e", "c", must(field("y", api.Text)))), "kind a k:int* m:text; kind b of a x:bool!; kind c; kind d of b,c; kind e of c y:text!; bond p c a 0 2; bond q a c 0 any; bond r b b 1 any", "1 a k=1; 2 b k=2,m='u',x=true; 4 c -; 5 a k=5,m='u'; 9 d k=9,x=false; 1000 a k=0; " + ends,
			newOp(node(3, "e", "-")), newOp(node(3, "e", "y=''"))},
		{addWith("a", must(field("l", api.Int)), number(7)), "kind a k:int* l:int! m:text; kind b of a x:bool!; kind c; kind d of b,c; kind e of c y:text!; bond p c a 0 2; bond q a c 0 any; bond r b b 1 any", "1 a k=1,l=7; 2 b k=2,l=7,m='u',x=true; 4 c -; 5 a k=5,l=7,m='u'; 9 d k=9,l=7,x=false; 1000 a k=0,l=7; " + ends,
			newOp(node(3, "a", "k=3")), newOp(node(3, "a", "k=3,l=3"))},
		{dropField("a", "m"), "kind a k:int* l:int!; kind b of a x:bool!; kind c; kind d of b,c; kind e of c y:text!; bond p c a 0 2; bond q a c 0 any; bond r b b 1 any", "1 a k=1,l=7; 2 b k=2,l=7,x=true; 4 c -; 5 a k=5,l=7; 9 d k=9,l=7,x=false; 1000 a k=0,l=7; " + ends,
			newOp(node(3, "a", "k=3,l=3,m='u'")), newOp(node(3, "a", "k=3,l=3"))},
		{addField("c", field("m", api.Int)), "kind a k:int* l:int!; kind b of a x:bool!; kind c m:int; kind d of b,c; kind e of c y:text!; bond p c a 0 2; bond q a c 0 any; bond r b b 1 any", "1 a k=1,l=7; 2 b k=2,l=7,x=true; 4 c -; 5 a k=5,l=7; 9 d k=9,l=7,x=false; 1000 a k=0,l=7; " + ends,
			newOp(node(3, "c", "m='u'")), newOp(node(3, "e", "m=5,y='u'"))},
		{renameTo("b", "x", "aa"), "kind a k:int* l:int!; kind b of a aa:bool!; kind c m:int; kind d of b,c; kind e of c y:text!; bond p c a 0 2; bond q a c 0 any; bond r b b 1 any", "1 a k=1,l=7; 2 b aa=true,k=2,l=7; 4 c -; 5 a k=5,l=7; 9 d aa=false,k=9,l=7; 1000 a k=0,l=7; " + ends,
			unset(2, "aa"), newOp(node(3, "c", "-"))},
		{addBond(bond("s e a", 1, 2)), "kind a k:int* l:int!; kind b of a aa:bool!; kind c m:int; kind d of b,c; kind e of c y:text!; bond p c a 0 2; bond q a c 0 any; bond r b b 1 any; bond s e a 1 2", "1 a k=1,l=7; 2 b aa=true,k=2,l=7; 4 c -; 5 a k=5,l=7; 9 d aa=false,k=9,l=7; 1000 a k=0,l=7; " + ends,
			newOp(node(3, "e", "y='u'")), newOp(node(3, "c", "-"))},
		{setTo("r", 1, 2), "kind a k:int* l:int!; kind b of a aa:bool!; kind c m:int; kind d of b,c; kind e of c y:text!; bond p c a 0 2; bond q a c 0 any; bond r b b 1 2; bond s e a 1 2", "1 a k=1,l=7; 2 b aa=true,k=2,l=7; 4 c -; 5 a k=5,l=7; 9 d aa=false,k=9,l=7; 1000 a k=0,l=7; " + ends,
			loose("r", 9, 9), newOp(node(3, "c", "-"))},
		{dropBond("q"), "kind a k:int* l:int!; kind b of a aa:bool!; kind c m:int; kind d of b,c; kind e of c y:text!; bond p c a 0 2; bond r b b 1 2; bond s e a 1 2", "1 a k=1,l=7; 2 b aa=true,k=2,l=7; 4 c -; 5 a k=5,l=7; 9 d aa=false,k=9,l=7; 1000 a k=0,l=7; p 4 1; p 4 5; p 9 9; r 2 2; r 2 9; r 9 9",
			bind("q", 1, 4), newOp(node(3, "c", "-"))},
		{dropBond("s"), "kind a k:int* l:int!; kind b of a aa:bool!; kind c m:int; kind d of b,c; kind e of c y:text!; bond p c a 0 2; bond r b b 1 2", "1 a k=1,l=7; 2 b aa=true,k=2,l=7; 4 c -; 5 a k=5,l=7; 9 d aa=false,k=9,l=7; 1000 a k=0,l=7; p 4 1; p 4 5; p 9 9; r 2 2; r 2 9; r 9 9",
			bind("s", 1, 4), newOp(node(3, "e", "y='u'"))},
		{dropKind("e"), "kind a k:int* l:int!; kind b of a aa:bool!; kind c m:int; kind d of b,c; bond p c a 0 2; bond r b b 1 2", "1 a k=1,l=7; 2 b aa=true,k=2,l=7; 4 c -; 5 a k=5,l=7; 9 d aa=false,k=9,l=7; 1000 a k=0,l=7; p 4 1; p 4 5; p 9 9; r 2 2; r 2 9; r 9 9",
			newOp(node(3, "e", "y='u'")), newOp(node(3, "c", "-"))},
	} {
		testGoesTo(t, x, alter(c.c), plan(c.s), web(c.g))
		testNo(t, x, put(c.no), api.ErrBreak)
		testGoes(t, x, put(c.yes))
		testGoesTo(t, x, put(gone(3)), plan(c.s), web(c.g))
	}
	testCrashes(t, x, x.Bytes(), allOf(x))
}

// TestAlterEmpty: L1, of a graph without nodes, and of a schema without anything.
func TestAlterEmpty(t *testing.T) {
	x := made(t, api.Schema{})
	testGoesTo(t, x, alter(addKind(breed("a", ""))), plan("kind a"), api.Graph{})
	testGoesTo(t, x, alter(addBond(bond("p a a", 20, 20))), plan("kind a; bond p a a 20 20"), api.Graph{})
	testGoesTo(t, x, alter(addWith("a", must(field("k", api.Bool)), truth(0))), plan("kind a k:bool!; bond p a a 20 20"), api.Graph{})
	testNo(t, x, alter(dropKind("a")), api.ErrState)
	testGoesTo(t, x, alter(dropBond("p")), plan("kind a k:bool!"), api.Graph{})
	testGoesTo(t, x, alter(dropKind("a")), api.Schema{}, api.Graph{})
	testNo(t, x, put(newOp(node(1, "a", "k=true"))), api.ErrBreak)
	testGoesTo(t, x, put(), api.Schema{}, api.Graph{})
}

type badChange struct {
	c    api.Change
	want api.Errno
}

// badChanges has each error that chapter 13 has, of changes of someSchema.
func badChanges() []badChange {
	l := []badChange{
		{addKind(breed("a", "")), api.ErrClash}, {addKind(breed("A", "")), api.ErrSyntax}, {addKind(breed("h", "zz")), api.ErrNone}, {addKind(breed("h", "", make([]api.Field, 9)...)), api.ErrFull},
		{dropKind("zz"), api.ErrNone}, {dropKind(""), api.ErrNone}, {dropKind("b"), api.ErrState}, {dropKind("c"), api.ErrState},
		{addField("zz", field("l", api.Int)), api.ErrNone}, {addField("a", field("k", api.Int)), api.ErrClash}, {addField("a", key(field("l", api.Int))), api.ErrShape}, {addField("a", must(field("l", api.Int))), api.ErrShape},
		{addWith("a", field("l", api.Int), api.Value{Type: 4}), api.ErrType}, {addWith("a", field("l", api.Int), number(1_000_001)), api.ErrRange}, {addWith("a", field("l", api.Text), words(strings.Repeat("u", 21))), api.ErrFull}, {addWith("a", field("l", api.Text), words("\n")), api.ErrSyntax},
		{addWith("a", field("l", api.Int), words("u")), api.ErrType}, {addField("a", field("l", 0)), api.ErrType}, {addField("a", field("L", api.Int)), api.ErrSyntax}, {addField("c", field("k", api.Int)), api.ErrClash},
		{dropField("zz", "k"), api.ErrNone}, {dropField("a", "l"), api.ErrNone}, {dropField("b", "k"), api.ErrNone},
		{addBond(bond("p a a", 0, 1)), api.ErrClash}, {addBond(bond("w zz a", 0, 1)), api.ErrNone}, {addBond(bond("w a a", 2, 1)), api.ErrRange}, {addBond(bond("W a a", 0, 1)), api.ErrSyntax},
		{dropBond("zz"), api.ErrNone}, {dropBond(""), api.ErrNone},
		{renameTo("zz", "k", "l"), api.ErrNone}, {renameTo("a", "l", "n"), api.ErrNone}, {renameTo("a", "k", "L"), api.ErrSyntax}, {renameTo("a", "k", "m"), api.ErrClash}, {renameTo("a", "k", "x"), api.ErrClash},
		{setTo("zz", 0, 1), api.ErrNone}, {setTo("q", 2, 1), api.ErrRange}, {setTo("q", 0, -2), api.ErrRange},
	}
	for _, what := range []int{0, -1, 9, 256 + api.AddField, 1<<32 + api.AddBond} {
		l = append(l, badChange{api.Change{What: what, Name: "a", Field: field("m", api.Text), To: "l"}, api.ErrRange})
	}
	return l
}

type broken struct {
	s, g string
	c    api.Change
}

// brokenMoves has graphs that conform, and changes that can be done, of which comes what does not, by each fault that may come.
func brokenMoves() []broken {
	return []broken{
		// BadKind.
		{"kind a; kind b", "1 a -; 2 b -", dropKind("b")},
		{"kind a; kind b", "1 a -", dropKind("a")},
		// BadField.
		{"kind a k:int; kind b of a m:int", "1 a k=1; 2 b k=2,m=3", renameTo("a", "k", "m")},
		// NoField.
		{"kind a k:int!; kind b of a k:int!", "1 a k=1; 2 b k=2", dropField("b", "k")},
		{"kind a k:int!; kind b of a k:int!", "1 a k=1; 2 b k=2", renameTo("a", "k", "m")},
		// SameKey.
		{"kind a k:int*; kind b m:int*", "1 a k=1; 2 b m=1", renameTo("a", "k", "m")},
		// TooFew.
		{"kind a", "1 a -", addBond(bond("p a a", 1, -1))},
		{"kind a; bond p a a 1 any", "1 a -; 2 a -; p 1 1; p 1 2; p 2 1", setTo("p", 2, -1)},
		// TooMany.
		{"kind a; bond p a a 1 any", "1 a -; 2 a -; p 1 1; p 1 2; p 2 1", setTo("p", 0, 1)},
		{"kind a; bond p a a 0 any", "1 a -; p 1 1", setTo("p", 0, 0)},
	}
}

// TestAlterWrong: L1, chapter 14's Graph's errors that may come of a graph that conforms: chapter 13's, and ErrBreak.
func TestAlterWrong(t *testing.T) {
	for _, x := range []*Log{filled(t), made(t, someSchema())} {
		for _, b := range badChanges() {
			testNo(t, x, alter(b.c), b.want)
		}
	}
	for _, b := range brokenMoves() {
		if _, err := change.Do(plan(b.s), b.c); err != nil {
			t.Errorf("%s: %v is to be done: %v", b.s, b.c, err)
		}
		x := played(t, plan(b.s), put(making(web(b.g))...))
		testNo(t, x, alter(b.c), api.ErrBreak)
		// Without nodes it goes.
		testGoes(t, made(t, plan(b.s)), alter(b.c))
	}
}

// TestAlterOdd: L1, chapter 14's Graph's errors of a graph that is none, or does not conform. As none that comes by Put and Alter is so, it is laid in by hand.
func TestAlterOdd(t *testing.T) {
	for _, c := range []struct {
		g    string
		want api.Errno
	}{
		{"2 a k=2; 1 a k=1", api.ErrClash},
		{"1001 a k=2", api.ErrRange},
		{"1 A k=2", api.ErrSyntax},
		{"1 a m='u'", api.ErrState},
		{"1 zz -", api.ErrState},
	} {
		x := made(t, someSchema())
		x.now.graph = web(c.g)
		testNo(t, x, alter(addKind(breed("h", ""))), c.want)
		testNo(t, x, alter(dropKind("zz")), api.ErrNone)
	}
}

// TestAlterStopped: L1, ErrState, when it has stopped, ahead of every other error.
func TestAlterStopped(t *testing.T) {
	x := filled(t)
	x.Fail(0)
	if err := x.Sync(); told(err) != api.ErrState {
		t.Errorf("Sync: got %v", err)
	}
	for _, b := range badChanges() {
		testNo(t, x, alter(b.c), api.ErrState)
	}
	testNo(t, x, alter(addBond(bond("w a a", 1, 1))), api.ErrState)
	testNo(t, x, alter(addBond(bond("w a a", 0, 1))), api.ErrState)
	testStopped(t, x)
}

// TestAlterRead: L1 and P2 of DOC.md, what a change has that its What does not read is not kept.
func TestAlterRead(t *testing.T) {
	short, wide := filled(t), filled(t)
	long := strings.Repeat("long", 1000)
	for _, c := range []api.Change{
		addKind(breed("e", "a", field("j", api.Int))), addField("e", field("o", api.Text)), addWith("a", must(field("l", api.Int)), number(7)), dropField("a", "l"), renameTo("a", "m", "n"),
		addBond(bond("s e e", 1, 2)), setTo("s", 0, 5), dropBond("s"), dropKind("e"),
	} {
		testGoes(t, short, alter(c))
		more := api.Change{What: c.What, Name: c.Name, Kind: breed(long, long, field(long, 5)), Bond: bond(long+" a a", c.Bond.Min, c.Bond.Max), Field: field(c.Field.Name, 5), Value: words(long), To: long}
		switch c.What {
		case api.AddKind:
			more.Name, more.Kind = long, c.Kind
		case api.AddField:
			more.Field, more.Value = c.Field, c.Value
		case api.AddBond:
			more.Name, more.Bond = long, c.Bond
		case api.Rename:
			more.To = c.To
		}
		testGoes(t, wide, alter(more))
		testNow(t, wide, allOf(short))
	}
	testCrashes(t, wide, wide.Bytes(), all{short.Schema(), short.Graph(), short.Bytes(), short.Bytes()})
}
