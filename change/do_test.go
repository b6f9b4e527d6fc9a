package change

import (
	"math"
	"slices"
	"testing"

	"kinshape/api"
)

// TestWrongSchema: E1, chapter 4's Check of the schema is told ahead of all that is wrong with a change.
func TestWrongSchema(t *testing.T) {
	for _, b := range badSchemas() {
		for _, c := range someChanges() {
			testNoDo(t, b.s, c, b.want)
		}
		for _, what := range append(whats(), noWhats()...) {
			testNoDo(t, b.s, api.Change{What: what}, b.want)
			// Even where the change would take the fault away.
			testNoDo(t, b.s, api.Change{What: what, Name: "a", Field: api.Field{Name: "k"}, To: "l"}, b.want)
			testNoDo(t, b.s, api.Change{What: what, Name: "p", Bond: bond("p a a", 0, 1)}, b.want)
		}
	}
}

// TestNoWhat: E1, a What below and above those that there are, and 0, is ErrRange, whatever else stands in the change.
func TestNoWhat(t *testing.T) {
	for _, what := range noWhats() {
		for _, s := range []api.Schema{{}, someSchema()} {
			testNoDo(t, s, api.Change{What: what}, api.ErrRange)
			for _, c := range someChanges() {
				c.What = what
				testNoDo(t, s, c, api.ErrRange)
			}
		}
	}
}

// TestAddKind: E1, the kind stands at the end, by whatever name.
func TestAddKind(t *testing.T) {
	testDo(t, api.Schema{}, addKind(breed("b", "")), "kind b")
	testDo(t, plan("kind b"), addKind(breed("a", "")), "kind b; kind a")
	s := plan("kind b k:int; kind c; bond p b c 0 1")
	testDo(t, s, addKind(breed("a", "c b", field("k", api.Int), must(field("l", api.Text)), key(field("m", api.Bool)))), "kind b k:int; kind c; kind a of c,b k:int l:text! m:bool*; bond p b c 0 1")
	testDo(t, s, addKind(breed("p", "")), "kind b k:int; kind c; kind p; bond p b c 0 1")
	testDo(t, s, addKind(breed("abcdefgh", "b", fields(8)[1:]...)), "kind b k:int; kind c; kind abcdefgh of b d:int f:int h:int j:int l:int n:int p:int; bond p b c 0 1")
	eleven := api.Schema{Kinds: kinds(11)}
	testDo(t, eleven, addKind(breed("z", "a k b j")), "kind a; kind b; kind c; kind d; kind e; kind f; kind g; kind h; kind i; kind j; kind k; kind z of a,k,b,j")
}

// TestAddKindWrong: E1, what chapter 4's Check of what comes refuses.
func TestAddKindWrong(t *testing.T) {
	s := plan("kind a k:int; kind b; kind c of a; kind d; kind e; bond p a b 0 1")
	for _, name := range badNames() {
		testNoDo(t, s, addKind(breed(name, "")), api.ErrSyntax)
		testNoDo(t, s, addKind(breed(name, "zz", field("K", 9))), api.ErrSyntax)
		testNoDo(t, s, addKind(breed("f", "", field(name, api.Int))), api.ErrSyntax)
		testNoDo(t, s, addKind(api.Kind{Name: "f", Of: []string{name}}), api.ErrNone)
	}
	for _, name := range []string{"a", "b", "e"} {
		testNoDo(t, s, addKind(breed(name, "")), api.ErrClash)
		testNoDo(t, s, addKind(breed(name, "zz", field("k", 9))), api.ErrClash)
	}
	testNoDo(t, s, addKind(s.Kinds[0]), api.ErrClash)
	testNoDo(t, s, addKind(breed("f", "a b c d e")), api.ErrFull)
	testNoDo(t, s, addKind(breed("f", "zz", fields(9)...)), api.ErrFull)
	testNoDo(t, s, addKind(breed("f", "b zz a")), api.ErrNone)
	testNoDo(t, s, addKind(breed("f", "f")), api.ErrNone)
	testNoDo(t, s, addKind(breed("f", "p")), api.ErrNone)
	testNoDo(t, s, addKind(breed("f", "b a b")), api.ErrClash)
	testNoDo(t, s, addKind(breed("f", "", field("k", 0))), api.ErrType)
	testNoDo(t, s, addKind(breed("f", "", field("k", api.Int), field("l", 4))), api.ErrType)
	testNoDo(t, s, addKind(breed("f", "", api.Field{Name: "k", Type: api.Int, Key: true})), api.ErrShape)
	testNoDo(t, s, addKind(breed("f", "", field("l", api.Int), field("k", api.Int))), api.ErrClash)
	testNoDo(t, s, addKind(breed("f", "", field("k", api.Int), field("k", api.Int))), api.ErrClash)
	testNoDo(t, s, addKind(breed("f", "c", field("k", api.Text))), api.ErrClash)
	testNoDo(t, s, addKind(breed("f", "c", must(field("k", api.Int)))), api.ErrClash)
	testNoDo(t, s, addKind(breed("f", "a", fields(8)...)), api.ErrFull)
	for _, k := range []api.Kind{breed("z", ""), breed("a", ""), breed("Z", "zz"), {}} {
		testNoDo(t, api.Schema{Kinds: kinds(12)}, addKind(k), api.ErrFull)
	}
}

// TestDropKind: E1, the schema without the kind: the first one, those between and the last one.
func TestDropKind(t *testing.T) {
	s := plan("kind a k:int; kind b; kind c of b l:text; kind d; kind e of d; kind f; bond p d d 0 1")
	testDo(t, s, dropKindOp("a"), "kind b; kind c of b l:text; kind d; kind e of d; kind f; bond p d d 0 1")
	testDo(t, s, dropKindOp("c"), "kind a k:int; kind b; kind d; kind e of d; kind f; bond p d d 0 1")
	testDo(t, s, dropKindOp("e"), "kind a k:int; kind b; kind c of b l:text; kind d; kind f; bond p d d 0 1")
	testDo(t, s, dropKindOp("f"), "kind a k:int; kind b; kind c of b l:text; kind d; kind e of d; bond p d d 0 1")
	testDo(t, plan("kind a k:int"), dropKindOp("a"), "")
	// The name of a bond is that of no kind, and of a kind alone it is no bond's matter.
	testDo(t, plan("kind p; kind a; bond p a a 0 1"), dropKindOp("p"), "kind a; bond p a a 0 1")
}

// TestDropKindWrong: E1, ErrNone: there is none; ErrState: another one has it in Of, a bond as From, as To, or both.
func TestDropKindWrong(t *testing.T) {
	s := plan("kind a k:int; kind b; kind c of a; kind d of b,c; kind e; kind f; kind g; bond p e b 0 1; bond q e f 0 1; bond r g g 0 1")
	for _, name := range append(badNames(), "zz", "k", "p", "r") {
		testNoDo(t, s, dropKindOp(name), api.ErrNone)
		testNoDo(t, api.Schema{}, dropKindOp(name), api.ErrNone)
	}
	for _, name := range []string{"a", "b", "c", "e", "f", "g"} {
		testNoDo(t, s, dropKindOp(name), api.ErrState)
	}
	// Each reason alone, at each place.
	testNoDo(t, plan("kind a; kind b of a"), dropKindOp("a"), api.ErrState)
	testNoDo(t, plan("kind a; kind b; kind c; kind d; kind e; kind f of b,c,d,a"), dropKindOp("a"), api.ErrState)
	testNoDo(t, plan("kind a; kind b; kind c of b; kind d"), dropKindOp("b"), api.ErrState)
	testNoDo(t, plan("kind a; kind b; bond p a b 0 1"), dropKindOp("a"), api.ErrState)
	testNoDo(t, plan("kind a; kind b; bond p a b 0 1"), dropKindOp("b"), api.ErrState)
	testNoDo(t, plan("kind a; kind b; bond p b b 0 1; bond q b b 0 1; bond r b a 0 1"), dropKindOp("a"), api.ErrState)
	testNoDo(t, plan("kind a; kind b; bond p a b 0 1; bond q b b 0 1"), dropKindOp("a"), api.ErrState)
	testNoDo(t, plan("kind a; bond p a a 0 0"), dropKindOp("a"), api.ErrState)
}

// TestDropField: E1, the kind without the field: the first one, one between and the last one; of those that have it, too, it is not taken.
func TestDropField(t *testing.T) {
	s := plan("kind a k:int l:text! m:bool*; kind b of a k:int; kind c k:int; bond p a b 0 1")
	testDo(t, s, dropFieldOp("a", "k"), "kind a l:text! m:bool*; kind b of a k:int; kind c k:int; bond p a b 0 1")
	testDo(t, s, dropFieldOp("a", "l"), "kind a k:int m:bool*; kind b of a k:int; kind c k:int; bond p a b 0 1")
	testDo(t, s, dropFieldOp("a", "m"), "kind a k:int l:text!; kind b of a k:int; kind c k:int; bond p a b 0 1")
	testDo(t, s, dropFieldOp("b", "k"), "kind a k:int l:text! m:bool*; kind b of a; kind c k:int; bond p a b 0 1")
	testDo(t, s, dropFieldOp("c", "k"), "kind a k:int l:text! m:bool*; kind b of a k:int; kind c; bond p a b 0 1")
}

// TestDropFieldWrong: E1, ErrNone: there is no such kind, or it has no such field itself.
func TestDropFieldWrong(t *testing.T) {
	s := plan("kind a k:int m:text; kind b of a f:int; kind c l:int; bond p a b 0 1")
	for _, name := range append(badNames(), "zz", "a", "b", "j", "l", "n") {
		testNoDo(t, s, dropFieldOp("a", name), api.ErrNone)
	}
	for _, name := range append(badNames(), "zz", "p", "k") {
		testNoDo(t, s, dropFieldOp(name, "k"), api.ErrNone)
		testNoDo(t, api.Schema{}, dropFieldOp(name, "k"), api.ErrNone)
	}
	// What its kin has, or those under it.
	testNoDo(t, s, dropFieldOp("b", "k"), api.ErrNone)
	testNoDo(t, s, dropFieldOp("a", "f"), api.ErrNone)
	testNoDo(t, plan("kind a"), dropFieldOp("a", ""), api.ErrNone)
}

// TestAddBond: E1, the bond stands at the end, by whatever name.
func TestAddBond(t *testing.T) {
	testDo(t, plan("kind a"), addBond(bond("p a a", 0, 0)), "kind a; bond p a a 0 0")
	s := plan("kind a; kind b of a; bond q b a 1 2")
	testDo(t, s, addBond(bond("p b a", 20, -1)), "kind a; kind b of a; bond q b a 1 2; bond p b a 20 any")
	testDo(t, s, addBond(bond("a a b", 3, 20)), "kind a; kind b of a; bond q b a 1 2; bond a a b 3 20")
	got, err := Do(api.Schema{Kinds: kinds(1), Bonds: bonds(11)}, addBond(bond("bl a a", 0, -1)))
	if !same(got, api.Schema{Kinds: kinds(1), Bonds: bonds(12)}) || err != nil {
		t.Errorf("Do of the last bond that may be: got %v, %v", got, err)
	}
}

// TestAddBondWrong: E1, what chapter 4's Check of what comes refuses.
func TestAddBondWrong(t *testing.T) {
	s := plan("kind a; kind b; bond p a b 0 1; bond q b a 0 1")
	for _, name := range badNames() {
		testNoDo(t, s, addBond(api.Bond{Name: name, From: "zz", To: "a", Min: -1}), api.ErrSyntax)
		testNoDo(t, s, addBond(api.Bond{Name: "r", From: name, To: "a"}), api.ErrNone)
		testNoDo(t, s, addBond(api.Bond{Name: "r", From: "a", To: name}), api.ErrNone)
	}
	for _, name := range []string{"p", "q"} {
		testNoDo(t, s, addBond(bond(name+" a b", 0, 1)), api.ErrClash)
		testNoDo(t, s, addBond(bond(name+" zz b", -1, 1)), api.ErrClash)
	}
	testNoDo(t, s, addBond(bond("r zz b", -1, 1)), api.ErrNone)
	testNoDo(t, s, addBond(bond("r b p", -1, 1)), api.ErrNone)
	testNoDo(t, api.Schema{}, addBond(bond("r a a", 0, 1)), api.ErrNone)
	for _, r := range badRanges() {
		testNoDo(t, s, addBond(bond("r a b", r[0], r[1])), api.ErrRange)
	}
	for _, b := range []api.Bond{bond("r a a", 0, 1), bond("ba a a", 0, 1), bond("R zz a", -1, 1)} {
		testNoDo(t, api.Schema{Kinds: kinds(1), Bonds: bonds(12)}, addBond(b), api.ErrFull)
	}
}

// TestDropBond: E1, the schema without the bond: the first one, one between and the last one.
func TestDropBond(t *testing.T) {
	s := plan("kind a; kind b; bond q a b 0 1; bond p b a 1 2; bond r a a 2 any")
	testDo(t, s, dropBondOp("q"), "kind a; kind b; bond p b a 1 2; bond r a a 2 any")
	testDo(t, s, dropBondOp("p"), "kind a; kind b; bond q a b 0 1; bond r a a 2 any")
	testDo(t, s, dropBondOp("r"), "kind a; kind b; bond q a b 0 1; bond p b a 1 2")
	testDo(t, plan("kind p; bond p p p 0 1"), dropBondOp("p"), "kind p")
	for _, name := range append(badNames(), "zz", "a", "b") {
		testNoDo(t, s, dropBondOp(name), api.ErrNone)
		testNoDo(t, api.Schema{}, dropBondOp(name), api.ErrNone)
	}
}

// badRanges has a Min and a Max that no bond has.
func badRanges() [][2]int {
	return [][2]int{{-1, 1}, {-1, -1}, {21, -1}, {21, 21}, {0, 21}, {0, -2}, {1, 0}, {20, 19}, {math.MinInt, 0}, {math.MaxInt, -1}, {0, math.MaxInt}, {0, math.MinInt}}
}

// TestRange: E1, of the bond Min and Max alone are others: of the first one, one between and the last one.
func TestRange(t *testing.T) {
	s := plan("kind a; kind b; bond q a b 3 4; bond p b a 1 2; bond r a a 2 any")
	testDo(t, s, setTo("q", 0, 0), "kind a; kind b; bond q a b 0 0; bond p b a 1 2; bond r a a 2 any")
	testDo(t, s, setTo("p", 0, -1), "kind a; kind b; bond q a b 3 4; bond p b a 0 any; bond r a a 2 any")
	testDo(t, s, setTo("p", 20, 20), "kind a; kind b; bond q a b 3 4; bond p b a 20 20; bond r a a 2 any")
	testDo(t, s, setTo("r", 20, -1), "kind a; kind b; bond q a b 3 4; bond p b a 1 2; bond r a a 20 any")
	testDo(t, s, setTo("r", 5, 9), "kind a; kind b; bond q a b 3 4; bond p b a 1 2; bond r a a 5 9")
	testDo(t, s, setTo("r", 2, -1), "kind a; kind b; bond q a b 3 4; bond p b a 1 2; bond r a a 2 any")
	for _, r := range badRanges() {
		for _, name := range []string{"q", "p", "r"} {
			testNoDo(t, s, setTo(name, r[0], r[1]), api.ErrRange)
		}
		testNoDo(t, s, setTo("zz", r[0], r[1]), api.ErrNone)
	}
	for _, name := range append(badNames(), "zz", "a", "b") {
		testNoDo(t, s, setTo(name, 0, 1), api.ErrNone)
		testNoDo(t, api.Schema{}, setTo(name, 0, 1), api.ErrNone)
	}
}

// TestEachRange: E1, each Min with each Max, near their bounds.
func TestEachRange(t *testing.T) {
	s := plan("kind a; bond p a a 7 8")
	for least := -3; least <= 23; least++ {
		for most := -3; most <= 23; most++ {
			want := api.OK
			if least < 0 || least > 20 || most != -1 && (most < least || most > 20) {
				want = api.ErrRange
			}
			got, err := Do(s, setTo("p", least, most))
			if told(err) != want || want == api.OK && !slices.Equal(got.Bonds, []api.Bond{bond("p a a", least, most)}) {
				t.Errorf("Range to %d, %d: got %v, %v, want %v", least, most, got, err, want)
			}
		}
	}
}

// TestOtherParts: E1, what stands in the parts of a change that its sentence does not name is nobody's matter.
func TestOtherParts(t *testing.T) {
	s := someSchema()
	wrong := api.Change{Name: "A", Kind: breed("A", "zz"), Bond: bond("P zz zz", -1, 21), Field: api.Field{Name: "K", Type: 9, Key: true}, Value: api.Value{Type: 9}, To: "K"}
	with := func(edit func(c *api.Change)) api.Change {
		c := wrong
		edit(&c)
		return c
	}
	for i, c := range []api.Change{
		with(func(c *api.Change) { c.Kind = breed("h", "a c", field("j", api.Int)) }),
		with(func(c *api.Change) { c.Name = "g" }),
		with(func(c *api.Change) { c.Name, c.Field, c.Value = "a", must(field("l", api.Int)), number(7) }),
		with(func(c *api.Change) { c.Name, c.Field.Name = "b", "f" }),
		with(func(c *api.Change) { c.Bond = bond("w b e", 0, 5) }),
		with(func(c *api.Change) { c.Name = "r" }),
		with(func(c *api.Change) { c.Name, c.Field.Name, c.To = "c", "y", "aa" }),
		with(func(c *api.Change) { c.Name, c.Bond.Min, c.Bond.Max = "q", 0, -1 }),
	} {
		plainly := someChanges()[i]
		c.What = plainly.What
		want, err := Do(s, plainly)
		if err != nil {
			t.Errorf("Do(%v): %v", plainly, err)
		}
		if got, err := Do(s, c); !same(got, want) || err != nil {
			t.Errorf("Do(%v): got %v, %v, want %v", c, got, err, want)
		}
	}
}
