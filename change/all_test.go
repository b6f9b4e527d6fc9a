package change

import (
	"math/rand"
	"testing"

	"kinshape/api"
)

// TestAll: E1, each change is done on what those ahead of it made.
func TestAll(t *testing.T) {
	for _, s := range []api.Schema{{}, someSchema(), {Kinds: kinds(12), Bonds: bonds(12)}} {
		testAll(t, s, nil, s)
		testAll(t, s, []api.Change{}, s)
	}
	testAll(t, someSchema(), someChanges(), plan("kind a k:int l:int! m:text! x:bool*; kind b of a; kind c aa:int; kind d of b,c k:int z:text; kind e; kind h of a,c j:int; bond p a c 0 any; bond q e e 0 any; bond u e a 3 3; bond w b e 0 5"))
	s := plan("kind a k:int; kind b of a; bond p a b 0 1")
	testAll(t, s, changes(dropBondOp("p"), dropKindOp("b"), dropKindOp("a")), api.Schema{})
	testAll(t, s, changes(dropFieldOp("a", "k"), addFieldOp("a", field("k", api.Text))), plan("kind a k:text; kind b of a; bond p a b 0 1"))
	testAll(t, s, changes(rename("a", "k", "l"), addFieldOp("b", field("k", api.Text)), rename("b", "k", "m"), rename("a", "l", "k")), plan("kind a k:int; kind b of a m:text; bond p a b 0 1"))
	testAll(t, s, changes(addKind(breed("c", "")), addBond(bond("q c a", 1, 1)), setTo("q", 2, 2), addWith("c", must(field("k", api.Int)), number(1)), setTo("q", 3, -1)), plan("kind a k:int; kind b of a; kind c k:int!; bond p a b 0 1; bond q c a 3 any"))
	testAll(t, api.Schema{}, changes(addKind(breed("a", "")), addKind(breed("b", "a")), dropKindOp("b"), addKind(breed("b", ""))), plan("kind a; kind b"))
}

// TestAllStops: E1, the number of the first change with an error, which is Do's on what those ahead of it made.
func TestAllStops(t *testing.T) {
	s := plan("kind a k:int; kind b of a; bond p a b 0 1")
	testNoAll(t, s, changes(api.Change{}), 0, api.ErrRange)
	testNoAll(t, s, changes(dropBondOp("p"), dropBondOp("p")), 1, api.ErrNone)
	testNoAll(t, s, changes(dropKindOp("b"), dropBondOp("p")), 0, api.ErrState)
	testNoAll(t, s, changes(dropBondOp("p"), dropKindOp("a"), api.Change{}), 1, api.ErrState)
	testNoAll(t, s, changes(dropBondOp("p"), dropKindOp("b"), dropKindOp("a"), dropKindOp("a")), 3, api.ErrNone)
	testNoAll(t, s, changes(addKind(breed("c", "b")), addKind(breed("c", "")), dropKindOp("zz")), 1, api.ErrClash)
	testNoAll(t, s, changes(addFieldOp("b", field("l", api.Int)), addFieldOp("a", field("l", api.Text)), rename("a", "zz", "k")), 1, api.ErrClash)
	testNoAll(t, s, changes(setTo("p", 1, 1), setTo("p", 2, 1), setTo("zz", 2, 1)), 1, api.ErrRange)
	// A fault that the next one would take away is one.
	testNoAll(t, s, changes(addFieldOp("b", field("k", api.Text)), dropFieldOp("a", "k")), 0, api.ErrClash)
	testNoAll(t, s, changes(addBond(bond("q c a", 0, 1)), addKind(breed("c", ""))), 0, api.ErrNone)
	testNoAll(t, api.Schema{Kinds: kinds(11)}, changes(addKind(breed("y", "")), addKind(breed("z", "")), dropKindOp("a")), 1, api.ErrFull)
}

// manyChanges has n changes that the kind a takes, and what they make of it.
func manyChanges(n int) (l []api.Change, want api.Schema) {
	for i := range n {
		l = append(l, setTo("p", i%20, 20))
	}
	if n == 0 {
		return l, plan("kind a; bond p a a 0 0")
	}
	return l, api.Schema{Kinds: kinds(1), Bonds: []api.Bond{bond("p a a", (n-1)%20, 20)}}
}

// TestMaxOps: E1, as many as MaxOps are done, and of one more none is, whatever else is wrong.
func TestMaxOps(t *testing.T) {
	s := plan("kind a; bond p a a 0 0")
	for n := range 41 {
		l, want := manyChanges(n)
		testAll(t, s, l, want)
	}
	for _, n := range []int{41, 42, 80, 1000} {
		l, _ := manyChanges(n)
		testNoAll(t, s, l, 0, api.ErrFull)
		testNoAll(t, api.Schema{}, l, 0, api.ErrFull)
		testNoAll(t, s, make([]api.Change, n), 0, api.ErrFull)
		// Ahead of the schema's fault.
		for _, b := range badSchemas() {
			testNoAll(t, b.s, l, 0, api.ErrFull)
			testNoAll(t, b.s, make([]api.Change, n), 0, api.ErrFull)
		}
	}
}

// TestAllWrongSchema: E1, a schema that is wrong is told at 0, without any change, too, and ahead of what is wrong with one.
func TestAllWrongSchema(t *testing.T) {
	for _, b := range badSchemas() {
		testNoAll(t, b.s, nil, 0, b.want)
		testNoAll(t, b.s, someChanges(), 0, b.want)
		testNoAll(t, b.s, make([]api.Change, 40), 0, b.want)
		testNoAll(t, b.s, changes(addKind(breed("y", "")), api.Change{}), 0, b.want)
	}
}

// TestAllPlaces: E1, a change with an error at each place of as many as may be, with another one at the end.
func TestAllPlaces(t *testing.T) {
	s := plan("kind a k:int; kind b of a; bond p a a 0 0")
	faulty := []struct {
		c    api.Change
		want api.Errno
	}{
		{api.Change{What: 9}, api.ErrRange},
		{addKind(breed("a", "")), api.ErrClash},
		{dropKindOp("a"), api.ErrState},
		{addFieldOp("a", key(field("l", api.Int))), api.ErrShape},
		{addFieldOp("b", field("k", api.Bool)), api.ErrClash},
		{dropFieldOp("b", "k"), api.ErrNone},
		{addBond(bond("P a a", 0, 1)), api.ErrSyntax},
		{addWith("a", field("l", api.Int), truth(1)), api.ErrType},
		{addWith("a", field("l", api.Text), words("123456789012345678901")), api.ErrFull},
		{setTo("p", 3, 2), api.ErrRange},
	}
	for at := range 40 {
		for _, first := range faulty {
			for _, second := range faulty {
				l, _ := manyChanges(40)
				l[39] = second.c
				l[at] = first.c
				testNoAll(t, s, l, at, first.want)
			}
		}
	}
}

// TestKinds: E1, those under the kind that is named, itself among them, in their order; of all but AddField, DropField and Rename none.
func TestKinds(t *testing.T) {
	s := plan("kind x k:int; kind b l:int; kind d of b m:int; kind a of d,x; kind c of b; kind e; kind f of a; bond p x b 0 1; bond x b x 0 1")
	for _, c := range []struct{ name, field, want string }{
		{"x", "k", "x a f"},
		{"b", "l", "b d a c f"},
		{"d", "m", "d a f"},
	} {
		testKinds(t, s, addFieldOp(c.name, field("n", api.Int)), c.want)
		testKinds(t, s, addWith(c.name, must(field("n", api.Int)), number(1)), c.want)
		testKinds(t, s, dropFieldOp(c.name, c.field), c.want)
		testKinds(t, s, rename(c.name, c.field, "n"), c.want)
	}
	for _, name := range []string{"a", "c", "e", "f"} {
		want := name
		if name == "a" {
			want = "a f"
		}
		testKinds(t, s, addFieldOp(name, field("n", api.Int)), want)
	}
	for _, c := range changes(addKind(breed("y", "b")), dropKindOp("e"), dropKindOp("f"), addBond(bond("q b x", 0, 1)), dropBondOp("p"), dropBondOp("x"), setTo("p", 0, 0), setTo("x", 0, 0)) {
		testKinds(t, s, c, "")
		c.Field, c.To = field("k", api.Int), "n"
		testKinds(t, s, c, "")
	}
}

// manyNames has names, most of which a small schema has.
func manyNames() []string { return []string{"a", "b", "c", "k", "l", "p", "q", "z", "K", ""} }

// TestEachChange: E1, changes of all small names on some schemas, against the plain tellings.
func TestEachChange(t *testing.T) {
	seen := map[api.Errno]int{}
	for _, text := range []string{"", "kind a", "kind a k:int", "kind a k:int; kind b of a l:int", "kind a; kind b of a k:int!; kind c of b", "kind b k:text; kind a of b k:text l:bool*; bond p b a 0 1", "kind a; kind b; kind c of b,a; bond q b b 1 any; bond p a b 0 1", "kind a k:int l:int; kind b k:int; kind c of a,b l:int; bond p c c 2 3"} {
		s := plan(text)
		for _, what := range append(whats(), 0, 9) {
			for _, name := range manyNames() {
				for _, own := range manyNames() {
					for _, to := range manyNames() {
						seen[testPlainly(t, s, api.Change{What: what, Name: name, Kind: breed(name, own, field(to, api.Int)), Bond: bond("p "+own+" "+to, 1, 2), Field: field(own, api.Int), To: to})]++
						seen[testPlainly(t, s, api.Change{What: what, Name: name, Kind: breed(own, to), Bond: bond(name+" "+own+" "+to, 3, 2), Field: must(field(own, api.Bool)), Value: truth(1), To: to})]++
					}
				}
			}
		}
	}
	for _, e := range []api.Errno{api.OK, api.ErrRange, api.ErrSyntax, api.ErrNone, api.ErrState, api.ErrClash} {
		if seen[e] < 100 {
			t.Errorf("%v came %d times alone", e, seen[e])
		}
	}
}

// TestAtRandom: E1, lists of changes from a fixed seed, against the plain tellings.
func TestAtRandom(t *testing.T) {
	r := rand.New(rand.NewSource(13))
	good, longest := 0, 0
	for range 4000 {
		s, l := someSchema(), []api.Change(nil)
		for range r.Intn(9) {
			l = append(l, randomChange(r))
		}
		for _, c := range l {
			testPlainly(t, s, c)
		}
		want, at, wrong := plainAll(s, l)
		if got, i, err := All(s, l); !same(got, want) || i != at || told(err) != wrong {
			t.Fatalf("All(%v, %v): got %v, %d, %v, want %v, %d, %v", s, l, got, i, err, want, at, wrong)
		}
		if wrong == api.OK {
			good++
			longest = max(longest, len(l))
		}
	}
	if good < 400 || longest < 3 {
		t.Errorf("%d lists alone were right, the longest of %d", good, longest)
	}
}

// randomChange is one that someSchema may well take.
func randomChange(r *rand.Rand) api.Change {
	pick := func(l ...string) string { return l[r.Intn(len(l))] }
	kindName := func() string { return pick("a", "b", "c", "d", "e", "g", "h") }
	fieldName := func() string { return pick("f", "k", "m", "x", "y", "z", "l", "n") }
	bondName := func() string { return pick("p", "q", "r", "u", "w") }
	f := api.Field{Name: fieldName(), Type: 1 + r.Intn(3), Must: r.Intn(3) == 0, Key: r.Intn(9) == 0}
	c := api.Change{What: 1 + r.Intn(8), Name: kindName(), Kind: breed(kindName(), pick("", "a", "b c"), f), Field: f, To: fieldName()}
	c.Bond = bond(bondName()+" "+kindName()+" "+kindName(), r.Intn(4), r.Intn(6)-1)
	if c.What == api.DropBond || c.What == api.Range {
		c.Name = bondName()
	}
	if r.Intn(2) == 0 {
		c.Value = api.Value{Type: f.Type}
	}
	return c
}
