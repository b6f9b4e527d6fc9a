package move

import (
	"math/rand"
	"testing"

	"kinshape/api"
)

// TestNodeAddField: M1, the Prop that comes stands ahead of, between and behind those that are there.
func TestNodeAddField(t *testing.T) {
	s := plan("kind a f:int k:int m:int")
	cases := []struct{ name, have, want string }{
		{"b", "-", "b=7"},
		{"b", "f=1", "b=7,f=1"},
		{"g", "f=1", "f=1,g=7"},
		{"b", "f=1,k=2,m=3", "b=7,f=1,k=2,m=3"},
		{"g", "f=1,k=2,m=3", "f=1,g=7,k=2,m=3"},
		{"l", "f=1,k=2,m=3", "f=1,k=2,l=7,m=3"},
		{"n", "f=1,k=2,m=3", "f=1,k=2,m=3,n=7"},
		{"ff", "f=1,k=2,m=3", "f=1,ff=7,k=2,m=3"},
	}
	for _, c := range cases {
		testNode(t, s, addWith("a", field(c.name, api.Int), number(7)), node(3, "a", c.have), c.want)
		testNode(t, s, addWith("a", must(field(c.name, api.Int)), number(7)), node(3, "a", c.have), c.want)
		// Without a Value it stays as it is.
		testNode(t, s, addField("a", field(c.name, api.Int)), node(3, "a", c.have), c.have)
	}
	for _, v := range []struct {
		v    api.Value
		want string
	}{{number(0), "z=0"}, {number(-1_000_000), "z=-1000000"}, {truth(0), "z=false"}, {truth(1), "z=true"}, {words(""), "z=''"}, {words("it's"), "z='it''s'"}} {
		testNode(t, s, addWith("a", field("z", v.v.Type), v.v), node(1000, "a", "-"), v.want)
	}
}

// TestNodeAddFieldThere: M1, a Prop of that Name stays as it is, whatever it has.
func TestNodeAddFieldThere(t *testing.T) {
	s := plan("kind a k:int; kind b of a l:int")
	for _, have := range []string{"l=1", "l=7", "l='u'", "l=false", "k=1,l=1", "l=1,m=1", "k=1,l=1,m=1"} {
		for _, kind := range []string{"a", "b"} {
			testNode(t, s, addWith("a", field("l", api.Int), number(7)), node(1, kind, have), have)
			testNode(t, s, addField("a", field("l", api.Int)), node(1, kind, have), have)
		}
	}
}

// TestNodeNothing: M1, a Value with Type 0 is none, whatever else it has.
func TestNodeNothing(t *testing.T) {
	s := plan("kind a k:int")
	for _, v := range []api.Value{{}, {N: 5}, {S: "u"}, {N: 5_000_000, S: "\n"}} {
		testNode(t, s, addWith("a", field("l", api.Int), v), node(1, "a", "k=1"), "k=1")
	}
}

// TestNodeFull: M1, chapter 2's ErrFull: one Prop more than a Record may have.
func TestNodeFull(t *testing.T) {
	s := plan("kind a k:int; kind b of a")
	const full = "aa=1,b=1,c=1,d=1,e=1,f=1,g=1,h=1"
	for _, name := range []string{"a", "cc", "l"} {
		c := addWith("a", field(name, api.Int), number(7))
		testNoNode(t, s, c, node(1, "a", full), api.ErrFull)
		testNoNode(t, s, c, node(1, "b", full), api.ErrFull)
		// A Node that does not go stays full.
		testNode(t, s, c, node(1, "zz", full), full)
		testNode(t, s, addField("a", field(name, api.Int)), node(1, "a", full), full)
	}
	for _, name := range []string{"aa", "d", "h"} {
		testNode(t, s, addWith("a", field(name, api.Int), number(7)), node(1, "a", full), full)
	}
	c := addWith("a", field("h", api.Int), number(7))
	testNode(t, s, c, node(1, "a", "aa=1,b=1,c=1,d=1,e=1,f=1,g=1"), "aa=1,b=1,c=1,d=1,e=1,f=1,g=1,h=7")
	// One that is full loses a Prop, or has one by another name, and stays right.
	testNode(t, s, dropField("a", "k"), node(1, "a", "aa=1,b=1,c=1,d=1,e=1,f=1,g=1,k=1"), "aa=1,b=1,c=1,d=1,e=1,f=1,g=1")
	testNode(t, s, renameTo("a", "k", "a"), node(1, "a", "aa=1,b=1,c=1,d=1,e=1,f=1,g=1,k=9"), "a=9,aa=1,b=1,c=1,d=1,e=1,f=1,g=1")
}

// TestNodeDropField: M1, without the Prop, wherever it stands and whatever it has; without one it stays as it is.
func TestNodeDropField(t *testing.T) {
	s := plan("kind a f:int k:int m:int")
	cases := []struct{ name, have, want string }{
		{"k", "-", "-"},
		{"k", "k=1", "-"},
		{"f", "f=1,k=2,m=3", "k=2,m=3"},
		{"k", "f=1,k=2,m=3", "f=1,m=3"},
		{"m", "f=1,k=2,m=3", "f=1,k=2"},
		{"k", "f=1,m=3", "f=1,m=3"},
		{"k", "k='u'", "-"},
		{"k", "j=1,kk=2", "j=1,kk=2"},
		{"k", "k=true,kk=2", "kk=2"},
	}
	for _, c := range cases {
		testNode(t, s, dropField("a", c.name), node(3, "a", c.have), c.want)
	}
}

// TestNodeRename: M1, the Prop has the other Name, and stands where it belongs; it stays if there is none, or one of the Name To.
func TestNodeRename(t *testing.T) {
	s := plan("kind a f:int k:int m:int")
	cases := []struct{ name, to, have, want string }{
		{"k", "l", "-", "-"},
		{"k", "l", "k=2", "l=2"},
		{"k", "l", "f=1,k=2,m=3", "f=1,l=2,m=3"},
		{"k", "g", "f=1,k=2,m=3", "f=1,g=2,m=3"},
		{"k", "a", "f=1,k=2,m=3", "a=2,f=1,m=3"},
		{"k", "z", "f=1,k=2,m=3", "f=1,m=3,z=2"},
		{"f", "l", "f=1,k=2,m=3", "k=2,l=1,m=3"},
		{"f", "z", "f=1,k=2,m=3", "k=2,m=3,z=1"},
		{"m", "g", "f=1,k=2,m=3", "f=1,g=3,k=2"},
		{"m", "a", "f=1,k=2,m=3", "a=3,f=1,k=2"},
		{"m", "mm", "f=1,k=2,m=3", "f=1,k=2,mm=3"},
		{"k", "l", "f=1,m=3", "f=1,m=3"},
		{"k", "l", "l=5", "l=5"},
		{"k", "l", "f=1,l=5,m=3", "f=1,l=5,m=3"},
		{"k", "l", "k=2,l=5", "k=2,l=5"},
		{"k", "a", "a=5,f=1,k=2,m=3", "a=5,f=1,k=2,m=3"},
		{"k", "z", "k=2,z='u'", "k=2,z='u'"},
		{"k", "l", "k='it''s',m=true", "l='it''s',m=true"},
	}
	for _, c := range cases {
		testNode(t, s, renameTo("a", c.name, c.to), node(3, "a", c.have), c.want)
	}
}

// TestNodeKinds: M1, a Node whose Kind is one of Kinds: the Kind itself, and those that come of it by one way or two; no other one, nor one that is none.
func TestNodeKinds(t *testing.T) {
	s := plan("kind aa; kind b of aa k:int; kind c of b; kind d of b; kind e of c,d; kind f; kind g of aa; kind h of f,e; kind bb")
	goes := map[string]bool{"b": true, "c": true, "d": true, "e": true, "h": true}
	for _, kind := range []string{"aa", "b", "c", "d", "e", "f", "g", "h", "bb", "zz", "k", "l"} {
		add, drop, other := "k=1", "k=1", "k=1"
		if goes[kind] {
			add, drop, other = "k=1,l=7", "-", "l=1"
		}
		testNode(t, s, addWith("b", field("l", api.Int), number(7)), node(1, kind, "k=1"), add)
		testNode(t, s, dropField("b", "k"), node(1, kind, "k=1"), drop)
		testNode(t, s, renameTo("b", "k", "l"), node(1, kind, "k=1"), other)
	}
	// Those of another Kind that has such a Field, too, do not go; what comes of both does, whosever the Field is.
	s = plan("kind a k:int; kind b k:int; kind c of a,b k:int; kind d of b")
	for _, c := range []struct{ kind, want string }{{"a", "-"}, {"b", "k=1"}, {"c", "-"}, {"d", "k=1"}} {
		testNode(t, s, dropField("a", "k"), node(1, c.kind, "k=1"), c.want)
	}
	// A Bond of the name is no Kind.
	s = plan("kind a k:int; kind b; bond a b b 0 any")
	testNode(t, s, dropBond("a"), node(1, "a", "k=1"), "k=1")
	testNode(t, s, dropField("a", "k"), node(1, "b", "k=1"), "k=1")
}

// TestNodeStays: M1, of each What that touches no Nodes they stay as they are, whatever the Change has beside.
func TestNodeStays(t *testing.T) {
	l := []api.Change{addKind(breed("h", "a", field("j", api.Int))), dropKind("g"), addBond(bond("w a a", 0, 5)), dropBond("p"), setTo("q", 0, -1)}
	for _, c := range l {
		for _, kind := range []string{"a", "b", "c", "d", "e", "g", "h", "zz"} {
			testNode(t, someSchema(), c, node(7, kind, "j=1,k=2,m='u'"), "j=1,k=2,m='u'")
			testNode(t, someSchema(), c, node(7, kind, "-"), "-")
			c.Field, c.Value, c.To = field("k", api.Int), number(7), "l"
			testNode(t, someSchema(), c, node(7, kind, "j=1,k=2,m='u'"), "j=1,k=2,m='u'")
		}
	}
	// Nor is read what another What has: a Value of DropField, a Value and To of others.
	c := dropField("a", "m")
	c.Value, c.To, c.Field = number(7), "k", api.Field{Name: "m", Type: 9, Must: true, Key: true}
	testNode(t, someSchema(), c, node(7, "a", "k=2,m='u'"), "k=2")
	testNode(t, someSchema(), c, node(7, "a", "k=2"), "k=2")
	c = renameTo("a", "m", "b")
	c.Value, c.Field = api.Value{Type: 9}, api.Field{Name: "m", Type: 9, Must: true, Key: true}
	testNode(t, someSchema(), c, node(7, "a", "k=2,m='u'"), "b='u',k=2")
	testNode(t, someSchema(), c, node(7, "a", "k=2"), "k=2")
	c = addWith("a", field("l", api.Int), number(7))
	c.To = "k"
	testNode(t, someSchema(), c, node(7, "a", "k=2"), "k=2,l=7")
}

// TestNodeWrong: M1, chapter 13's Do's error; then chapter 5's errors of the Node; then ErrFull.
func TestNodeWrong(t *testing.T) {
	right := addWith("a", field("l", api.Int), number(7))
	full := node(1, "a", "aa=1,b=1,c=1,d=1,e=1,f=1,g=1,h=1")
	for _, b := range badNodes() {
		for _, c := range append(someChanges(), right) {
			testNoNode(t, someSchema(), c, b.n, b.want)
		}
	}
	for _, n := range []api.Node{full, node(1, "a", "k=1"), node(1, "zz", "-"), {Id: 0, Kind: "a"}, {Id: 1, Kind: "A"}, {Id: 1, Kind: "a", Record: make(api.Record, 9)}} {
		for _, b := range badChanges() {
			testNoNode(t, someSchema(), b.c, n, b.want)
		}
		for _, b := range badSchemas() {
			testNoNode(t, b.s, right, n, b.want)
			testNoNode(t, b.s, whatever(0), n, b.want)
		}
	}
	testNoNode(t, someSchema(), right, full, api.ErrFull)
	full.Id = 1001
	testNoNode(t, someSchema(), right, full, api.ErrRange)
	full.Id, full.Kind = 1, "A"
	testNoNode(t, someSchema(), right, full, api.ErrSyntax)
	full.Kind, full.Record[7].Value = "a", api.Value{}
	testNoNode(t, someSchema(), right, full, api.ErrType)
}

// TestNodeIds: M1, a Node by itself rises, whatever its Id is.
func TestNodeIds(t *testing.T) {
	for id := 1; id <= 1000; id++ {
		testNode(t, someSchema(), dropField("a", "k"), node(id, "a", "k=1,m='u'"), "m='u'")
	}
}

// TestNodeAll: M1, all Records of four names, and all Changes of them, of each Kind, as they are told plainly.
func TestNodeAll(t *testing.T) {
	s := plan("kind a k:int m:int; kind b of a; kind c m:int")
	var l []api.Change
	for _, name := range []string{"j", "k", "l", "m", "n"} {
		l = append(l, addField("a", field(name, api.Int)), addWith("a", field(name, api.Int), number(7)), dropField("a", name))
		for _, to := range []string{"j", "k", "l", "m", "n"} {
			l = append(l, renameTo("a", name, to))
		}
	}
	for bits := range 1 << 5 {
		var r api.Record
		for i, name := range []string{"j", "k", "l", "m", "n"} {
			if bits>>i&1 == 1 {
				r = append(r, prop(name, number(i)))
			}
		}
		for _, kind := range []string{"a", "b", "c", "zz"} {
			for _, c := range l {
				testNodePlainly(t, s, c, api.Node{Id: 1, Kind: kind, Record: r})
			}
		}
	}
}

func testNodePlainly(t *testing.T, s api.Schema, c api.Change, n api.Node) api.Errno {
	t.Helper()
	want, wrong := plainNode(s, c, n)
	if got, err := Node(s, c, n); !sameNode(got, want) || told(err) != wrong {
		t.Fatalf("Node(%v, %v, %v): got %v, %v, want %v, %v", s, c, n, got, err, want, wrong)
	}
	return wrong
}

// TestNodePlainly: M1, Nodes from a fixed seed, right and wrong, conforming or not, as they are told plainly.
func TestNodePlainly(t *testing.T) {
	r := rand.New(rand.NewSource(14))
	seen := map[api.Errno]int{}
	for range 30_000 {
		s := randomSchema(r)
		seen[testNodePlainly(t, s, randomChange(r, s), randomNode(r))]++
	}
	for _, e := range []api.Errno{api.OK, api.ErrNone, api.ErrClash, api.ErrFull, api.ErrRange, api.ErrSyntax, api.ErrType, api.ErrShape} {
		if seen[e] < 20 {
			t.Errorf("%v: seen %d times", e, seen[e])
		}
	}
}
