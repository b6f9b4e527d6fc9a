package check

import (
	"fmt"
	"reflect"
	"slices"
	"testing"

	"kinshape/api"
	"kinshape/plain"
	"kinshape/record"
	"kinshape/schema"
)

func told(err error) api.Errno { return plain.Told(err) }

// made is the schema of a text.
func made(text string) api.Schema {
	s, at, err := schema.Parse(text)
	if err != nil {
		panic(fmt.Sprint(text, at, err))
	}
	return s
}

// node has the record of a text.
func node(id int, kind, text string) api.Node {
	r, err := record.Parse(text)
	if err != nil {
		panic(fmt.Sprint(text, err))
	}
	return api.Node{Id: id, Kind: kind, Record: r}
}

func tie(bond string, from, to int) api.Tie { return api.Tie{Bond: bond, From: from, To: to} }

func nodes(l ...api.Node) api.Graph { return api.Graph{Nodes: l} }

// with has other ties.
func with(g api.Graph, l ...api.Tie) api.Graph { return api.Graph{Nodes: g.Nodes, Ties: l} }

func fault(what, id int, name string) api.Fault {
	return api.Fault{What: what, Node: id, Name: name}
}

// faultCase is a graph by a schema, and what is wrong with it.
type faultCase struct {
	s    api.Schema
	g    api.Graph
	want []api.Fault
}

func wrong(s api.Schema, g api.Graph, want ...api.Fault) faultCase { return faultCase{s, g, want} }

// testFaults asks Faults and Conforms for each case.
func testFaults(t *testing.T, cases []faultCase) {
	t.Helper()
	for i, c := range cases {
		if got, err := Faults(c.s, c.g); !slices.Equal(got, c.want) || err != nil {
			t.Errorf("case %d: Faults of %v by %v: got %v, %v, want %v", i, c.g, c.s, got, err, c.want)
		}
		if is, err := Conforms(c.s, c.g); is != (len(c.want) == 0) || err != nil {
			t.Errorf("case %d: Conforms of %v by %v: got %v, %v beside %v", i, c.g, c.s, is, err, c.want)
		}
	}
}

// testAlone asks Faults, and NodeFaults of each node, which is to have the same.
func testAlone(t *testing.T, cases []faultCase) {
	t.Helper()
	testFaults(t, cases)
	for i, c := range cases {
		var all []api.Fault
		for _, n := range c.g.Nodes {
			l, err := NodeFaults(c.s, n)
			if err != nil {
				t.Errorf("case %d: NodeFaults of %v: %v", i, n, err)
			}
			all = append(all, l...)
		}
		if !slices.Equal(all, c.want) {
			t.Errorf("case %d: NodeFaults of %v, one by one: got %v, want %v", i, c.g, all, c.want)
		}
	}
}

// TestNoFaults: C1, what is as the schema says.
func TestNoFaults(t *testing.T) {
	s := made("kind a k:int* m:text\nkind b of a x:bool!\nkind c\nbond p a c 1 2\nbond q c a 0 any\n")
	testFaults(t, []faultCase{
		wrong(api.Schema{}, api.Graph{}),
		wrong(s, api.Graph{}),
		wrong(s, nodes(node(1, "c", "-"))),
		wrong(s, with(nodes(node(1, "a", "k=1"), node(4, "c", "-")), tie("p", 1, 4))),
		wrong(s, with(nodes(node(1, "a", "k=1,m=''"), node(4, "b", "k=2,x=false"), node(5, "c", "-"), node(1000, "c", "-")),
			tie("p", 1, 5), tie("p", 1, 1000), tie("p", 4, 1000), tie("q", 5, 1), tie("q", 5, 4))),
	})
}

// TestBadKind: C1, the only fault of a node, whatever it has, however often its like is there.
func TestBadKind(t *testing.T) {
	s := made("kind a k:int*\nkind b of a\nbond p a a 1 1\n")
	testAlone(t, []faultCase{
		wrong(api.Schema{}, nodes(node(1, "a", "-")), fault(api.BadKind, 1, "a")),
		wrong(s, nodes(node(1, "zz", "-")), fault(api.BadKind, 1, "zz")),
		wrong(s, nodes(node(1000, "aa", "k=1")), fault(api.BadKind, 1000, "aa")),
		wrong(s, nodes(node(7, "p", "k='x',zz=1")), fault(api.BadKind, 7, "p")),
		wrong(s, nodes(node(7, "k", "k=1")), fault(api.BadKind, 7, "k")),
		wrong(s, nodes(node(1, "zz", "k=1"), node(2, "zz", "k=1"), node(3, "c", "k=1")), fault(api.BadKind, 1, "zz"), fault(api.BadKind, 2, "zz"), fault(api.BadKind, 3, "c")),
	})
	// Its key is none that another node may not have; a tie of it has a bad end, and none is too few or too many.
	end, few := fault(api.BadEnd, 1, "p"), fault(api.TooFew, 2, "p")
	testFaults(t, []faultCase{
		wrong(s, nodes(node(1, "zz", "k=1"), node(2, "a", "k=1")), fault(api.BadKind, 1, "zz"), few),
		wrong(s, with(nodes(node(1, "zz", "k=1"), node(2, "b", "k=1")), tie("p", 1, 1), tie("p", 1, 2)), fault(api.BadKind, 1, "zz"), few, end, end),
		wrong(s, with(nodes(node(1, "zz", "k=1"), node(2, "b", "k=1")), tie("p", 2, 1)), fault(api.BadKind, 1, "zz"), fault(api.BadEnd, 2, "p")),
		wrong(s, with(nodes(node(1, "zz", "-")), tie("q", 1, 1)), fault(api.BadKind, 1, "zz"), fault(api.BadBond, 1, "q")),
	})
}

// TestBadField: C1, of a kind that has no such field, itself or of its kin, or one of another type.
func TestBadField(t *testing.T) {
	s := made("kind a k:int\nkind b of a m:text\nkind c of b x:bool\nkind d\n")
	testAlone(t, []faultCase{
		wrong(s, nodes(node(1, "a", "k=1"), node(2, "b", "k=1,m='x'"), node(3, "c", "k=1,m='',x=true"), node(4, "c", "-"), node(5, "d", "-"))),
		wrong(s, nodes(node(1, "a", "l=1")), fault(api.BadField, 1, "l")),
		wrong(s, nodes(node(3, "d", "k=1")), fault(api.BadField, 3, "k")),
		wrong(s, nodes(node(3, "a", "m='x'")), fault(api.BadField, 3, "m")),
		wrong(s, nodes(node(3, "b", "x=true")), fault(api.BadField, 3, "x")),
		wrong(s, nodes(node(3, "a", "a=1,k=1,kk=1")), fault(api.BadField, 3, "a"), fault(api.BadField, 3, "kk")),
		wrong(s, nodes(node(3, "c", "a=1,k=1,m='x',o=1,x=true,z=1")), fault(api.BadField, 3, "a"), fault(api.BadField, 3, "o"), fault(api.BadField, 3, "z")),
		wrong(s, nodes(node(1, "a", "l=1"), node(2, "a", "l=1")), fault(api.BadField, 1, "l"), fault(api.BadField, 2, "l")),
	})
	values := []string{"0", "true", "''"}
	types := []string{"int", "bool", "text"}
	for i, typ := range types {
		for j, v := range values {
			s := made("kind a k:" + typ + "\nkind b of a\n")
			g := nodes(node(1, "a", "k="+v), node(2, "b", "k="+v))
			c := wrong(s, g, fault(api.BadField, 1, "k"), fault(api.BadField, 2, "k"))
			if i == j {
				c.want = nil
			}
			testAlone(t, []faultCase{c})
		}
	}
}

// TestNoField: C1, what must be there and is not; of another type, it is there.
func TestNoField(t *testing.T) {
	s := made("kind a k:int! l:int m:text*\nkind b of a x:bool!\nkind c\n")
	k, m := fault(api.NoField, 2, "k"), fault(api.NoField, 2, "m")
	testAlone(t, []faultCase{
		wrong(s, nodes(node(1, "a", "k=0,m=''"), node(2, "b", "k=1,m='m',x=false"), node(3, "c", "-"))),
		wrong(s, nodes(node(2, "a", "-")), k, m),
		wrong(s, nodes(node(2, "a", "k=1")), m),
		wrong(s, nodes(node(2, "a", "l=1")), k, m),
		wrong(s, nodes(node(2, "a", "m=''")), k),
		wrong(s, nodes(node(2, "b", "-")), k, m, fault(api.NoField, 2, "x")),
		wrong(s, nodes(node(2, "b", "x=true")), k, m),
		wrong(s, nodes(node(2, "a", "k='x',m=1")), fault(api.BadField, 2, "k"), fault(api.BadField, 2, "m")),
		wrong(s, nodes(node(2, "a", "kk=1,m=true")), fault(api.BadField, 2, "kk"), fault(api.BadField, 2, "m"), k),
		wrong(s, nodes(node(1, "a", "m='x'"), node(2, "a", "m='y'")), fault(api.NoField, 1, "k"), k),
		// A key that is lacking is the same as none.
		wrong(s, nodes(node(1, "a", "k=1"), node(2, "a", "k=1")), fault(api.NoField, 1, "m"), m),
	})
}

// TestSameKey: C1, a node ahead has it, of whichever kind, if that has a key field of the name, too.
func TestSameKey(t *testing.T) {
	s := made("kind a k:int*\nkind b of a\nkind c k:int*\nkind d k:int!\nkind e k:int\nkind f l:int*\nkind g k:text*\nkind h\n")
	same, bad := fault(api.SameKey, 2, "k"), fault(api.BadField, 1, "k")
	testFaults(t, []faultCase{
		wrong(s, nodes(node(1, "a", "k=1"), node(2, "a", "k=2"))),
		wrong(s, nodes(node(1, "a", "k=1"), node(2, "a", "k=1")), same),
		wrong(s, nodes(node(1, "a", "k=0"), node(2, "a", "k=0")), same),
		wrong(s, nodes(node(1, "a", "k=-1000000"), node(2, "a", "k=1000000"))),
		wrong(s, nodes(node(1, "a", "k=1"), node(2, "b", "k=1")), same),
		wrong(s, nodes(node(1, "b", "k=1"), node(2, "a", "k=1")), same),
		wrong(s, nodes(node(1, "b", "k=1"), node(2, "b", "k=1")), same),
		wrong(s, nodes(node(1, "a", "k=1"), node(2, "c", "k=1")), same),
		wrong(s, nodes(node(1, "c", "k=1"), node(2, "b", "k=1")), same),
		wrong(s, nodes(node(1, "g", "k='1'"), node(2, "g", "k='1'")), same),
		wrong(s, nodes(node(1, "g", "k='a'"), node(2, "g", "k='aa'"))),
		// One of the two kinds has no key field of that name.
		wrong(s, nodes(node(1, "a", "k=1"), node(2, "d", "k=1"))),
		wrong(s, nodes(node(1, "d", "k=1"), node(2, "a", "k=1"))),
		wrong(s, nodes(node(1, "d", "k=1"), node(2, "d", "k=1"))),
		wrong(s, nodes(node(1, "e", "k=1"), node(2, "a", "k=1"), node(3, "e", "k=1"))),
		wrong(s, nodes(node(1, "a", "k=1"), node(2, "f", "l=1"))),
		wrong(s, nodes(node(1, "h", "k=1"), node(2, "a", "k=1")), bad),
		// Values of two types are never the same.
		wrong(s, nodes(node(1, "a", "k=1"), node(2, "g", "k='1'"))),
		wrong(s, nodes(node(1, "g", "k=''"), node(2, "a", "k=0"))),
		// Each one behind has the fault, whatever stands between.
		wrong(s, nodes(node(1, "a", "k=1"), node(2, "c", "k=2"), node(7, "b", "k=1"), node(9, "a", "k=2"), node(10, "c", "k=1")),
			fault(api.SameKey, 7, "k"), fault(api.SameKey, 9, "k"), fault(api.SameKey, 10, "k")),
	})
}

// TestKeyOfAnotherType: C1, it is no key of the node that has it, but a node behind may have the same one rightly.
func TestKeyOfAnotherType(t *testing.T) {
	s := made("kind a k:int*\nkind b k:text*\nkind c k:bool*\nkind d k:text!\n")
	bad := func(id int) api.Fault { return fault(api.BadField, id, "k") }
	testFaults(t, []faultCase{
		wrong(s, nodes(node(1, "a", "k='x'"), node(2, "a", "k='x'")), bad(1), bad(2)),
		wrong(s, nodes(node(1, "b", "k='x'"), node(2, "a", "k='x'")), bad(2)),
		wrong(s, nodes(node(1, "a", "k='x'"), node(2, "b", "k='x'")), bad(1), fault(api.SameKey, 2, "k")),
		wrong(s, nodes(node(1, "a", "k='x'"), node(2, "b", "k='y'")), bad(1)),
		wrong(s, nodes(node(1, "c", "k=1"), node(2, "b", "k=1"), node(3, "a", "k=1")), bad(1), bad(2), fault(api.SameKey, 3, "k")),
		wrong(s, nodes(node(1, "a", "k=true"), node(2, "c", "k=true")), bad(1), fault(api.SameKey, 2, "k")),
		wrong(s, nodes(node(1, "a", "k=true"), node(2, "a", "k=1")), bad(1)),
		wrong(s, nodes(node(1, "d", "k=1"), node(2, "a", "k=1")), bad(1)),
	})
}

// TestSeveralKeys: C1, each key by its own name.
func TestSeveralKeys(t *testing.T) {
	s := made("kind a k:int* l:int*\nkind b of a m:text*\n")
	testFaults(t, []faultCase{
		wrong(s, nodes(node(1, "a", "k=1,l=1"))),
		wrong(s, nodes(node(1, "a", "k=1,l=2"), node(2, "a", "k=2,l=1"))),
		wrong(s, nodes(node(1, "a", "k=1,l=2"), node(2, "a", "k=3,l=2")), fault(api.SameKey, 2, "l")),
		wrong(s, nodes(node(1, "b", "k=1,l=2,m=''"), node(2, "b", "k=1,l=2,m=''")), fault(api.SameKey, 2, "k"), fault(api.SameKey, 2, "l"), fault(api.SameKey, 2, "m")),
		wrong(s, nodes(node(1, "b", "k=1,l=2,m=''"), node(2, "b", "l=2,m='x'")), fault(api.NoField, 2, "k"), fault(api.SameKey, 2, "l")),
	})
}

// outOf makes a graph of a node 1 of a kind with n ties of p out of it, and the nodes of kind a to which they go.
func outOf(kind string, n int) api.Graph {
	g := nodes(node(1, kind, "-"))
	for i := range n {
		g.Nodes = append(g.Nodes, node(i+2, "to", "-"))
		g.Ties = append(g.Ties, tie("p", 1, i+2))
	}
	return g
}

// TestFewAndMany: C1, of each Min and Max, at each number of ties.
func TestFewAndMany(t *testing.T) {
	for least := range 21 {
		for most := -1; most <= 20; most++ {
			if most >= 0 && most < least {
				continue
			}
			s := made("kind a\nkind to\n")
			s.Bonds = []api.Bond{{Name: "p", From: "a", To: "to", Min: least, Max: most}}
			for n := range 23 {
				c := wrong(s, outOf("a", n))
				switch {
				case n < least:
					c.want = []api.Fault{fault(api.TooFew, 1, "p")}
				case most >= 0 && n > most:
					c.want = []api.Fault{fault(api.TooMany, 1, "p")}
				}
				testFaults(t, []faultCase{c})
			}
		}
	}
	free := made("kind a\nkind to\nbond p a to 0 any\n")
	testFaults(t, []faultCase{wrong(free, outOf("a", 59))})
	// Ties of which To is no node go out, too.
	g, end := outOf("a", 59), []api.Fault(nil)
	for i := len(g.Ties); i < api.MaxTies; i++ {
		g.Ties = append(g.Ties, tie("p", 1, i+2))
		end = append(end, fault(api.BadEnd, 1, "p"))
	}
	testFaults(t, []faultCase{wrong(free, g, end...)})
}

// TestWhichTies: C1, those of the bond that go out of the node, wherever they go, and of nodes that may be its From alone.
func TestWhichTies(t *testing.T) {
	s := made("kind a\nkind b of a\nkind c\nbond p a c 1 1\nbond q b c 0 1\n")
	few := func(id int) api.Fault { return fault(api.TooFew, id, "p") }
	end := func(id int, name string) api.Fault { return fault(api.BadEnd, id, name) }
	g := nodes(node(1, "a", "-"), node(2, "b", "-"), node(3, "c", "-"), node(4, "c", "-"))
	testFaults(t, []faultCase{
		wrong(s, g, few(1), few(2)),
		wrong(s, with(g, tie("p", 1, 3), tie("p", 2, 3))),
		wrong(s, with(g, tie("p", 1, 3), tie("p", 2, 3), tie("p", 2, 4)), fault(api.TooMany, 2, "p")),
		wrong(s, with(g, tie("p", 1, 3), tie("p", 1, 4)), fault(api.TooMany, 1, "p"), few(2)),
		// They come in, or are of another bond.
		wrong(s, with(g, tie("p", 3, 1), tie("p", 4, 2)), few(1), few(2), end(3, "p"), end(4, "p")),
		wrong(s, with(g, tie("q", 2, 3)), few(1), few(2)),
		wrong(s, with(g, tie("pp", 1, 3), tie("pp", 2, 3)), few(1), few(2), fault(api.BadBond, 1, "pp"), fault(api.BadBond, 2, "pp")),
		// A tie with a bad end goes out.
		wrong(s, with(g, tie("p", 1, 1), tie("p", 2, 9)), end(1, "p"), end(2, "p")),
		wrong(s, with(g, tie("p", 1, 3), tie("p", 1, 9), tie("p", 2, 3)), fault(api.TooMany, 1, "p"), end(1, "p")),
		// A node that may not be the From has none too many.
		wrong(s, with(g, tie("p", 1, 3), tie("p", 2, 3), tie("p", 3, 3), tie("p", 3, 4)), end(3, "p"), end(3, "p")),
		wrong(s, with(g, tie("p", 1, 3), tie("p", 2, 3), tie("q", 1, 3), tie("q", 1, 4), tie("q", 2, 3), tie("q", 2, 4)), fault(api.TooMany, 2, "q"), end(1, "q"), end(1, "q")),
	})
}

// TestBadBond: C1, at the From, whether it is a node or not.
func TestBadBond(t *testing.T) {
	s := made("kind a\nkind b\nbond p a a 0 any\n")
	g := nodes(node(1, "a", "-"), node(2, "b", "-"))
	testFaults(t, []faultCase{
		wrong(api.Schema{}, with(api.Graph{}, tie("p", 7, 8)), fault(api.BadBond, 7, "p")),
		wrong(s, with(g, tie("q", 1, 1)), fault(api.BadBond, 1, "q")),
		wrong(s, with(g, tie("a", 2, 1)), fault(api.BadBond, 2, "a")),
		wrong(s, with(g, tie("o", 1000, 1), tie("p", 1, 1), tie("pp", 2, 1000)), fault(api.BadBond, 1000, "o"), fault(api.BadBond, 2, "pp")),
		wrong(s, with(g, tie("q", 3, 4), tie("q", 3, 5)), fault(api.BadBond, 3, "q"), fault(api.BadBond, 3, "q")),
	})
}

// TestBadEnd: C1, From and To, once of a tie, at its From.
func TestBadEnd(t *testing.T) {
	s := made("kind a\nkind b of a\nkind c of b\nkind d\nbond p b d 0 any\nbond q d b 0 any\n")
	g := nodes(node(1, "a", "-"), node(2, "b", "-"), node(3, "c", "-"), node(4, "d", "-"), node(5, "zz", "-"))
	end := func(id int, name string) api.Fault { return fault(api.BadEnd, id, name) }
	none := fault(api.BadKind, 5, "zz")
	cases := []faultCase{
		wrong(s, with(g, tie("p", 2, 4), tie("p", 3, 4), tie("q", 4, 2), tie("q", 4, 3)), none),
		wrong(s, with(g, tie("p", 6, 6)), none, end(6, "p")),
		wrong(s, with(api.Graph{}, tie("p", 1, 2)), end(1, "p")),
		wrong(s, with(g, tie("p", 1, 4), tie("p", 2, 4), tie("p", 3, 3), tie("p", 5, 9)), none, end(1, "p"), end(3, "p"), end(5, "p")),
	}
	for id := 1; id <= 6; id++ {
		from, to := wrong(s, with(g, tie("p", id, 4)), none), wrong(s, with(g, tie("p", 2, id)), none)
		if id != 2 && id != 3 {
			from.want = append(from.want, end(id, "p"))
		}
		if id != 4 {
			to.want = append(to.want, end(2, "p"))
		}
		cases = append(cases, from, to)
		from, to = wrong(s, with(g, tie("q", id, 3)), none), wrong(s, with(g, tie("q", 4, id)), none)
		if id != 4 {
			from.want = append(from.want, end(id, "q"))
		}
		if id != 2 && id != 3 {
			to.want = append(to.want, end(4, "q"))
		}
		cases = append(cases, from, to)
	}
	testFaults(t, cases)
}

// TestOrder: C1, node by node, of each the properties, the fields by name and the bonds in the schema's order; then tie by tie.
func TestOrder(t *testing.T) {
	s := made("kind z y:int* z:int!\nkind a of z a:int* k:int!\nbond q z a 2 3\nbond p a z 0 0\nbond o a a 1 1\n")
	g := with(nodes(
		node(1, "a", "a=1,k=1,y=1,z=1"),
		node(2, "a", "a=1,b=1,k='x',y=1,zz=true"),
		node(3, "k", "a=1"),
		node(4, "z", "a=1,y=1"),
		node(1000, "a", "y=2,z=false")),
		tie("a", 9, 1), tie("o", 1, 2), tie("o", 1, 3), tie("p", 2, 1), tie("p", 3, 1), tie("q", 1, 2), tie("q", 4, 1), tie("q", 4, 2), tie("q", 4, 4), tie("q", 4, 1000), tie("r", 3, 3))
	testFaults(t, []faultCase{wrong(s, g,
		fault(api.TooFew, 1, "q"), fault(api.TooMany, 1, "o"),
		fault(api.BadField, 2, "b"), fault(api.BadField, 2, "k"), fault(api.BadField, 2, "zz"),
		fault(api.SameKey, 2, "a"), fault(api.SameKey, 2, "y"), fault(api.NoField, 2, "z"),
		fault(api.TooFew, 2, "q"), fault(api.TooMany, 2, "p"), fault(api.TooFew, 2, "o"),
		fault(api.BadKind, 3, "k"),
		fault(api.BadField, 4, "a"), fault(api.SameKey, 4, "y"), fault(api.NoField, 4, "z"), fault(api.TooMany, 4, "q"),
		fault(api.BadField, 1000, "z"), fault(api.NoField, 1000, "a"), fault(api.NoField, 1000, "k"),
		fault(api.TooFew, 1000, "q"), fault(api.TooFew, 1000, "o"),
		fault(api.BadBond, 9, "a"), fault(api.BadEnd, 1, "o"), fault(api.BadEnd, 3, "p"), fault(api.BadEnd, 4, "q"), fault(api.BadBond, 3, "r"),
	)})
}

// TestNodeFaults: C1, one node's own alone: no key is taken, and no ties are asked for.
func TestNodeFaults(t *testing.T) {
	s := made("kind a k:int* m:text\nkind b of a x:bool!\nbond p a a 2 2\nbond q b b 1 any\n")
	cases := []struct {
		n    api.Node
		want []api.Fault
	}{
		{node(1, "a", "k=1"), nil},
		{node(1000, "b", "k=1,m='',x=true"), nil},
		{node(1, "zz", "k='',x=1"), []api.Fault{fault(api.BadKind, 1, "zz")}},
		{node(1000, "a", "-"), []api.Fault{fault(api.NoField, 1000, "k")}},
		{node(3, "b", "a=1,m=1,z=1"), []api.Fault{fault(api.BadField, 3, "a"), fault(api.BadField, 3, "m"), fault(api.BadField, 3, "z"), fault(api.NoField, 3, "k"), fault(api.NoField, 3, "x")}},
		{node(3, "a", "k=true,x=true"), []api.Fault{fault(api.BadField, 3, "k"), fault(api.BadField, 3, "x")}},
	}
	for _, c := range cases {
		// Twice: what was asked before is not to be seen.
		for range 2 {
			if got, err := NodeFaults(s, c.n); !slices.Equal(got, c.want) || err != nil {
				t.Errorf("NodeFaults of %v: got %v, %v, want %v", c.n, got, err, c.want)
			}
		}
	}
	for id := 1; id <= 1000; id++ {
		if got, err := NodeFaults(s, node(id, "c", "-")); !slices.Equal(got, []api.Fault{fault(api.BadKind, id, "c")}) || err != nil {
			t.Errorf("NodeFaults of id %d: got %v, %v", id, got, err)
		}
	}
}

// TestCount: C1, of a kind and those that come of it; what is wrong with a node else does not matter.
func TestCount(t *testing.T) {
	s := made("kind a k:int*\nkind b of a\nkind c of b\nkind d of a\nkind e of c,d\nkind f\nkind g\nbond p a a 1 1\n")
	g := with(nodes(node(1, "a", "k=1"), node(2, "b", "k=1"), node(3, "c", "-"), node(4, "c", "x=1"), node(5, "d", "-"),
		node(6, "e", "-"), node(7, "e", "-"), node(8, "e", "-"), node(9, "f", "-"), node(10, "zz", "-"), node(11, "zz", "-")), tie("q", 1, 99))
	for kind, want := range map[string]int{"a": 8, "b": 6, "c": 5, "d": 4, "e": 3, "f": 1, "g": 0} {
		if got, err := Count(s, g, kind); got != want || err != nil {
			t.Errorf("Count of %q: got %d, %v, want %d", kind, got, err, want)
		}
		if got, err := Count(s, api.Graph{}, kind); got != 0 || err != nil {
			t.Errorf("Count of %q in none: got %d, %v", kind, got, err)
		}
	}
	for _, kind := range []string{"zz", "", "A", "aa", "k", "p", "a ", "a\x00", "abcdefghijk"} {
		if got, err := Count(s, g, kind); got != 0 || told(err) != api.ErrNone {
			t.Errorf("Count of %q: got %d, %v, want ErrNone", kind, got, err)
		}
	}
	if got, err := Count(api.Schema{}, api.Graph{}, "a"); got != 0 || told(err) != api.ErrNone {
		t.Errorf("Count by the empty schema: got %d, %v, want ErrNone", got, err)
	}
}

// TestFullGraph: C1, as much as there may be.
func TestFullGraph(t *testing.T) {
	s, g := fullSchema(), fullGraph()
	testFaults(t, []faultCase{wrong(s, g)})
	if n, err := Count(s, g, s.Kinds[0].Name); n != api.MaxNodes || err != nil {
		t.Errorf("Count: got %d, %v", n, err)
	}
	var all []api.Fault
	for i := range g.Nodes {
		g.Nodes[i].Kind = "zz"
		all = append(all, fault(api.BadKind, i+1, "zz"))
	}
	for i := range g.Ties {
		g.Ties[i].Bond = "zz"
		all = append(all, fault(api.BadBond, g.Ties[i].From, "zz"))
	}
	testFaults(t, []faultCase{wrong(s, g, all...)})
}

// letter is the name of the i-th of several.
func letter(i int) string { return string(rune('a' + i)) }

// fullSchema has 12 kinds, each of the one ahead, with 8 keys in all, and 12 bonds.
func fullSchema() (s api.Schema) {
	for i := range api.MaxTypes {
		k := api.Kind{Name: letter(i)}
		if i > 0 {
			k.Of = []string{letter(i - 1)}
		}
		if i < api.MaxProps {
			k.Fields = []api.Field{{Name: letter(i), Type: api.Int, Must: true, Key: true}}
		}
		s.Kinds = append(s.Kinds, k)
		s.Bonds = append(s.Bonds, api.Bond{Name: letter(i), From: letter(i), To: "a", Max: 10})
	}
	return s
}

// fullGraph has 60 nodes of the last kind of fullSchema, no two with a key alike, and 120 ties.
func fullGraph() (g api.Graph) {
	for i := range api.MaxNodes {
		n := api.Node{Id: i + 1, Kind: letter(api.MaxTypes - 1)}
		for j := range api.MaxProps {
			n.Record = append(n.Record, api.Prop{Name: letter(j), Value: api.Value{Type: api.Int, N: i}})
		}
		g.Nodes = append(g.Nodes, n)
	}
	for i := range api.MaxTypes {
		for j := range 10 {
			g.Ties = append(g.Ties, tie(letter(i), i+1, j+1))
		}
	}
	return g
}

// behind has lists with something behind their length that is wrong where it is read.
func behind() (api.Schema, api.Graph) {
	s := made("kind a k:int*\nkind b of a m:text\nbond p a b 1 1\n")
	s.Kinds = append(s.Kinds, api.Kind{Name: "A"})[:2]
	s.Kinds[1].Of = append(s.Kinds[1].Of, "zz")[:1]
	s.Kinds[1].Fields = append(s.Kinds[1].Fields, api.Field{})[:1]
	s.Bonds = append(s.Bonds, api.Bond{})[:1]
	g := with(nodes(node(1, "a", "k=1,l=1"), node(2, "b", "k=1"), node(0, "", "-")), tie("p", 1, 2), tie("p", 2, 1), tie("", 0, 0))
	g.Nodes, g.Ties = g.Nodes[:2], g.Ties[:2]
	g.Nodes[1].Record = append(g.Nodes[1].Record, api.Prop{})[:1]
	return s, g
}

// whole has all of the lists' memory.
func whole(s api.Schema, g api.Graph) []any {
	of, fields, r := s.Kinds[1].Of, s.Kinds[1].Fields, g.Nodes[1].Record
	return []any{s.Kinds[:3], of[:2], fields[:2], s.Bonds[:2], g.Nodes[:3], g.Ties[:3], r[:2]}
}

// TestFresh: P2 and P4, what is handed in stays as it is, behind its length, too; no answer is kept.
func TestFresh(t *testing.T) {
	s, g := behind()
	want := []api.Fault{fault(api.BadField, 1, "l"), fault(api.SameKey, 2, "k"), fault(api.BadEnd, 2, "p")}
	for range 2 {
		l, err := Faults(s, g)
		if !slices.Equal(l, want) || err != nil {
			t.Errorf("Faults: got %v, %v", l, err)
		}
		m, err := NodeFaults(s, g.Nodes[0])
		if !slices.Equal(m, want[:1]) || err != nil {
			t.Errorf("NodeFaults: got %v, %v", m, err)
		}
		if is, err := Conforms(s, g); is || err != nil {
			t.Errorf("Conforms: got %v, %v", is, err)
		}
		if n, err := Count(s, g, "a"); n != 2 || err != nil {
			t.Errorf("Count: got %v, %v", n, err)
		}
		for _, l := range [][]api.Fault{l[:cap(l)], m[:cap(m)]} {
			for i := range l {
				l[i] = fault(99, 99, "zz")
			}
		}
	}
	if again, other := behind(); !reflect.DeepEqual(whole(s, g), whole(again, other)) {
		t.Errorf("what is handed in is written into: %v", whole(s, g))
	}
}
