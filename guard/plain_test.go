package guard

import (
	"fmt"
	"math"
	"slices"
	"strings"
	"testing"

	"kinshape/api"
	"kinshape/check"
	"kinshape/delta"
	"kinshape/graph"
	"kinshape/plain"
	"kinshape/record"
	"kinshape/schema"
)

func told(err error) api.Errno { return plain.Told(err) }

func number(n int) api.Value   { return api.Value{Type: api.Int, N: n} }
func truth(n int) api.Value    { return api.Value{Type: api.Bool, N: n} }
func words(s string) api.Value { return api.Value{Type: api.Text, S: s} }

func prop(name string, v api.Value) api.Prop { return api.Prop{Name: name, Value: v} }

func tie(bond string, from, to int) api.Tie { return api.Tie{Bond: bond, From: from, To: to} }

func fault(what, id int, name string) api.Fault {
	return api.Fault{What: what, Node: id, Name: name}
}

// made is the schema of a text.
func made(text string) api.Schema {
	s, at, err := schema.Parse(text)
	if err != nil {
		panic(fmt.Sprint(text, at, err))
	}
	return s
}

// node has the record of a text.
func node(id int, kind, text string) api.Node {
	r, err := record.Parse(text)
	if err != nil {
		panic(fmt.Sprint(text, err))
	}
	return api.Node{Id: id, Kind: kind, Record: r}
}

func nodes(l ...api.Node) api.Graph { return api.Graph{Nodes: l} }

// with has other ties.
func with(g api.Graph, l ...api.Tie) api.Graph { return api.Graph{Nodes: g.Nodes, Ties: l} }

// ids makes a graph of nodes of the kind a.
func ids(l ...int) (g api.Graph) {
	for _, id := range l {
		g.Nodes = append(g.Nodes, node(id, "a", "-"))
	}
	return g
}

func newOp(n api.Node) api.Op  { return api.Op{What: api.New, Node: n} }
func gone(id int) api.Op       { return api.Op{What: api.Gone, Node: api.Node{Id: id}} }
func bindOp(t api.Tie) api.Op  { return api.Op{What: api.Bind, Tie: t} }
func looseOp(t api.Tie) api.Op { return api.Op{What: api.Loose, Tie: t} }
func ops(l ...api.Op) []api.Op { return l }

func set(id int, name string, v api.Value) api.Op {
	return api.Op{What: api.Set, Node: api.Node{Id: id}, Prop: prop(name, v)}
}

func unset(id int, name string) api.Op {
	return api.Op{What: api.Unset, Node: api.Node{Id: id}, Prop: api.Prop{Name: name}}
}

// noWhats has numbers that are no What.
func noWhats() []int {
	return []int{0, -1, -6, 7, 8, 256, 257, 1<<32 + 1, math.MaxInt, math.MinInt}
}

type badSchema struct {
	s    api.Schema
	want api.Errno
}

// badSchemas has one of each number of an error that chapters 3 and 4 have.
func badSchemas() []badSchema {
	kinds := func(l ...api.Kind) api.Schema { return api.Schema{Kinds: l} }
	bonds := func(l ...api.Bond) api.Schema { return api.Schema{Kinds: []api.Kind{{Name: "a"}}, Bonds: l} }
	fields := func(l ...api.Field) api.Schema { return kinds(api.Kind{Name: "a", Fields: l}) }
	return []badSchema{
		{kinds(make([]api.Kind, 13)...), api.ErrFull},
		{bonds(make([]api.Bond, 13)...), api.ErrFull},
		{kinds(api.Kind{}), api.ErrSyntax},
		{kinds(api.Kind{Name: "a"}, api.Kind{Name: "a"}), api.ErrClash},
		{kinds(api.Kind{Name: "a", Of: []string{"a"}}), api.ErrNone},
		{fields(api.Field{Name: "k"}), api.ErrType},
		{fields(api.Field{Name: "k", Type: api.Int, Key: true}), api.ErrShape},
		{bonds(api.Bond{From: "a", To: "a"}), api.ErrSyntax},
		{bonds(api.Bond{Name: "p", From: "a", To: "zz"}), api.ErrNone},
		{bonds(api.Bond{Name: "p", From: "a", To: "a", Min: 21, Max: -1}), api.ErrRange},
	}
}

type badGraph struct {
	g    api.Graph
	want api.Errno
}

// badGraphs has one of each number of an error that chapter 5 has, and those that it stands on.
func badGraphs() []badGraph {
	one := func(l ...api.Prop) api.Graph { return nodes(api.Node{Id: 1, Kind: "a", Record: l}) }
	return []badGraph{
		{nodes(make([]api.Node, 61)...), api.ErrFull},
		{with(api.Graph{}, make([]api.Tie, 121)...), api.ErrFull},
		{ids(0), api.ErrRange},
		{ids(2, 1), api.ErrClash},
		{nodes(node(1, "A", "-")), api.ErrSyntax},
		{one(make(api.Record, 9)...), api.ErrFull},
		{one(prop("K", number(1))), api.ErrSyntax},
		{one(prop("k", api.Value{})), api.ErrType},
		{one(prop("k", number(1000001))), api.ErrRange},
		{one(prop("k", number(1)), prop("k", number(1))), api.ErrClash},
		{with(ids(1), tie("P", 1, 1)), api.ErrSyntax},
		{with(ids(1), tie("p", 1, 1001)), api.ErrRange},
		{with(ids(1), tie("p", 1, 1), tie("p", 1, 1)), api.ErrClash},
	}
}

// someSchema has what each fault needs.
func someSchema() api.Schema {
	return made("kind a k:int* m:text\nkind b of a x:bool!\nkind c\nkind d of b,c\nbond p c a 0 2\nbond q a c 0 any\nbond r b b 1 any\n")
}

// someGraph conforms to it.
func someGraph() api.Graph {
	return with(nodes(node(1, "a", "k=1"), node(2, "b", "k=2,m='u',x=true"), node(4, "c", "-"), node(5, "a", "k=5,m='u'"), node(9, "d", "k=9,x=false"), node(1000, "a", "k=0")),
		tie("p", 4, 1), tie("p", 4, 5), tie("p", 9, 9), tie("q", 1, 4), tie("q", 2, 4), tie("q", 2, 9), tie("r", 2, 2), tie("r", 2, 9), tie("r", 9, 9))
}

type badOp struct {
	o    api.Op
	want api.Errno
}

// badOps has, of each What and of those that are none, each number of an error that an op on someGraph may have.
func badOps() []badOp {
	of := func(l ...api.Prop) api.Op { return newOp(api.Node{Id: 3, Kind: "a", Record: l}) }
	long := words(strings.Repeat("z", 21))
	l := []badOp{
		{newOp(node(0, "a", "k=3")), api.ErrRange},
		{newOp(node(1001, "a", "k=3")), api.ErrRange},
		{newOp(node(3, "A", "k=3")), api.ErrSyntax},
		{of(make(api.Record, 9)...), api.ErrFull},
		{of(prop("K", number(3))), api.ErrSyntax},
		{of(prop("k", api.Value{})), api.ErrType},
		{of(prop("k", number(1000001))), api.ErrRange},
		{of(prop("k", number(3)), prop("m", long)), api.ErrFull},
		{of(prop("m", words("u")), prop("k", number(3))), api.ErrClash},
		{newOp(node(1, "a", "k=3")), api.ErrClash},
		{gone(3), api.ErrNone},
		{gone(math.MinInt), api.ErrNone},
		{set(3, "k", number(3)), api.ErrNone},
		{set(1, "K", number(3)), api.ErrSyntax},
		{set(1, "k", api.Value{}), api.ErrType},
		{set(1, "k", number(-1000001)), api.ErrRange},
		{set(1, "m", long), api.ErrFull},
		{unset(3, "k"), api.ErrNone},
		{unset(1, "m"), api.ErrNone},
		{bindOp(tie("Q", 1, 4)), api.ErrSyntax},
		{bindOp(tie("q", 0, 4)), api.ErrRange},
		{bindOp(tie("q", 1, 1001)), api.ErrRange},
		{bindOp(tie("q", 1, 4)), api.ErrClash},
		{looseOp(tie("q", 4, 1)), api.ErrNone},
		{looseOp(api.Tie{}), api.ErrNone},
	}
	for _, what := range noWhats() {
		l = append(l, badOp{api.Op{What: what, Node: node(3, "a", "k=3"), Prop: prop("k", number(3)), Tie: tie("q", 5, 4)}, api.ErrRange})
	}
	return l
}

// fullGraph has as much as may be, and conforms to fullSchema.
func fullGraph() (g api.Graph) {
	for i := range api.MaxNodes {
		g.Nodes = append(g.Nodes, node(i+1, "a", "a=0,b=1,c=2,d=3,e=4,f=5,g=6,h=7"))
	}
	for i := range api.MaxTies {
		g.Ties = append(g.Ties, tie("p", i/10+1, i%10+1))
	}
	return g
}

func fullSchema() api.Schema {
	return made("kind a a:int b:int c:int d:int e:int f:int g:int h:int\nbond p a a 0 any\n")
}

// fullOps has n ops that node 1 of someGraph takes; behind them it conforms.
func fullOps(n int) (l []api.Op) {
	for i := range n {
		l = append(l, set(1, "k", number(100+i)))
	}
	return l
}

// turned has the ops that lead back to a graph from what ops make of it.
func turned(t *testing.T, g api.Graph, l []api.Op) []api.Op {
	t.Helper()
	back, err := delta.Turn(g, l)
	if len(back) == 0 || err != nil {
		t.Fatalf("there is to be a way back of %v: %v, %v", l, back, err)
	}
	return back
}

// plainAll does ops one by one.
func plainAll(g api.Graph, l []api.Op) (api.Graph, api.Errno) {
	if len(l) > 40 {
		return api.Graph{}, api.ErrFull
	}
	if err := graph.Check(g); err != nil {
		return api.Graph{}, told(err)
	}
	for _, o := range l {
		next, err := delta.Do(g, o)
		if err != nil {
			return api.Graph{}, told(err)
		}
		g = next
	}
	return g, api.OK
}

// plainCheck is what Check answers, told sentence by sentence.
func plainCheck(s api.Schema, g api.Graph, l []api.Op) ([]api.Fault, api.Errno) {
	if _, err := schema.Check(s); err != nil {
		return nil, told(err)
	}
	if err := graph.Check(g); err != nil {
		return nil, told(err)
	}
	if is, _ := check.Conforms(s, g); !is {
		return nil, api.ErrState
	}
	done, wrong := plainAll(g, l)
	if wrong != api.OK {
		return nil, wrong
	}
	faults, err := check.Faults(s, done)
	return faults, told(err)
}

// plainTouched is what Touched answers: the ties alone are gone over, without chapter 7, but for its errors.
func plainTouched(g api.Graph, l []api.Op) ([]int, api.Errno) {
	if _, wrong := plainAll(g, l); wrong != api.OK {
		return nil, wrong
	}
	var touched [1001]bool
	ties := slices.Clone(g.Ties)
	for _, o := range l {
		switch o.What {
		case api.New, api.Set, api.Unset:
			touched[o.Node.Id] = true
		case api.Bind:
			touched[o.Tie.From], touched[o.Tie.To] = true, true
			ties = append(ties, o.Tie)
		case api.Loose:
			touched[o.Tie.From], touched[o.Tie.To] = true, true
			ties = slices.DeleteFunc(ties, func(t api.Tie) bool { return t == o.Tie })
		case api.Gone:
			touched[o.Node.Id] = true
			var left []api.Tie
			for _, t := range ties {
				if t.From != o.Node.Id && t.To != o.Node.Id {
					left = append(left, t)
				} else {
					touched[t.From], touched[t.To] = true, true
				}
			}
			ties = left
		}
	}
	var rising []int
	for id, is := range touched {
		if is {
			rising = append(rising, id)
		}
	}
	return rising, api.OK
}

// testFaults asks Check for faults, and May whether there are none.
func testFaults(t *testing.T, s api.Schema, g api.Graph, l []api.Op, want ...api.Fault) {
	t.Helper()
	if got, err := Check(s, g, l); !slices.Equal(got, want) || err != nil {
		t.Errorf("Check(%v, %v, %v): got %v, %v, want %v", s, g, l, got, err, want)
	}
	if is, err := May(s, g, l); is != (len(want) == 0) || err != nil {
		t.Errorf("May(%v, %v, %v): got %v, %v, want %v", s, g, l, is, err, len(want) == 0)
	}
}

// testWrong asks Check and May for an error, with which nothing else comes.
func testWrong(t *testing.T, s api.Schema, g api.Graph, l []api.Op, want api.Errno) {
	t.Helper()
	if got, err := Check(s, g, l); len(got) != 0 || told(err) != want {
		t.Errorf("Check(%v, %v, %v): got %v, %v, want %v", s, g, l, got, err, want)
	}
	if is, err := May(s, g, l); is || told(err) != want {
		t.Errorf("May(%v, %v, %v): got %v, %v, want %v", s, g, l, is, err, want)
	}
}

// testTouched asks Touched for ids, and the plain telling for the same.
func testTouched(t *testing.T, g api.Graph, l []api.Op, want ...int) {
	t.Helper()
	if got, err := Touched(g, l); !slices.Equal(got, want) || err != nil {
		t.Errorf("Touched(%v, %v): got %v, %v, want %v", g, l, got, err, want)
	}
	if got, wrong := plainTouched(g, l); !slices.Equal(got, want) || wrong != api.OK {
		t.Errorf("the plain telling of %v, %v is %v, %v, not %v", g, l, got, wrong, want)
	}
}

// testUntouched asks Touched for an error, with which nothing else comes.
func testUntouched(t *testing.T, g api.Graph, l []api.Op, want api.Errno) {
	t.Helper()
	if got, err := Touched(g, l); len(got) != 0 || told(err) != want {
		t.Errorf("Touched(%v, %v): got %v, %v, want %v", g, l, got, err, want)
	}
}

// testPlainly holds all calls against the plain tellings.
func testPlainly(t *testing.T, s api.Schema, g api.Graph, l []api.Op) {
	t.Helper()
	faults, wrong := plainCheck(s, g, l)
	if got, err := Check(s, g, l); !slices.Equal(got, faults) || told(err) != wrong {
		t.Fatalf("Check(%v, %v, %v): got %v, %v, want %v, %v", s, g, l, got, err, faults, wrong)
	}
	may := len(faults) == 0 && wrong == api.OK
	if is, err := May(s, g, l); is != may || told(err) != wrong {
		t.Fatalf("May(%v, %v, %v): got %v, %v, want %v, %v", s, g, l, is, err, may, wrong)
	}
	testTouchedPlainly(t, g, l)
}

func testTouchedPlainly(t *testing.T, g api.Graph, l []api.Op) {
	t.Helper()
	touched, wrong := plainTouched(g, l)
	if got, err := Touched(g, l); !slices.Equal(got, touched) || told(err) != wrong {
		t.Fatalf("Touched(%v, %v): got %v, %v, want %v, %v", g, l, got, err, touched, wrong)
	}
}
