package session

import (
	"fmt"
	"math"
	"slices"
	"strconv"
	"strings"
	"testing"

	"kinshape/api"
	"kinshape/plain"
	"kinshape/record"
	"kinshape/schema"
)

func told(err error) api.Errno { return plain.Told(err) }

func number(n int) api.Value   { return api.Value{Type: api.Int, N: n} }
func truth(n int) api.Value    { return api.Value{Type: api.Bool, N: n} }
func words(s string) api.Value { return api.Value{Type: api.Text, S: s} }

func prop(name string, v api.Value) api.Prop { return api.Prop{Name: name, Value: v} }

func tie(bond string, from, to int) api.Tie { return api.Tie{Bond: bond, From: from, To: to} }

// node has the record of a text.
func node(id int, kind, text string) api.Node {
	r, err := record.Parse(text)
	if err != nil {
		panic(fmt.Sprint(text, err))
	}
	return api.Node{Id: id, Kind: kind, Record: r}
}

func nodes(l ...api.Node) api.Graph { return api.Graph{Nodes: l} }

// with has other ties.
func with(g api.Graph, l ...api.Tie) api.Graph { return api.Graph{Nodes: g.Nodes, Ties: l} }

// plan is the schema of lines, `;` between.
func plan(text string) api.Schema {
	var lines string
	for _, line := range strings.Split(text, ";") {
		lines += strings.TrimSpace(line) + "\n"
	}
	s, at, err := schema.Parse(lines)
	if err != nil {
		panic(fmt.Sprint(text, at, err))
	}
	return s
}

// web is the graph of nodes (`id kind record`) and ties (`bond from to`), `;` between.
func web(text string) (g api.Graph) {
	for _, part := range strings.Split(text, ";") {
		w := strings.Fields(part)
		if len(w) == 0 {
			continue
		}
		if id, err := strconv.Atoi(w[0]); err == nil {
			g.Nodes = append(g.Nodes, node(id, w[1], w[2]))
			continue
		}
		from, _ := strconv.Atoi(w[1])
		to, _ := strconv.Atoi(w[2])
		g.Ties = append(g.Ties, tie(w[0], from, to))
	}
	return g
}

func newOp(n api.Node) api.Op               { return api.Op{What: api.New, Node: n} }
func gone(id int) api.Op                    { return api.Op{What: api.Gone, Node: api.Node{Id: id}} }
func bind(bond string, from, to int) api.Op { return api.Op{What: api.Bind, Tie: tie(bond, from, to)} }
func loose(bond string, from, to int) api.Op {
	return api.Op{What: api.Loose, Tie: tie(bond, from, to)}
}
func ops(l ...api.Op) []api.Op { return l }

func set(id int, name string, v api.Value) api.Op {
	return api.Op{What: api.Set, Node: api.Node{Id: id}, Prop: prop(name, v)}
}

func unset(id int, name string) api.Op {
	return api.Op{What: api.Unset, Node: api.Node{Id: id}, Prop: api.Prop{Name: name}}
}

// someSchema has what each fault needs.
func someSchema() api.Schema {
	return plan("kind a k:int* m:text; kind b of a x:bool!; kind c; kind d of b,c; bond p c a 0 2; bond q a c 0 any; bond r b b 1 any")
}

// someGraph conforms to it.
func someGraph() api.Graph {
	return web("1 a k=1; 2 b k=2,m='u',x=true; 4 c -; 5 a k=5,m='u'; 9 d k=9,x=false; 1000 a k=0; p 4 1; p 4 5; p 9 9; q 1 4; q 2 4; q 2 9; r 2 2; r 2 9; r 9 9")
}

// looseSchema asks for little, so that most of what several do goes together.
func looseSchema() api.Schema {
	return plan("kind a k:int m:text; bond p a a 0 any; bond q a a 0 any")
}

// looseGraph conforms to it.
func looseGraph() api.Graph {
	return web("1 a k=1; 2 a k=2,m='u'; 3 a -; 4 a k=4; 5 a -; 6 a -; 7 a m='v'; p 1 2; p 3 4; q 2 3; q 5 5; q 6 1")
}

// fullSchema and fullGraph are of as many nodes and ties as may be, but for as many as are left.
func fullSchema() api.Schema { return plan("kind a k:int* m:text; bond p a a 0 any") }

func fullGraph(nodesLeft, tiesLeft int) (g api.Graph) {
	for i := range api.MaxNodes - nodesLeft {
		g.Nodes = append(g.Nodes, node(i+1, "a", fmt.Sprint("k=", i+1)))
	}
	for i := range api.MaxTies - tiesLeft {
		g.Ties = append(g.Ties, tie("p", i/10+1, i%10+1))
	}
	return g
}

// noNumbers has numbers that no session has, or will have here.
func noNumbers() []int {
	return []int{0, -1, -2, 1_000_000, 1 << 32, 1<<32 + 1, 1<<32 + 2, math.MaxInt, math.MinInt}
}

func sameNode(a, b api.Node) bool {
	return a.Id == b.Id && a.Kind == b.Kind && slices.Equal(a.Record, b.Record)
}

func sameGraph(a, b api.Graph) bool {
	return slices.EqualFunc(a.Nodes, b.Nodes, sameNode) && slices.Equal(a.Ties, b.Ties)
}

func noGraph(g api.Graph) bool { return len(g.Nodes) == 0 && len(g.Ties) == 0 }

// base is the one of a schema and a graph that conforms.
func base(t *testing.T, s api.Schema, g api.Graph) *Base {
	t.Helper()
	b, err := New(s, g)
	if b == nil || err != nil {
		t.Fatalf("New(%v, %v): got %v, %v", s, g, b, err)
	}
	return b
}

// begun is a base of which some sessions are open, numbered from 1.
func begun(t *testing.T, s api.Schema, g api.Graph, sessions int) *Base {
	t.Helper()
	b := base(t, s, g)
	for i := range sessions {
		testOpen(t, b, i+1)
	}
	return b
}

// testOpen asks Open for a number.
func testOpen(t *testing.T, b *Base, want int) {
	t.Helper()
	if id, err := b.Open(); id != want || err != nil {
		t.Fatalf("Open: got %d, %v, want %d", id, err, want)
	}
}

// testDo asks Do to do ops, one by one.
func testDo(t *testing.T, b *Base, id int, l ...api.Op) {
	t.Helper()
	for _, o := range l {
		if err := b.Do(id, o); err != nil {
			t.Fatalf("Do(%d, %v): got %v", id, o, err)
		}
	}
}

// testSee asks See for a graph.
func testSee(t *testing.T, b *Base, id int, want api.Graph) {
	t.Helper()
	if got, err := b.See(id); !sameGraph(got, want) || err != nil {
		t.Errorf("See(%d): got %v, %v, want %v", id, got, err, want)
	}
}

// testNow asks for the graph, how many commits there were, and which sessions are open.
func testNow(t *testing.T, b *Base, want api.Graph, age int, ids ...int) {
	t.Helper()
	if got := b.Graph(); !sameGraph(got, want) {
		t.Errorf("Graph: got %v, want %v", got, want)
	}
	if got := b.Age(); got != age {
		t.Errorf("Age: got %d, want %d", got, age)
	}
	if got := b.Ids(); !slices.Equal(got, ids) {
		t.Errorf("Ids: got %v, want %v", got, ids)
	}
}

// all is what a base answers that is asked for everything.
type all struct {
	graph api.Graph
	age   int
	ids   []int
	seen  []api.Graph
}

func allOf(b *Base) all {
	x := all{graph: b.Graph(), age: b.Age(), ids: b.Ids()}
	for _, id := range x.ids {
		g, _ := b.See(id)
		x.seen = append(x.seen, g)
	}
	return x
}

func (x all) same(y all) bool {
	return sameGraph(x.graph, y.graph) && x.age == y.age && slices.Equal(x.ids, y.ids) && slices.EqualFunc(x.seen, y.seen, sameGraph)
}

// testRefused asks a call for an error, behind which all is as it was.
func testRefused(t *testing.T, b *Base, name string, want api.Errno, call func() error) {
	t.Helper()
	before := allOf(b)
	if err := call(); told(err) != want {
		t.Errorf("%s: got %v, want %v", name, err, want)
	}
	if now := allOf(b); !now.same(before) {
		t.Errorf("%s: it is not as it was: %v, before %v", name, now, before)
	}
}

func testNoOpen(t *testing.T, b *Base) {
	t.Helper()
	testRefused(t, b, "Open", api.ErrFull, func() error {
		id, err := b.Open()
		if id != 0 {
			t.Errorf("Open: got %d with an error", id)
		}
		return err
	})
}

func testNoDo(t *testing.T, b *Base, id int, o api.Op, want api.Errno) {
	t.Helper()
	testRefused(t, b, fmt.Sprintf("Do(%d, %v)", id, o), want, func() error { return b.Do(id, o) })
}

func testNoSee(t *testing.T, b *Base, id int) {
	t.Helper()
	testRefused(t, b, fmt.Sprintf("See(%d)", id), api.ErrNone, func() error {
		g, err := b.See(id)
		if !noGraph(g) {
			t.Errorf("See(%d): got %v with an error", id, g)
		}
		return err
	})
}

func testNoAbort(t *testing.T, b *Base, id int) {
	t.Helper()
	testRefused(t, b, fmt.Sprintf("Abort(%d)", id), api.ErrNone, func() error { return b.Abort(id) })
}

func testNoCommit(t *testing.T, b *Base, id int, want api.Errno) {
	t.Helper()
	testRefused(t, b, fmt.Sprintf("Commit(%d)", id), want, func() error { return b.Commit(id) })
}

// testClosed asks all that may be asked of a number for ErrNone.
func testClosed(t *testing.T, b *Base, id int) {
	t.Helper()
	testNoSee(t, b, id)
	testNoAbort(t, b, id)
	testNoCommit(t, b, id, api.ErrNone)
	for _, o := range ops(api.Op{}, set(1, "k", number(77)), gone(1), set(1, "K", api.Value{})) {
		testNoDo(t, b, id, o, api.ErrNone)
	}
}

// testGoes asks a call that closes a session for no error; what the other ones see stays.
func testGoes(t *testing.T, b *Base, name string, id int, call func(int) error) {
	t.Helper()
	before := allOf(b)
	if err := call(id); err != nil {
		t.Fatalf("%s(%d): got %v", name, id, err)
	}
	at := slices.Index(before.ids, id)
	if at < 0 {
		t.Fatalf("%s(%d): it was not open", name, id)
	}
	ids, seen := slices.Delete(before.ids, at, at+1), slices.Delete(before.seen, at, at+1)
	if now := allOf(b); !slices.Equal(now.ids, ids) || !slices.EqualFunc(now.seen, seen, sameGraph) {
		t.Errorf("%s(%d): the other ones are %v and see %v, before %v, %v", name, id, now.ids, now.seen, ids, seen)
	}
	testClosed(t, b, id)
}

// testAbort closes a session, of which nothing stays.
func testAbort(t *testing.T, b *Base, id int) {
	t.Helper()
	g, age := b.Graph(), b.Age()
	testGoes(t, b, "Abort", id, b.Abort)
	if !sameGraph(b.Graph(), g) || b.Age() != age {
		t.Errorf("Abort(%d): got %v, %d, before %v, %d", id, b.Graph(), b.Age(), g, age)
	}
}

// testCommit closes a session, behind which there is a graph, and one commit more.
func testCommit(t *testing.T, b *Base, id int, want api.Graph) {
	t.Helper()
	age := b.Age()
	testGoes(t, b, "Commit", id, b.Commit)
	if !sameGraph(b.Graph(), want) || b.Age() != age+1 {
		t.Errorf("Commit(%d): got %v, %d, want %v, %d", id, b.Graph(), b.Age(), want, age+1)
	}
}
