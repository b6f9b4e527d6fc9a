package move

import (
	"fmt"
	"math"
	"slices"
	"strconv"
	"strings"
	"testing"

	"kinshape/api"
	"kinshape/change"
	"kinshape/check"
	"kinshape/graph"
	"kinshape/plain"
	"kinshape/record"
	"kinshape/schema"
)

func told(err error) api.Errno { return plain.Told(err) }

func number(n int) api.Value   { return api.Value{Type: api.Int, N: n} }
func truth(n int) api.Value    { return api.Value{Type: api.Bool, N: n} }
func words(s string) api.Value { return api.Value{Type: api.Text, S: s} }

func prop(name string, v api.Value) api.Prop { return api.Prop{Name: name, Value: v} }

func tie(bond string, from, to int) api.Tie { return api.Tie{Bond: bond, From: from, To: to} }

func field(name string, fieldType int) api.Field { return api.Field{Name: name, Type: fieldType} }
func must(f api.Field) api.Field                 { f.Must = true; return f }
func key(f api.Field) api.Field                  { f.Must, f.Key = true, true; return f }

// breed makes a kind: what it comes of, blanks between, and its fields.
func breed(name, of string, own ...api.Field) api.Kind {
	return api.Kind{Name: name, Of: strings.Fields(of), Fields: own}
}

// bond makes a bond: its name and ends, a blank between.
func bond(words string, least, most int) api.Bond {
	w := strings.Split(words, " ")
	return api.Bond{Name: w[0], From: w[1], To: w[2], Min: least, Max: most}
}

func addKind(k api.Kind) api.Change   { return api.Change{What: api.AddKind, Kind: k} }
func dropKind(name string) api.Change { return api.Change{What: api.DropKind, Name: name} }
func addBond(b api.Bond) api.Change   { return api.Change{What: api.AddBond, Bond: b} }
func dropBond(name string) api.Change { return api.Change{What: api.DropBond, Name: name} }
func whatever(what int) api.Change    { return api.Change{What: what} }
func noGraph(g api.Graph) bool        { return len(g.Nodes) == 0 && len(g.Ties) == 0 }
func noSchema(s api.Schema) bool      { return len(s.Kinds) == 0 && len(s.Bonds) == 0 }
func noNode(n api.Node) bool          { return n.Id == 0 && n.Kind == "" && len(n.Record) == 0 }
func nodes(l ...api.Node) api.Graph   { return api.Graph{Nodes: l} }
func sameGraph(a, b api.Graph) bool {
	return slices.EqualFunc(a.Nodes, b.Nodes, sameNode) && slices.Equal(a.Ties, b.Ties)
}
func with(g api.Graph, l ...api.Tie) api.Graph { return api.Graph{Nodes: g.Nodes, Ties: l} }

// addField adds a field to a kind, of which nodes then have nothing.
func addField(kind string, f api.Field) api.Change {
	return api.Change{What: api.AddField, Name: kind, Field: f}
}

// addWith adds a field to a kind, of which nodes then have a value.
func addWith(kind string, f api.Field, v api.Value) api.Change {
	return api.Change{What: api.AddField, Name: kind, Field: f, Value: v}
}

func dropField(kind, name string) api.Change {
	return api.Change{What: api.DropField, Name: kind, Field: api.Field{Name: name}}
}

func renameTo(kind, name, to string) api.Change {
	return api.Change{What: api.Rename, Name: kind, Field: api.Field{Name: name}, To: to}
}

func setTo(name string, least, most int) api.Change {
	return api.Change{What: api.Range, Name: name, Bond: api.Bond{Min: least, Max: most}}
}

// made is the record of a text.
func made(text string) api.Record {
	r, err := record.Parse(text)
	if err != nil {
		panic(fmt.Sprint(text, err))
	}
	return r
}

func node(id int, kind, text string) api.Node {
	return api.Node{Id: id, Kind: kind, Record: made(text)}
}

// plan is the schema of lines, `;` between.
func plan(text string) api.Schema {
	var lines string
	for _, line := range strings.Split(text, ";") {
		if line != "" {
			lines += strings.TrimSpace(line) + "\n"
		}
	}
	s, at, err := schema.Parse(lines)
	if err != nil {
		panic(fmt.Sprint(text, at, err))
	}
	return s
}

// web is the graph of nodes (`id kind record`) and ties (`bond from to`), `;` between.
func web(text string) (g api.Graph) {
	for _, part := range strings.Split(text, ";") {
		w := strings.Fields(part)
		if len(w) == 0 {
			continue
		}
		if id, err := strconv.Atoi(w[0]); err == nil {
			g.Nodes = append(g.Nodes, node(id, w[1], w[2]))
			continue
		}
		from, _ := strconv.Atoi(w[1])
		to, _ := strconv.Atoi(w[2])
		g.Ties = append(g.Ties, tie(w[0], from, to))
	}
	return g
}

// ids makes a graph of nodes of the kind a.
func ids(l ...int) (g api.Graph) {
	for _, id := range l {
		g.Nodes = append(g.Nodes, node(id, "a", "-"))
	}
	return g
}

// upTo has the numbers 1 to n.
func upTo(n int) (l []int) {
	for i := range n {
		l = append(l, i+1)
	}
	return l
}

// someSchema has kinds that come of others, by one and by two ways, a field that several have, and bonds between them.
func someSchema() api.Schema {
	return plan("kind a k:int m:text x:bool; kind b of a f:int; kind c y:int; kind d of b,c k:int z:text; kind e; kind g; bond p a c 0 any; bond q e e 0 2; bond r c d 0 2")
}

// someGraph has nodes of all of its kinds but g, and ties of all of its bonds; it conforms.
func someGraph() api.Graph {
	return web("1 a k=1,m='u'; 2 b f=2,k=1,x=true; 3 c y=5; 5 d f=1,k=3,m='v',x=false,y=7,z='w'; 8 e -; 9 e -; 20 a -; 1000 d -; p 1 3; p 1 5; p 20 3; p 1000 5; q 8 8; q 8 9; q 9 8; r 3 5; r 3 1000; r 5 1000")
}

// someChanges has one of each What, and several of those that touch nodes, each of which someSchema takes.
func someChanges() []api.Change {
	return []api.Change{
		addKind(breed("h", "a c", field("j", api.Int))), dropKind("g"), addBond(bond("w b e", 0, 5)), dropBond("p"), dropBond("q"), dropBond("r"), setTo("q", 0, -1),
		addWith("a", must(field("l", api.Int)), number(7)), addWith("b", field("k", api.Int), number(9)), addWith("c", field("aa", api.Text), words("")), addWith("d", field("zz", api.Bool), truth(1)), addWith("e", field("k", api.Int), number(0)),
		addField("a", field("l", api.Int)), addField("c", field("k", api.Int)),
		dropField("a", "k"), dropField("a", "m"), dropField("b", "f"), dropField("c", "y"), dropField("d", "k"), dropField("d", "z"),
		renameTo("a", "k", "n"), renameTo("a", "x", "a"), renameTo("b", "f", "zz"), renameTo("c", "y", "b"), renameTo("d", "z", "yy"), renameTo("d", "k", "l"),
	}
}

// badNames has texts that are no name: ahead of all names, between them and behind them.
func badNames() []string {
	return []string{"", "K", "kK", "abcdefghi", "k1", "k ", " k", "k=", "k\n", "é", "k\x00", "\xff", "zzzzzzzzz", strings.Repeat("k", 1000)}
}

// noWhats has numbers that no change has as its What.
func noWhats() []int {
	return []int{0, -1, -8, 9, 10, 256 + api.AddField, 1<<32 + api.AddBond, math.MaxInt, math.MinInt}
}

type badSchema struct {
	s    api.Schema
	want api.Errno
}

// badSchemas has one of each number of an error that chapter 4 has, and those that it stands on.
func badSchemas() []badSchema {
	of := func(l []api.Kind, b ...api.Bond) api.Schema { return api.Schema{Kinds: l, Bonds: b} }
	a := breed("a", "")
	return []badSchema{
		{of(make([]api.Kind, 13)), api.ErrFull},
		{of([]api.Kind{a, breed("A", "")}), api.ErrSyntax},
		{of([]api.Kind{a, a}), api.ErrClash},
		{of([]api.Kind{a, breed("b", "b")}), api.ErrNone},
		{of([]api.Kind{a, breed("b", "", field("k", 0))}), api.ErrType},
		{of([]api.Kind{a, breed("b", "", api.Field{Name: "k", Type: api.Int, Key: true})}), api.ErrShape},
		{of([]api.Kind{a}, make([]api.Bond, 13)...), api.ErrFull},
		{of([]api.Kind{a}, bond("p zz a", 0, 1)), api.ErrNone},
		{of([]api.Kind{a}, bond("p a a", 2, 1)), api.ErrRange},
	}
}

type badChange struct {
	c    api.Change
	want api.Errno
}

// badChanges has each error that chapter 13 has, of changes of someSchema.
func badChanges() []badChange {
	l := []badChange{
		{addKind(breed("a", "")), api.ErrClash}, {addKind(breed("A", "")), api.ErrSyntax}, {addKind(breed("h", "zz")), api.ErrNone},
		{dropKind("zz"), api.ErrNone}, {dropKind(""), api.ErrNone}, {dropKind("b"), api.ErrState}, {dropKind("d"), api.ErrState}, {dropKind("e"), api.ErrState},
		{addField("zz", field("l", api.Int)), api.ErrNone}, {addField("a", field("k", api.Int)), api.ErrClash}, {addField("a", key(field("l", api.Int))), api.ErrShape}, {addField("a", must(field("l", api.Int))), api.ErrShape},
		{addWith("a", field("l", api.Int), api.Value{Type: 4}), api.ErrType}, {addWith("a", field("l", api.Int), number(1_000_001)), api.ErrRange}, {addWith("a", field("l", api.Text), words(strings.Repeat("u", 21))), api.ErrFull}, {addWith("a", field("l", api.Text), words("\n")), api.ErrSyntax},
		{addWith("a", field("l", api.Int), words("u")), api.ErrType}, {addWith("a", field("l", 4), number(1)), api.ErrType}, {addField("a", field("l", 0)), api.ErrType}, {addField("a", field("L", api.Int)), api.ErrSyntax}, {addField("a", field("z", api.Int)), api.ErrClash},
		{dropField("zz", "k"), api.ErrNone}, {dropField("a", "l"), api.ErrNone}, {dropField("b", "k"), api.ErrNone}, {dropField("a", ""), api.ErrNone},
		{addBond(bond("p a a", 0, 1)), api.ErrClash}, {addBond(bond("w zz a", 0, 1)), api.ErrNone}, {addBond(bond("w a a", 2, 1)), api.ErrRange}, {addBond(bond("W a a", 0, 1)), api.ErrSyntax},
		{dropBond("zz"), api.ErrNone}, {dropBond(""), api.ErrNone},
		{renameTo("zz", "k", "l"), api.ErrNone}, {renameTo("a", "l", "n"), api.ErrNone}, {renameTo("b", "k", "l"), api.ErrNone}, {renameTo("a", "k", "m"), api.ErrClash}, {renameTo("a", "k", "k"), api.ErrClash}, {renameTo("a", "k", "z"), api.ErrClash},
		{setTo("zz", 0, 1), api.ErrNone}, {setTo("q", 2, 1), api.ErrRange}, {setTo("q", 0, -2), api.ErrRange},
	}
	for _, what := range noWhats() {
		l = append(l, badChange{api.Change{What: what, Name: "a", Field: field("k", api.Int), To: "l"}, api.ErrRange})
	}
	for _, name := range badNames() {
		l = append(l, badChange{renameTo("a", "k", name), api.ErrSyntax})
	}
	return l
}

type badRecord struct {
	r    api.Record
	want api.Errno
}

// badRecords has each error that chapters 1 and 2 have of one.
func badRecords() []badRecord {
	l := []badRecord{
		{make(api.Record, 9), api.ErrFull},
		{api.Record{prop("k", api.Value{})}, api.ErrType},
		{api.Record{prop("k", api.Value{Type: 4})}, api.ErrType},
		{api.Record{prop("k", number(1_000_001))}, api.ErrRange},
		{api.Record{prop("k", truth(2))}, api.ErrRange},
		{api.Record{prop("k", words(strings.Repeat("u", 21)))}, api.ErrFull},
		{api.Record{prop("k", words("\n"))}, api.ErrSyntax},
		{api.Record{prop("k", number(1)), prop("k", number(1))}, api.ErrClash},
		{api.Record{prop("m", number(1)), prop("k", number(1))}, api.ErrClash},
	}
	for _, name := range badNames() {
		l = append(l, badRecord{api.Record{prop(name, number(1))}, api.ErrSyntax})
	}
	return l
}

type badNode struct {
	n    api.Node
	want api.Errno
}

// badNodes has each error that chapter 5 has of a node, but for ErrClash of its id, which none has by itself.
func badNodes() (l []badNode) {
	for _, id := range []int{0, -1, 1001, math.MaxInt, math.MinInt, 1<<32 + 1} {
		l = append(l, badNode{node(id, "a", "k=1"), api.ErrRange}, badNode{api.Node{Id: id, Kind: "A", Record: make(api.Record, 9)}, api.ErrRange})
	}
	for _, name := range badNames() {
		l = append(l, badNode{node(1, name, "k=1"), api.ErrSyntax}, badNode{api.Node{Id: 1000, Kind: name, Record: make(api.Record, 9)}, api.ErrSyntax})
	}
	for _, b := range badRecords() {
		l = append(l, badNode{api.Node{Id: 1, Kind: "a", Record: b.r}, b.want}, badNode{api.Node{Id: 1000, Kind: "zz", Record: b.r}, b.want})
	}
	return l
}

type badGraph struct {
	g    api.Graph
	want api.Errno
}

// badGraphs has each error that chapter 5's Check has.
func badGraphs() []badGraph {
	l := []badGraph{
		{ids(upTo(61)...), api.ErrFull},
		{with(ids(1), make([]api.Tie, 121)...), api.ErrFull},
		{ids(2, 1), api.ErrClash},
		{ids(1, 1), api.ErrClash},
		{with(ids(1), tie("P", 1, 1)), api.ErrSyntax},
		{with(ids(1), tie("p", 0, 1)), api.ErrRange},
		{with(ids(1), tie("p", 1, 1001)), api.ErrRange},
		{with(ids(1), tie("p", 1, 1), tie("p", 1, 1)), api.ErrClash},
	}
	for _, b := range badNodes() {
		l = append(l, badGraph{nodes(b.n), b.want})
	}
	return l
}

// oddGraphs has graphs that are ones, with each fault that a graph may have by someSchema.
func oddGraphs() []api.Graph {
	return []api.Graph{
		web("1 zz -"), web("1 a -; 2 zz -"), web("1 e k=1"), web("1 a k='u'"), web("1 a -; 2 a y=1"),
		web("1 a -; zz 1 1"), web("1 a -; 2 e -; p 1 2"), web("1 a -; p 1 2"), web("p 1 1"), web("zz 1 2"), web("1 e -; 2 e -; 3 e -; q 1 1; q 1 2; q 1 3"),
		web("1 a aa=1,b=1,c=1,d=1,e=1,f=1,g=1,h=1"),
	}
}

// plainIs tells whether a kind is another one, or comes of it.
func plainIs(l []api.Kind, a, b string) bool {
	for _, k := range l {
		if k.Name == a && a == b {
			return true
		}
		for _, of := range k.Of {
			if k.Name == a && plainIs(l, of, b) {
				return true
			}
		}
	}
	return false
}

// plainRecord is what becomes of the record of a node that is touched.
func plainRecord(c api.Change, r api.Record) (to api.Record) {
	has := map[string]bool{}
	for _, p := range r {
		has[p.Name] = true
	}
	for _, p := range r {
		if p.Name == c.Field.Name && c.What == api.DropField {
			continue
		}
		if p.Name == c.Field.Name && c.What == api.Rename && !has[c.To] {
			p.Name = c.To
		}
		to = append(to, p)
	}
	if c.What == api.AddField && c.Value.Type != 0 && !has[c.Field.Name] {
		to = append(to, api.Prop{Name: c.Field.Name, Value: c.Value})
	}
	slices.SortFunc(to, func(a, b api.Prop) int { return strings.Compare(a.Name, b.Name) })
	return to
}

// plainTurned is what becomes of a node that is one, by a change that can be done.
func plainTurned(s api.Schema, c api.Change, n api.Node) (api.Node, api.Errno) {
	to := api.Node{Id: n.Id, Kind: n.Kind, Record: n.Record}
	if (c.What == api.AddField || c.What == api.DropField || c.What == api.Rename) && plainIs(s.Kinds, n.Kind, c.Name) {
		to.Record = plainRecord(c, n.Record)
	}
	if len(to.Record) > 8 {
		return api.Node{}, api.ErrFull
	}
	return to, api.OK
}

// plainNode is what Node answers.
func plainNode(s api.Schema, c api.Change, n api.Node) (api.Node, api.Errno) {
	if _, err := change.Do(s, c); err != nil {
		return api.Node{}, told(err)
	}
	if err := graph.Check(nodes(n)); err != nil {
		return api.Node{}, told(err)
	}
	return plainTurned(s, c, n)
}

// plainNew tells what New says.
func plainNew(s api.Schema, c api.Change, g api.Graph) api.Errno {
	if _, err := change.Do(s, c); err != nil {
		return told(err)
	}
	if err := graph.Check(g); err != nil {
		return told(err)
	}
	if l, _ := check.Faults(s, g); len(l) > 0 {
		return api.ErrState
	}
	return api.OK
}

// plainGraph is what Graph answers.
func plainGraph(s api.Schema, c api.Change, g api.Graph) (to api.Graph, wrong api.Errno) {
	if wrong := plainNew(s, c, g); wrong != api.OK {
		return api.Graph{}, wrong
	}
	for _, n := range g.Nodes {
		moved, wrong := plainTurned(s, c, n)
		if wrong != api.OK {
			return api.Graph{}, wrong
		}
		to.Nodes = append(to.Nodes, moved)
	}
	for _, t := range g.Ties {
		if c.What != api.DropBond || t.Bond != c.Name {
			to.Ties = append(to.Ties, t)
		}
	}
	next, _ := change.Do(s, c)
	if l, _ := check.Faults(next, to); len(l) > 0 {
		return api.Graph{}, api.ErrBreak
	}
	return to, api.OK
}

// sameNode: an empty record and nil are the same.
func sameNode(a, b api.Node) bool {
	return a.Id == b.Id && a.Kind == b.Kind && slices.Equal(a.Record, b.Record)
}

func sameSchema(a, b api.Schema) bool {
	sameKind := func(x, y api.Kind) bool {
		return x.Name == y.Name && slices.Equal(x.Of, y.Of) && slices.Equal(x.Fields, y.Fields)
	}
	return slices.EqualFunc(a.Kinds, b.Kinds, sameKind) && slices.Equal(a.Bonds, b.Bonds)
}

// testNode asks Node for a record; all else is as it was.
func testNode(t *testing.T, s api.Schema, c api.Change, n api.Node, want string) {
	t.Helper()
	if got, err := Node(s, c, n); !sameNode(got, node(n.Id, n.Kind, want)) || err != nil {
		t.Errorf("Node(%v, %v, %v): got %v, %v, want %s", s, c, n, got, err, want)
	}
}

func testNoNode(t *testing.T, s api.Schema, c api.Change, n api.Node, want api.Errno) {
	t.Helper()
	if got, err := Node(s, c, n); !noNode(got) || told(err) != want {
		t.Errorf("Node(%v, %v, %v): got %v, %v, want %v", s, c, n, got, err, want)
	}
}

// testGraph asks Graph for a graph, and a Move for the same.
func testGraph(t *testing.T, s api.Schema, c api.Change, g, want api.Graph) {
	t.Helper()
	if got, err := Graph(s, c, g); !sameGraph(got, want) || err != nil {
		t.Errorf("Graph(%v, %v, %v): got %v, %v, want %v", s, c, g, got, err, want)
	}
	testDone(t, s, c, g, want)
}

// testNoGraph asks Graph for an error.
func testNoGraph(t *testing.T, s api.Schema, c api.Change, g api.Graph, want api.Errno) {
	t.Helper()
	if got, err := Graph(s, c, g); !noGraph(got) || told(err) != want {
		t.Errorf("Graph(%v, %v, %v): got %v, %v, want %v", s, c, g, got, err, want)
	}
}

// testNoNew asks New and Graph for an error.
func testNoNew(t *testing.T, s api.Schema, c api.Change, g api.Graph, want api.Errno) {
	t.Helper()
	if m, err := New(s, c, g); m != nil || told(err) != want {
		t.Errorf("New(%v, %v, %v): got %v, %v, want %v", s, c, g, m, err, want)
	}
	testNoGraph(t, s, c, g, want)
}

// begun is a Move that New makes without an error.
func begun(t *testing.T, s api.Schema, c api.Change, g api.Graph) *Move {
	t.Helper()
	m, err := New(s, c, g)
	if m == nil || err != nil {
		t.Fatalf("New(%v, %v, %v): got %v, %v", s, c, g, m, err)
	}
	return m
}

// testDone asks a Move, in one step, for what Done answers.
func testDone(t *testing.T, s api.Schema, c api.Change, g, want api.Graph) {
	t.Helper()
	m := begun(t, s, c, g)
	if len(g.Nodes) > 0 {
		testStep(t, m, 60, len(g.Nodes))
	}
	testEnd(t, m, s, c, want)
}

// testEnd asks Done for the schema that the change makes, and a graph.
func testEnd(t *testing.T, m *Move, s api.Schema, c api.Change, want api.Graph) {
	t.Helper()
	next, err := change.Do(s, c)
	if err != nil {
		t.Fatalf("Do(%v, %v): %v", s, c, err)
	}
	x, y, err := m.Done()
	if !sameSchema(x, next) || !sameGraph(y, want) || err != nil {
		t.Errorf("Done: got %v, %v, %v, want %v, %v", x, y, err, next, want)
	}
	if ok, err := check.Conforms(x, y); !ok || err != nil {
		t.Errorf("Done: %v does not conform to %v: %v", y, x, err)
	}
}

func testNoDone(t *testing.T, m *Move, want api.Errno) {
	t.Helper()
	if x, y, err := m.Done(); !noSchema(x) || !noGraph(y) || told(err) != want {
		t.Errorf("Done: got %v, %v, %v, want %v", x, y, err, want)
	}
}

func testStep(t *testing.T, m *Move, n, want int) {
	t.Helper()
	if got, err := m.Step(n); got != want || err != nil {
		t.Errorf("Step(%d): got %d, %v, want %d", n, got, err, want)
	}
}

func testNoStep(t *testing.T, m *Move, n int, want api.Errno) {
	t.Helper()
	if got, err := m.Step(n); got != 0 || told(err) != want {
		t.Errorf("Step(%d): got %d, %v, want %v", n, got, err, want)
	}
}

// testNow asks for how many are left, and the graph as it is.
func testNow(t *testing.T, m *Move, left int, want api.Graph) {
	t.Helper()
	if got := m.Left(); got != left {
		t.Errorf("Left: got %d, want %d", got, left)
	}
	if got := m.Graph(); !sameGraph(got, want) {
		t.Errorf("Graph: got %v, want %v", got, want)
	}
}
