package log

import (
	"fmt"
	"slices"
	"strconv"
	"strings"
	"testing"

	"kinshape/api"
	"kinshape/plain"
	"kinshape/record"
	"kinshape/schema"
)

func told(err error) api.Errno { return plain.Told(err) }

func number(n int) api.Value   { return api.Value{Type: api.Int, N: n} }
func truth(n int) api.Value    { return api.Value{Type: api.Bool, N: n} }
func words(s string) api.Value { return api.Value{Type: api.Text, S: s} }

func prop(name string, v api.Value) api.Prop { return api.Prop{Name: name, Value: v} }

func tie(bond string, from, to int) api.Tie { return api.Tie{Bond: bond, From: from, To: to} }

func field(name string, fieldType int) api.Field { return api.Field{Name: name, Type: fieldType} }
func must(f api.Field) api.Field                 { f.Must = true; return f }
func key(f api.Field) api.Field                  { f.Must, f.Key = true, true; return f }

// breed makes a kind: what it comes of, blanks between, and its fields.
func breed(name, of string, own ...api.Field) api.Kind {
	return api.Kind{Name: name, Of: strings.Fields(of), Fields: own}
}

// bond makes a bond: its name and ends, a blank between.
func bond(words string, least, most int) api.Bond {
	w := strings.Split(words, " ")
	return api.Bond{Name: w[0], From: w[1], To: w[2], Min: least, Max: most}
}

// node has the record of a text.
func node(id int, kind, text string) api.Node {
	r, err := record.Parse(text)
	if err != nil {
		panic(fmt.Sprint(text, err))
	}
	return api.Node{Id: id, Kind: kind, Record: r}
}

// plan is the schema of lines, `;` between.
func plan(text string) api.Schema {
	var lines string
	for _, line := range strings.Split(text, ";") {
		if line != "" {
			lines += strings.TrimSpace(line) + "\n"
		}
	}
	s, at, err := schema.Parse(lines)
	if err != nil {
		panic(fmt.Sprint(text, at, err))
	}
	return s
}

// web is the graph of nodes (`id kind record`) and ties (`bond from to`), `;` between.
func web(text string) (g api.Graph) {
	for _, part := range strings.Split(text, ";") {
		w := strings.Fields(part)
		if len(w) == 0 {
			continue
		}
		if id, err := strconv.Atoi(w[0]); err == nil {
			g.Nodes = append(g.Nodes, node(id, w[1], w[2]))
			continue
		}
		from, _ := strconv.Atoi(w[1])
		to, _ := strconv.Atoi(w[2])
		g.Ties = append(g.Ties, tie(w[0], from, to))
	}
	return g
}

func newOp(n api.Node) api.Op               { return api.Op{What: api.New, Node: n} }
func gone(id int) api.Op                    { return api.Op{What: api.Gone, Node: api.Node{Id: id}} }
func bind(bond string, from, to int) api.Op { return api.Op{What: api.Bind, Tie: tie(bond, from, to)} }
func loose(bond string, from, to int) api.Op {
	return api.Op{What: api.Loose, Tie: tie(bond, from, to)}
}
func ops(l ...api.Op) []api.Op { return l }

func set(id int, name string, v api.Value) api.Op {
	return api.Op{What: api.Set, Node: api.Node{Id: id}, Prop: prop(name, v)}
}

func unset(id int, name string) api.Op {
	return api.Op{What: api.Unset, Node: api.Node{Id: id}, Prop: api.Prop{Name: name}}
}

// making has ops that make a graph of an empty one.
func making(g api.Graph) (l []api.Op) {
	for _, n := range g.Nodes {
		l = append(l, newOp(n))
	}
	for _, t := range g.Ties {
		l = append(l, bind(t.Bond, t.From, t.To))
	}
	return l
}

func addKind(k api.Kind) api.Change   { return api.Change{What: api.AddKind, Kind: k} }
func dropKind(name string) api.Change { return api.Change{What: api.DropKind, Name: name} }
func addBond(b api.Bond) api.Change   { return api.Change{What: api.AddBond, Bond: b} }
func dropBond(name string) api.Change { return api.Change{What: api.DropBond, Name: name} }

// addField adds a field to a kind, of which nodes then have nothing.
func addField(kind string, f api.Field) api.Change {
	return api.Change{What: api.AddField, Name: kind, Field: f}
}

// addWith adds a field to a kind, of which nodes then have a value.
func addWith(kind string, f api.Field, v api.Value) api.Change {
	return api.Change{What: api.AddField, Name: kind, Field: f, Value: v}
}

func dropField(kind, name string) api.Change {
	return api.Change{What: api.DropField, Name: kind, Field: api.Field{Name: name}}
}

func renameTo(kind, name, to string) api.Change {
	return api.Change{What: api.Rename, Name: kind, Field: api.Field{Name: name}, To: to}
}

func setTo(name string, least, most int) api.Change {
	return api.Change{What: api.Range, Name: name, Bond: api.Bond{Min: least, Max: most}}
}

// someSchema has what each fault needs.
func someSchema() api.Schema {
	return plan("kind a k:int* m:text; kind b of a x:bool!; kind c; kind d of b,c; bond p c a 0 2; bond q a c 0 any; bond r b b 1 any")
}

// someGraph conforms to it.
func someGraph() api.Graph {
	return web("1 a k=1; 2 b k=2,m='u',x=true; 4 c -; 5 a k=5,m='u'; 9 d k=9,x=false; 1000 a k=0; p 4 1; p 4 5; p 9 9; q 1 4; q 2 4; q 2 9; r 2 2; r 2 9; r 9 9")
}

// step is a call that may be one.
type step struct {
	name string
	call func(*Log) error
}

func put(l ...api.Op) step {
	return step{fmt.Sprintf("Put(%v)", l), func(x *Log) error { return x.Put(l) }}
}

func alter(c api.Change) step {
	return step{fmt.Sprintf("Alter(%v)", c), func(x *Log) error { return x.Alter(c) }}
}

func sync() step { return step{"Sync", (*Log).Sync} }

// made is a log of a schema.
func made(t *testing.T, s api.Schema) *Log {
	t.Helper()
	x, err := New(s)
	if x == nil || err != nil {
		t.Fatalf("New(%v): got %v, %v", s, x, err)
	}
	return x
}

// played is a log behind steps, of which none has an error.
func played(t *testing.T, s api.Schema, l ...step) *Log {
	t.Helper()
	x := made(t, s)
	for _, c := range l {
		testGoes(t, x, c)
	}
	return x
}

// filled is a log of someSchema and someGraph.
func filled(t *testing.T) *Log {
	t.Helper()
	return played(t, someSchema(), put(making(someGraph())...))
}

// all is what a log answers.
type all struct {
	schema      api.Schema
	graph       api.Graph
	bytes, safe int
}

func allOf(x *Log) all { return all{x.Schema(), x.Graph(), x.Bytes(), x.Safe()} }

func (x all) same(y all) bool {
	return sameSchema(x.schema, y.schema) && sameGraph(x.graph, y.graph) && x.bytes == y.bytes && x.safe == y.safe
}

func sameNode(a, b api.Node) bool {
	return a.Id == b.Id && a.Kind == b.Kind && slices.Equal(a.Record, b.Record)
}

func sameGraph(a, b api.Graph) bool {
	return slices.EqualFunc(a.Nodes, b.Nodes, sameNode) && slices.Equal(a.Ties, b.Ties)
}

func sameKind(a, b api.Kind) bool {
	return a.Name == b.Name && slices.Equal(a.Of, b.Of) && slices.Equal(a.Fields, b.Fields)
}

func sameSchema(a, b api.Schema) bool {
	return slices.EqualFunc(a.Kinds, b.Kinds, sameKind) && slices.Equal(a.Bonds, b.Bonds)
}

// testNow asks for all that a log answers.
func testNow(t *testing.T, x *Log, want all) {
	t.Helper()
	if now := allOf(x); !now.same(want) {
		t.Errorf("got %v, want %v", now, want)
	}
}

// testIs asks for a schema and a graph, whatever the bytes are.
func testIs(t *testing.T, x *Log, s api.Schema, g api.Graph) {
	t.Helper()
	testNow(t, x, all{s, g, x.Bytes(), x.Safe()})
}

// testSafe asks for how many bytes there are, all of them safe.
func testSafe(t *testing.T, x *Log, want int) {
	t.Helper()
	if x.Bytes() != want || x.Safe() != want {
		t.Errorf("there are %d bytes, %d of them safe, want %d", x.Bytes(), x.Safe(), want)
	}
}

// testGoes asks a step for no error: there is one record more, which is not safe, or, of Sync, all is safe and nothing else is another.
func testGoes(t *testing.T, x *Log, c step) {
	t.Helper()
	before := allOf(x)
	if err := c.call(x); err != nil {
		t.Fatalf("%s: got %v", c.name, err)
	}
	if c.name == "Sync" {
		before.safe = before.bytes
		testNow(t, x, before)
		return
	}
	if x.Safe() != before.safe || x.Bytes() < before.bytes+2 {
		t.Errorf("%s: there are %d bytes, %d of them safe, before %d, %d", c.name, x.Bytes(), x.Safe(), before.bytes, before.safe)
	}
}

// testGoesTo asks a step for no error, and a schema and a graph behind it.
func testGoesTo(t *testing.T, x *Log, c step, s api.Schema, g api.Graph) {
	t.Helper()
	testGoes(t, x, c)
	testIs(t, x, s, g)
}

// testNo asks a step for an error, behind which all is as it was.
func testNo(t *testing.T, x *Log, c step, want api.Errno) {
	t.Helper()
	before := allOf(x)
	if err := c.call(x); told(err) != want {
		t.Errorf("%s: got %v, want %v", c.name, err, want)
	}
	testNow(t, x, before)
}

// testStops asks a step for ErrState, behind which there are so many bytes more, and all else is as it was.
func testStops(t *testing.T, x *Log, c step, more int) {
	t.Helper()
	before := allOf(x)
	if err := c.call(x); told(err) != api.ErrState {
		t.Errorf("%s: got %v, want %v", c.name, err, api.ErrState)
	}
	before.bytes += more
	testNow(t, x, before)
	testStopped(t, x)
}

// testStopped asks every step for ErrState, what would go, what would not and Sync.
func testStopped(t *testing.T, x *Log) {
	t.Helper()
	for range 2 {
		for _, c := range []step{sync(), put(), put(newOp(node(77, "a", "k=77"))), put(api.Op{}), put(gone(500)), put(make([]api.Op, 41)...), put(newOp(node(78, "zz", "-"))), alter(addKind(breed("new", ""))), alter(api.Change{}), alter(dropKind("zz"))} {
			testNo(t, x, c, api.ErrState)
		}
	}
}

// lengthOf a record, by a log that does not stop.
func lengthOf(t *testing.T, s api.Schema, ahead []step, c step) int {
	t.Helper()
	x := played(t, s, ahead...)
	before := x.Bytes()
	testGoes(t, x, c)
	return x.Bytes() - before
}

// testCrashes asks for all that a log answers behind a Crash; it goes on then.
func testCrashes(t *testing.T, x *Log, keep int, want all) {
	t.Helper()
	want.safe = want.bytes
	x.Crash(keep)
	if now := allOf(x); !now.same(want) {
		t.Errorf("Crash(%d): got %v, want %v", keep, now, want)
	}
}
