package path

import (
	"fmt"
	"math"
	"reflect"
	"slices"
	"strings"
	"testing"

	"kinshape/api"
	"kinshape/check"
	"kinshape/graph"
	"kinshape/plain"
	"kinshape/record"
	"kinshape/schema"
	"kinshape/value"
)

func told(err error) api.Errno { return plain.Told(err) }

func number(n int) api.Value   { return api.Value{Type: api.Int, N: n} }
func truth(n int) api.Value    { return api.Value{Type: api.Bool, N: n} }
func words(s string) api.Value { return api.Value{Type: api.Text, S: s} }

func prop(name string, v api.Value) api.Prop { return api.Prop{Name: name, Value: v} }

func tie(bond string, from, to int) api.Tie { return api.Tie{Bond: bond, From: from, To: to} }

func is(name string, v api.Value) api.Test    { return api.Test{Name: name, How: api.Is, Value: v} }
func isnt(name string, v api.Value) api.Test  { return api.Test{Name: name, How: api.Isnt, Value: v} }
func below(name string, v api.Value) api.Test { return api.Test{Name: name, How: api.Below, Value: v} }
func has(name string) api.Test                { return api.Test{Name: name, How: api.Has} }

func first(kind string, l ...api.Test) api.Step { return api.Step{Kind: kind, Tests: l} }

func over(bond, kind string, l ...api.Test) api.Step {
	return api.Step{Bond: bond, Kind: kind, Tests: l}
}

func back(bond, kind string, l ...api.Test) api.Step {
	return api.Step{Bond: bond, Back: true, Kind: kind, Tests: l}
}

func steps(l ...api.Step) []api.Step { return l }

// made is the record of a text.
func made(text string) api.Record {
	r, err := record.Parse(text)
	if err != nil {
		panic(fmt.Sprint(text, err))
	}
	return r
}

// plan is the schema of a text.
func plan(text string) api.Schema {
	s, at, err := schema.Parse(text)
	if err != nil {
		panic(fmt.Sprint(text, at, err))
	}
	return s
}

// node has the record of a text.
func node(id int, kind, text string) api.Node {
	return api.Node{Id: id, Kind: kind, Record: made(text)}
}

func nodes(l ...api.Node) api.Graph { return api.Graph{Nodes: l} }

// with has other ties.
func with(g api.Graph, l ...api.Tie) api.Graph { return api.Graph{Nodes: g.Nodes, Ties: l} }

// ids makes a graph of nodes of the kind a.
func ids(l ...int) (g api.Graph) {
	for _, id := range l {
		g.Nodes = append(g.Nodes, node(id, "a", "-"))
	}
	return g
}

// noHows has numbers that are no How.
func noHows() []int {
	return []int{0, -1, -4, 5, 6, 256 + api.Is, 1<<32 + api.Has, math.MaxInt, math.MinInt}
}

// someSchema has kinds that come of others, by one and by two ways, and bonds between them.
func someSchema() api.Schema {
	return plan("kind a k:int m:text\nkind b of a x:bool\nkind c y:int\nkind d of b,c\nkind e\nbond p a c 0 any\nbond q b b 0 any\nbond r c d 0 2\nbond u a a 0 any\n")
}

// someGraph conforms to it.
func someGraph() api.Graph {
	return with(nodes(node(1, "a", "k=1"), node(2, "b", "k=2,m='u',x=true"), node(4, "c", "y=7"), node(5, "a", "m='u'"), node(9, "d", "k=9,x=false,y=3"), node(10, "d", "-"), node(1000, "e", "-")),
		tie("p", 1, 4), tie("p", 1, 9), tie("p", 2, 4), tie("p", 9, 9), tie("q", 2, 9), tie("q", 2, 10), tie("q", 10, 10), tie("r", 4, 9), tie("r", 4, 10), tie("u", 1, 2), tie("u", 2, 1), tie("u", 2, 2), tie("u", 5, 10), tie("u", 10, 1))
}

// wrongValue is none, and how.
type wrongValue struct {
	v    api.Value
	want api.Errno
}

// wrongValues has one of each error of chapter 1's Check, and of each Type.
func wrongValues() []wrongValue {
	return []wrongValue{
		{api.Value{}, api.ErrType},
		{api.Value{Type: 4}, api.ErrType},
		{api.Value{Type: -1, N: 2_000_000, S: "u"}, api.ErrType},
		{number(1_000_001), api.ErrRange},
		{number(-1_000_001), api.ErrRange},
		{truth(2), api.ErrRange},
		{truth(-1), api.ErrRange},
		{api.Value{Type: api.Text, N: 1}, api.ErrRange},
		{words(strings.Repeat("z", 21)), api.ErrFull},
		{words("\n"), api.ErrSyntax},
		{words("\x7f"), api.ErrSyntax},
		{api.Value{Type: api.Int, S: "u"}, api.ErrSyntax},
		{api.Value{Type: api.Bool, S: strings.Repeat("z", 21)}, api.ErrSyntax},
	}
}

type badSchema struct {
	s    api.Schema
	want api.Errno
}

// badSchemas has one of each number of an error that chapters 3 and 4 have.
func badSchemas() []badSchema {
	kinds := func(l ...api.Kind) api.Schema { return api.Schema{Kinds: l} }
	bonds := func(l ...api.Bond) api.Schema { return api.Schema{Kinds: []api.Kind{{Name: "a"}}, Bonds: l} }
	fields := func(l ...api.Field) api.Schema { return kinds(api.Kind{Name: "a", Fields: l}) }
	return []badSchema{
		{kinds(make([]api.Kind, 13)...), api.ErrFull},
		{bonds(make([]api.Bond, 13)...), api.ErrFull},
		{kinds(api.Kind{}), api.ErrSyntax},
		{kinds(api.Kind{Name: "a"}, api.Kind{Name: "a"}), api.ErrClash},
		{kinds(api.Kind{Name: "a", Of: []string{"a"}}), api.ErrNone},
		{fields(api.Field{Name: "k"}), api.ErrType},
		{fields(api.Field{Name: "k", Type: api.Int, Key: true}), api.ErrShape},
		{bonds(api.Bond{From: "a", To: "a"}), api.ErrSyntax},
		{bonds(api.Bond{Name: "u", From: "a", To: "zz"}), api.ErrNone},
		{bonds(api.Bond{Name: "u", From: "a", To: "a", Min: 21, Max: -1}), api.ErrRange},
	}
}

type badRecord struct {
	r    api.Record
	want api.Errno
}

// badRecords has one of each number of an error that chapter 2's Check has.
func badRecords() []badRecord {
	l := []badRecord{
		{make(api.Record, 9), api.ErrFull},
		{api.Record{prop("K", number(1))}, api.ErrSyntax},
		{api.Record{prop("", number(1))}, api.ErrSyntax},
		{api.Record{prop("k", number(1)), prop("k", number(1))}, api.ErrClash},
		{api.Record{prop("m", number(1)), prop("k", number(1))}, api.ErrClash},
	}
	for _, w := range wrongValues() {
		l = append(l, badRecord{api.Record{prop("k", w.v)}, w.want}, badRecord{api.Record{prop("k", number(1)), prop("m", w.v)}, w.want})
	}
	return l
}

type badGraph struct {
	g    api.Graph
	want api.Errno
}

// badGraphs has one of each number of an error that chapter 5 has, and those that it stands on.
func badGraphs() []badGraph {
	l := []badGraph{
		{nodes(make([]api.Node, 61)...), api.ErrFull},
		{with(api.Graph{}, make([]api.Tie, 121)...), api.ErrFull},
		{ids(0), api.ErrRange},
		{ids(1, 1001), api.ErrRange},
		{ids(2, 1), api.ErrClash},
		{nodes(node(1, "A", "-")), api.ErrSyntax},
		{with(ids(1), tie("U", 1, 1)), api.ErrSyntax},
		{with(ids(1), tie("u", 1, 1001)), api.ErrRange},
		{with(ids(1), tie("u", 1, 1), tie("u", 1, 1)), api.ErrClash},
	}
	for _, b := range badRecords() {
		l = append(l, badGraph{nodes(api.Node{Id: 1, Kind: "a", Record: b.r}), b.want})
	}
	return l
}

// plainIs tells whether a Kind is another one, or comes of it.
func plainIs(l []api.Kind, a, b string) bool {
	if a == b {
		return true
	}
	for _, k := range l {
		for _, of := range k.Of {
			if k.Name == a && plainIs(l, of, b) {
				return true
			}
		}
	}
	return false
}

// plainType is the Type of a Kind's Field, of its kin's, too; 0: it has none.
func plainType(l []api.Kind, name, field string) int {
	for _, k := range l {
		for _, f := range k.Fields {
			if plainIs(l, name, k.Name) && f.Name == field {
				return f.Type
			}
		}
	}
	return 0
}

// plainHow tells what is wrong with a Test's How and Value.
func plainHow(t api.Test) api.Errno {
	switch {
	case t.How < 1 || t.How > 4:
		return api.ErrRange
	case t.How == 4 && (t.Value.Type != 0 || t.Value.N != 0 || t.Value.S != ""):
		return api.ErrShape
	case t.How == 4:
		return api.OK
	}
	return told(value.Check(t.Value))
}

// plainTest tells what is wrong with a Test of a Kind.
func plainTest(l []api.Kind, name string, t api.Test) api.Errno {
	if err := value.Name(t.Name); err != nil {
		return told(err)
	}
	want := plainType(l, name, t.Name)
	if want == 0 {
		return api.ErrNone
	}
	if wrong := plainHow(t); wrong != api.OK {
		return wrong
	}
	if t.How != 4 && t.Value.Type != want {
		return api.ErrType
	}
	return api.OK
}

// plainStep tells what is wrong with one Step of a path.
func plainStep(s api.Schema, l []api.Step, at int) api.Errno {
	p := l[at]
	if !slices.ContainsFunc(s.Kinds, func(k api.Kind) bool { return k.Name == p.Kind }) {
		return api.ErrNone
	}
	if at == 0 && (p.Bond != "" || p.Back) {
		return api.ErrShape
	}
	if at > 0 {
		found := slices.IndexFunc(s.Bonds, func(b api.Bond) bool { return b.Name == p.Bond })
		if found < 0 {
			return api.ErrNone
		}
		b, ahead := s.Bonds[found], l[at-1].Kind
		if !p.Back && !(plainIs(s.Kinds, ahead, b.From) && plainIs(s.Kinds, p.Kind, b.To)) {
			return api.ErrType
		}
		if p.Back && !(plainIs(s.Kinds, ahead, b.To) && plainIs(s.Kinds, p.Kind, b.From)) {
			return api.ErrType
		}
	}
	if len(p.Tests) > 8 {
		return api.ErrFull
	}
	for _, t := range p.Tests {
		if wrong := plainTest(s.Kinds, p.Kind, t); wrong != api.OK {
			return wrong
		}
	}
	return api.OK
}

// plainCheck is what Check answers, told sentence by sentence.
func plainCheck(s api.Schema, l []api.Step) (int, api.Errno) {
	if _, err := schema.Check(s); err != nil {
		return 0, told(err)
	}
	if len(l) == 0 {
		return 0, api.ErrNone
	}
	if len(l) > 6 {
		return 0, api.ErrFull
	}
	for at := range l {
		if wrong := plainStep(s, l, at); wrong != api.OK {
			return at, wrong
		}
	}
	return 0, api.OK
}

// plainPasses tells whether a Record passes a Test, both of which are right.
func plainPasses(r api.Record, t api.Test) bool {
	for _, p := range r {
		if p.Name != t.Name {
			continue
		}
		same := p.Value.Type == t.Value.Type
		switch t.How {
		case 1:
			return same && p.Value.N == t.Value.N && p.Value.S == t.Value.S
		case 2:
			return !same || p.Value.N != t.Value.N || p.Value.S != t.Value.S
		case 3:
			return same && (p.Value.N < t.Value.N || p.Value.S < t.Value.S)
		}
		return true
	}
	return false
}

// plainFits tells whether a row of Nodes is one of a path.
func plainFits(s api.Schema, g api.Graph, l []api.Step, row []api.Node) bool {
	for at, n := range row {
		if !plainIs(s.Kinds, n.Kind, l[at].Kind) {
			return false
		}
		for _, t := range l[at].Tests {
			if !plainPasses(n.Record, t) {
				return false
			}
		}
		if at == 0 {
			continue
		}
		want := tie(l[at].Bond, row[at-1].Id, n.Id)
		if l[at].Back {
			want = tie(l[at].Bond, n.Id, row[at-1].Id)
		}
		if !slices.Contains(g.Ties, want) {
			return false
		}
	}
	return true
}

// plainRows asks each row of so many Nodes whether it is one of the path, and sorts those that are.
func plainRows(s api.Schema, g api.Graph, l []api.Step) (rows [][]int) {
	count := 1
	for range l {
		count *= len(g.Nodes)
	}
	for left := range count {
		row, found := make([]api.Node, len(l)), make([]int, len(l))
		for at := range l {
			row[at] = g.Nodes[left%len(g.Nodes)]
			found[at] = row[at].Id
			left /= len(g.Nodes)
		}
		if plainFits(s, g, l, row) {
			rows = append(rows, found)
		}
	}
	slices.SortFunc(rows, slices.Compare[[]int])
	return rows
}

// plainWalk is what Walk answers, told sentence by sentence.
func plainWalk(s api.Schema, g api.Graph, l []api.Step) ([][]int, api.Errno) {
	if _, wrong := plainCheck(s, l); wrong != api.OK {
		return nil, wrong
	}
	if err := graph.Check(g); err != nil {
		return nil, told(err)
	}
	if conforms, _ := check.Conforms(s, g); !conforms {
		return nil, api.ErrBreak
	}
	for n := range l {
		if len(plainRows(s, g, l[:n+1])) > 200 {
			return nil, api.ErrFull
		}
	}
	return plainRows(s, g, l), api.OK
}

// testRight asks Check, and Type, of a path that is one.
func testRight(t *testing.T, s api.Schema, l []api.Step) {
	t.Helper()
	if at, err := Check(s, l); at != 0 || err != nil {
		t.Errorf("Check(%v, %v): got %v, %v, want 0", s, l, at, err)
		return
	}
	if got, err := Type(s, l); got != l[len(l)-1].Kind || err != nil {
		t.Errorf("Type(%v, %v): got %q, %v", s, l, got, err)
	}
}

// testWrong asks Check for an error at a Step's number, and Type and Walk for the same one, with which nothing else comes, whatever the Graph is.
func testWrong(t *testing.T, s api.Schema, l []api.Step, want int, wrong api.Errno) {
	t.Helper()
	if at, err := Check(s, l); at != want || told(err) != wrong {
		t.Errorf("Check(%v, %v): got %v, %v, want %v, %v", s, l, at, err, want, wrong)
	}
	if got, err := Type(s, l); got != "" || told(err) != wrong {
		t.Errorf("Type(%v, %v): got %q, %v, want %v", s, l, got, err, wrong)
	}
	for _, g := range []api.Graph{{}, someGraph(), ids(2, 1)} {
		testNoRows(t, s, g, l, wrong)
	}
}

// testRows asks Walk for rows.
func testRows(t *testing.T, s api.Schema, g api.Graph, l []api.Step, want ...[]int) {
	t.Helper()
	if got, err := Walk(s, g, l); !sameRows(got, want) || err != nil {
		t.Errorf("Walk(%v, %v, %v): got %v, %v, want %v", s, g, l, got, err, want)
	}
}

// testNoRows asks Walk for an error, with which nothing else comes.
func testNoRows(t *testing.T, s api.Schema, g api.Graph, l []api.Step, want api.Errno) {
	t.Helper()
	if got, err := Walk(s, g, l); len(got) != 0 || told(err) != want {
		t.Errorf("Walk(%v, %v, %v): got %v, %v, want %v", s, g, l, got, err, want)
	}
}

// testPlainly holds Check, Type and Walk against the plain tellings.
func testPlainly(t *testing.T, s api.Schema, g api.Graph, l []api.Step) {
	t.Helper()
	testCheckPlainly(t, s, l)
	rows, wrong := plainWalk(s, g, l)
	if got, err := Walk(s, g, l); !sameRows(got, rows) || told(err) != wrong {
		t.Fatalf("Walk(%v, %v, %v): got %v, %v, want %v, %v", s, g, l, got, err, rows, wrong)
	}
}

func testCheckPlainly(t *testing.T, s api.Schema, l []api.Step) {
	t.Helper()
	want, wrong := plainCheck(s, l)
	if at, err := Check(s, l); at != want || told(err) != wrong {
		t.Fatalf("Check(%v, %v): got %v, %v, want %v, %v", s, l, at, err, want, wrong)
	}
	last := ""
	if wrong == api.OK {
		last = l[len(l)-1].Kind
	}
	if got, err := Type(s, l); got != last || told(err) != wrong {
		t.Fatalf("Type(%v, %v): got %q, %v, want %q, %v", s, l, got, err, last, wrong)
	}
}

func sameRows(a, b [][]int) bool {
	return len(a) == 0 && len(b) == 0 || reflect.DeepEqual(a, b)
}
