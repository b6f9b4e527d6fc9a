package index

import (
	"fmt"
	"math"
	"slices"
	"strings"
	"testing"

	"kinshape/api"
	"kinshape/kind"
	"kinshape/plain"
	"kinshape/record"
	"kinshape/schema"
)

func told(err error) api.Errno { return plain.Told(err) }

func number(n int) api.Value   { return api.Value{Type: api.Int, N: n} }
func truth(n int) api.Value    { return api.Value{Type: api.Bool, N: n} }
func words(s string) api.Value { return api.Value{Type: api.Text, S: s} }

func prop(name string, v api.Value) api.Prop { return api.Prop{Name: name, Value: v} }

func tie(bond string, from, to int) api.Tie { return api.Tie{Bond: bond, From: from, To: to} }

// made is the schema of a text.
func made(text string) api.Schema {
	s, at, err := schema.Parse(text)
	if err != nil {
		panic(fmt.Sprint(text, at, err))
	}
	return s
}

// node has the record of a text.
func node(id int, kind, text string) api.Node {
	r, err := record.Parse(text)
	if err != nil {
		panic(fmt.Sprint(text, err))
	}
	return api.Node{Id: id, Kind: kind, Record: r}
}

func nodes(l ...api.Node) api.Graph { return api.Graph{Nodes: l} }

// with has other ties.
func with(g api.Graph, l ...api.Tie) api.Graph { return api.Graph{Nodes: g.Nodes, Ties: l} }

func newOp(n api.Node) api.Op  { return api.Op{What: api.New, Node: n} }
func gone(id int) api.Op       { return api.Op{What: api.Gone, Node: api.Node{Id: id}} }
func bindOp(t api.Tie) api.Op  { return api.Op{What: api.Bind, Tie: t} }
func looseOp(t api.Tie) api.Op { return api.Op{What: api.Loose, Tie: t} }

func set(id int, name string, v api.Value) api.Op {
	return api.Op{What: api.Set, Node: api.Node{Id: id}, Prop: prop(name, v)}
}

func unset(id int, name string) api.Op {
	return api.Op{What: api.Unset, Node: api.Node{Id: id}, Prop: api.Prop{Name: name}}
}

// noIds has numbers that are no ids.
func noIds() []int {
	return []int{0, -1, -1000, 1001, 1 << 32, 1<<32 + 1, math.MaxInt, math.MinInt}
}

// noNames has words that are no names.
func noNames() []string {
	return []string{"", "A", "a1", "ä", "a\x00", "\xff", "a b", "abcdefghi", strings.Repeat("a", 1000)}
}

// noValues has values that are none.
func noValues() []api.Value {
	return []api.Value{{}, {Type: 4, N: 1}, {Type: -1}, {Type: 0, N: 1}, {Type: 0, S: "u"}, number(1000001), number(-1000001), number(math.MaxInt), number(math.MinInt),
		{Type: api.Int, N: 1, S: "1"}, truth(2), truth(-1), {Type: api.Bool, N: 1, S: "u"}, {Type: api.Text, N: 1, S: "u"}, words(strings.Repeat("z", 21)), words("\n"), words("ä"), words("u\x00")}
}

func sameNode(a, b api.Node) bool {
	return a.Id == b.Id && a.Kind == b.Kind && slices.Equal(a.Record, b.Record)
}

func sameGraph(a, b api.Graph) bool {
	return slices.EqualFunc(a.Nodes, b.Nodes, sameNode) && slices.Equal(a.Ties, b.Ties)
}

// telling is a schema that is right and a graph that conforms, of which all is told by going through all that there is.
type telling struct {
	g      api.Graph
	under  map[string][]string
	fields map[string][]api.Field
	bonds  []api.Bond
}

func tellingOf(s api.Schema, g api.Graph) telling {
	l := telling{g: g, under: map[string][]string{}, fields: map[string][]api.Field{}, bonds: s.Bonds}
	for _, k := range s.Kinds {
		l.under[k.Name], _ = kind.Under(s.Kinds, k.Name)
		l.fields[k.Name], _ = kind.Fields(s.Kinds, k.Name)
	}
	return l
}

// kind is what Kind answers.
func (l telling) kind(name string) (ids []int, wrong api.Errno) {
	under, there := l.under[name]
	if !there {
		return nil, api.ErrNone
	}
	for _, n := range l.g.Nodes {
		if slices.Contains(under, n.Kind) {
			ids = append(ids, n.Id)
		}
	}
	return ids, api.OK
}

// key is what Key answers.
func (l telling) key(name, field string, v api.Value) (int, api.Errno) {
	under, there := l.under[name]
	if !there {
		return 0, api.ErrNone
	}
	if !slices.ContainsFunc(l.fields[name], func(f api.Field) bool { return f.Name == field && f.Key }) {
		return 0, api.ErrShape
	}
	for _, n := range l.g.Nodes {
		if slices.Contains(under, n.Kind) && slices.Contains(n.Record, prop(field, v)) {
			return n.Id, api.OK
		}
	}
	return 0, api.ErrNone
}

// ends is what Ends answers.
func (l telling) ends(id int, bond string, back bool) (ids []int, wrong api.Errno) {
	isNode := slices.ContainsFunc(l.g.Nodes, func(n api.Node) bool { return n.Id == id })
	isBond := slices.ContainsFunc(l.bonds, func(b api.Bond) bool { return b.Name == bond })
	if !isNode || !isBond {
		return nil, api.ErrNone
	}
	for _, t := range l.g.Ties {
		switch {
		case t.Bond == bond && !back && t.From == id:
			ids = append(ids, t.To)
		case t.Bond == bond && back && t.To == id:
			ids = append(ids, t.From)
		}
	}
	slices.Sort(ids)
	return ids, api.OK
}

// askedNames has all names of a schema, and some that it has not.
func askedNames(s api.Schema) []string {
	l := []string{"", "zz", "A", "abcdefghi"}
	for _, k := range s.Kinds {
		l = append(l, k.Name)
		for _, f := range k.Fields {
			l = append(l, f.Name)
		}
	}
	for _, b := range s.Bonds {
		l = append(l, b.Name)
	}
	slices.Sort(l)
	return slices.Compact(l)
}

// askedIds has all ids of a graph, and some that it may not have.
func askedIds(g api.Graph) []int {
	l := append(noIds(), 1, 2, 3, 4, 5, 999, 1000)
	for _, n := range g.Nodes {
		l = append(l, n.Id)
	}
	slices.Sort(l)
	return slices.Compact(l)
}

// askedValues has all values of a graph, and some that it may not have.
func askedValues(g api.Graph) []api.Value {
	l := []api.Value{{}, number(0), number(1), number(2), truth(0), truth(1), words(""), words("1"), words("u"), words("zz"), {Type: api.Int, N: 1, S: "u"}, {Type: api.Text, N: 1, S: "u"}}
	for _, n := range g.Nodes {
		for _, p := range n.Record {
			if !slices.Contains(l, p.Value) {
				l = append(l, p.Value)
			}
		}
	}
	return l
}

// testAnswers asks an index for everything, and holds it against what a plain look at the graph tells.
func testAnswers(t *testing.T, x *Index, s api.Schema, g api.Graph) {
	t.Helper()
	if got := x.Graph(); !sameGraph(got, g) {
		t.Fatalf("Graph: got %v, want %v", got, g)
	}
	names, ids, values := askedNames(s), askedIds(g), askedValues(g)
	plainly := tellingOf(s, g)
	for _, name := range names {
		want, wrong := plainly.kind(name)
		if got, err := x.Kind(name); !slices.Equal(got, want) || told(err) != wrong {
			t.Fatalf("Kind(%q) of %v by %v: got %v, %v, want %v, %v", name, g, s, got, err, want, wrong)
		}
		for _, field := range names {
			for _, v := range values {
				want, wrong := plainly.key(name, field, v)
				if got, err := x.Key(name, field, v); got != want || told(err) != wrong {
					t.Fatalf("Key(%q, %q, %v) of %v by %v: got %v, %v, want %v, %v", name, field, v, g, s, got, err, want, wrong)
				}
			}
		}
		for _, id := range ids {
			for _, back := range []bool{false, true} {
				want, wrong := plainly.ends(id, name, back)
				if got, err := x.Ends(id, name, back); !slices.Equal(got, want) || told(err) != wrong {
					t.Fatalf("Ends(%d, %q, %v) of %v by %v: got %v, %v, want %v, %v", id, name, back, g, s, got, err, want, wrong)
				}
			}
		}
	}
}

// madeIndex is the one of a schema and a graph that conforms.
func madeIndex(t *testing.T, s api.Schema, g api.Graph) *Index {
	t.Helper()
	x, err := New(s, g)
	if x == nil || err != nil {
		t.Fatalf("New(%v, %v): got %v, %v", s, g, x, err)
	}
	return x
}
