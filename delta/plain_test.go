package delta

import (
	"fmt"
	"math"
	"slices"
	"strings"

	"kinshape/api"
	"kinshape/plain"
	"kinshape/record"
	"kinshape/value"
)

func told(err error) api.Errno { return plain.Told(err) }

func number(n int) api.Value   { return api.Value{Type: api.Int, N: n} }
func words(s string) api.Value { return api.Value{Type: api.Text, S: s} }

func prop(name string, v api.Value) api.Prop { return api.Prop{Name: name, Value: v} }

func tie(bond string, from, to int) api.Tie { return api.Tie{Bond: bond, From: from, To: to} }

// node has the record of a text.
func node(id int, kind, text string) api.Node {
	r, err := record.Parse(text)
	if err != nil {
		panic(fmt.Sprint(text, err))
	}
	return api.Node{Id: id, Kind: kind, Record: r}
}

func nodes(l ...api.Node) api.Graph { return api.Graph{Nodes: l} }
func ties(l ...api.Tie) api.Graph   { return api.Graph{Ties: l} }

// with has other ties.
func with(g api.Graph, l ...api.Tie) api.Graph { return api.Graph{Nodes: g.Nodes, Ties: l} }

// ids makes a graph of nodes of the kind a.
func ids(l ...int) (g api.Graph) {
	for _, id := range l {
		g.Nodes = append(g.Nodes, node(id, "a", "-"))
	}
	return g
}

// someNodes makes a graph of n nodes, 10, 20, 30 and so on.
func someNodes(n int) (g api.Graph) {
	for i := range n {
		g.Nodes = append(g.Nodes, node(10*i+10, "a", "-"))
	}
	return g
}

// someTies makes a graph of n ties out of 10, to 2, 4, 6 and so on.
func someTies(n int) (g api.Graph) {
	for i := range n {
		g.Ties = append(g.Ties, tie("p", 10, 2*i+2))
	}
	return g
}

// fullGraph has as much as may be.
func fullGraph() (g api.Graph) {
	for i := range api.MaxNodes {
		g.Nodes = append(g.Nodes, node(i+1, "a", "a=0,b=1,c=2,d=3,e=4,f=5,g=6,h=7"))
	}
	for i := range api.MaxTies {
		g.Ties = append(g.Ties, tie("p", i/10+1, i%10+1))
	}
	return g
}

func newOp(n api.Node) api.Op    { return api.Op{What: api.New, Node: n} }
func gone(id int) api.Op         { return api.Op{What: api.Gone, Node: api.Node{Id: id}} }
func bindOp(t api.Tie) api.Op    { return api.Op{What: api.Bind, Tie: t} }
func looseOp(t api.Tie) api.Op   { return api.Op{What: api.Loose, Tie: t} }
func ops(l ...api.Op) []api.Op   { return l }
func put(n int, o api.Op) api.Op { o.What = n; return o }

func set(id int, name string, v api.Value) api.Op {
	return api.Op{What: api.Set, Node: api.Node{Id: id}, Prop: prop(name, v)}
}

func unset(id int, name string) api.Op {
	return api.Op{What: api.Unset, Node: api.Node{Id: id}, Prop: api.Prop{Name: name}}
}

// noIds has numbers that are no ids.
func noIds() []int {
	return []int{0, -1, -1000, 1001, 1 << 32, 1<<32 + 1, math.MaxInt, math.MinInt}
}

// noNames has words that are no names.
func noNames() []string {
	return []string{"", "A", "a1", "ä", "a\x00", "\xff", "a b", "abcdefghi", strings.Repeat("a", 1000)}
}

type badValue struct {
	v    api.Value
	want api.Errno
}

// badValues has values that are none, and chapter 1's errors of them.
func badValues() []badValue {
	return []badValue{
		{api.Value{}, api.ErrType},
		{api.Value{Type: 4}, api.ErrType},
		{number(1000001), api.ErrRange},
		{api.Value{Type: api.Bool, N: 2}, api.ErrRange},
		{api.Value{Type: api.Text, N: 1}, api.ErrRange},
		{words(strings.Repeat("z", 21)), api.ErrFull},
		{words("\n"), api.ErrSyntax},
		{api.Value{Type: api.Int, S: "1"}, api.ErrSyntax},
	}
}

type badRecord struct {
	r    api.Record
	want api.Errno
}

// badRecords has records that are none, and chapter 2's errors of them.
func badRecords() []badRecord {
	l := []badRecord{
		{make(api.Record, 9), api.ErrFull},
		{api.Record{prop("X", number(1))}, api.ErrSyntax},
		{api.Record{prop("x", number(1)), prop("x", number(1))}, api.ErrClash},
		{api.Record{prop("x", number(1)), prop("w", number(1))}, api.ErrClash},
	}
	for _, b := range badValues() {
		l = append(l, badRecord{api.Record{prop("x", b.v)}, b.want})
	}
	return l
}

type badGraph struct {
	g    api.Graph
	want api.Errno
}

// badGraphs has graphs that are none, and chapter 5's errors of them.
func badGraphs() []badGraph {
	l := []badGraph{
		{nodes(make([]api.Node, 61)...), api.ErrFull},
		{ties(make([]api.Tie, 121)...), api.ErrFull},
		{ids(0), api.ErrRange},
		{ids(1001), api.ErrRange},
		{ids(1, 1), api.ErrClash},
		{ids(2, 1), api.ErrClash},
		{nodes(node(1, "A", "-")), api.ErrSyntax},
		{with(ids(1), tie("P", 1, 1)), api.ErrSyntax},
		{with(ids(1), tie("p", 0, 1)), api.ErrRange},
		{with(ids(1), tie("p", 1, 1001)), api.ErrRange},
		{with(ids(1), tie("p", 1, 1), tie("p", 1, 1)), api.ErrClash},
		{with(ids(1), tie("q", 1, 1), tie("p", 1, 1)), api.ErrClash},
	}
	for _, b := range badRecords() {
		l = append(l, badGraph{nodes(api.Node{Id: 1, Kind: "a", Record: b.r}), b.want})
	}
	return l
}

func sameNode(a, b api.Node) bool {
	return a.Id == b.Id && a.Kind == b.Kind && slices.Equal(a.Record, b.Record)
}

func sameGraph(a, b api.Graph) bool {
	return slices.EqualFunc(a.Nodes, b.Nodes, sameNode) && slices.Equal(a.Ties, b.Ties)
}

func sameOp(a, b api.Op) bool {
	return a.What == b.What && sameNode(a.Node, b.Node) && a.Prop == b.Prop && a.Tie == b.Tie
}

func sameOps(a, b []api.Op) bool { return slices.EqualFunc(a, b, sameOp) }

func isEmpty(g api.Graph) bool { return len(g.Nodes) == 0 && len(g.Ties) == 0 }

// hasId tells whether a node has the id.
func hasId(g api.Graph, id int) bool {
	return slices.ContainsFunc(g.Nodes, func(n api.Node) bool { return n.Id == id })
}

// plainNew is what New makes of a graph that is right, told sentence by sentence.
func plainNew(g api.Graph, n api.Node) (api.Graph, api.Errno) {
	switch {
	case n.Id < 1 || n.Id > 1000:
		return api.Graph{}, api.ErrRange
	case value.Name(n.Kind) != nil:
		return api.Graph{}, told(value.Name(n.Kind))
	case record.Check(n.Record) != nil:
		return api.Graph{}, told(record.Check(n.Record))
	case hasId(g, n.Id):
		return api.Graph{}, api.ErrClash
	case len(g.Nodes) >= 60:
		return api.Graph{}, api.ErrFull
	}
	var ahead, behind []api.Node
	for _, other := range g.Nodes {
		if other.Id < n.Id {
			ahead = append(ahead, other)
		} else {
			behind = append(behind, other)
		}
	}
	return api.Graph{Nodes: append(append(ahead, n), behind...), Ties: g.Ties}, api.OK
}

// plainRecord is what Set and Unset make of a graph that is right.
func plainRecord(g api.Graph, o api.Op) (api.Graph, api.Errno) {
	if !hasId(g, o.Node.Id) {
		return api.Graph{}, api.ErrNone
	}
	var l []api.Node
	for _, n := range g.Nodes {
		if n.Id == o.Node.Id {
			var err error
			if o.What == api.Set {
				n.Record, err = record.Set(n.Record, o.Prop)
			} else {
				n.Record, err = record.Unset(n.Record, o.Prop.Name)
			}
			if err != nil {
				return api.Graph{}, told(err)
			}
		}
		l = append(l, n)
	}
	return api.Graph{Nodes: l, Ties: g.Ties}, api.OK
}

// plainBind is what Bind makes of a graph that is right.
func plainBind(g api.Graph, t api.Tie) (api.Graph, api.Errno) {
	switch {
	case value.Name(t.Bond) != nil:
		return api.Graph{}, told(value.Name(t.Bond))
	case t.From < 1 || t.From > 1000 || t.To < 1 || t.To > 1000:
		return api.Graph{}, api.ErrRange
	case slices.Contains(g.Ties, t):
		return api.Graph{}, api.ErrClash
	case len(g.Ties) >= 120:
		return api.Graph{}, api.ErrFull
	}
	var ahead, behind []api.Tie
	for _, other := range g.Ties {
		if other.Bond < t.Bond || other.Bond == t.Bond && other.From*10000+other.To < t.From*10000+t.To {
			ahead = append(ahead, other)
		} else {
			behind = append(behind, other)
		}
	}
	return api.Graph{Nodes: g.Nodes, Ties: append(append(ahead, t), behind...)}, api.OK
}

// plainLess is what Gone and Loose make of a graph that is right.
func plainLess(g api.Graph, o api.Op) (api.Graph, api.Errno) {
	var left api.Graph
	for _, n := range g.Nodes {
		if o.What == api.Loose || n.Id != o.Node.Id {
			left.Nodes = append(left.Nodes, n)
		}
	}
	if o.What == api.Gone && len(left.Nodes) == len(g.Nodes) {
		return api.Graph{}, api.ErrNone
	}
	for _, t := range g.Ties {
		if o.What == api.Loose && t != o.Tie || o.What == api.Gone && t.From != o.Node.Id && t.To != o.Node.Id {
			left.Ties = append(left.Ties, t)
		}
	}
	if o.What == api.Loose && len(left.Ties) == len(g.Ties) {
		return api.Graph{}, api.ErrNone
	}
	return left, api.OK
}

// plainDo is what an op makes of a graph that is right, told sentence by sentence.
func plainDo(g api.Graph, o api.Op) (api.Graph, api.Errno) {
	switch o.What {
	case api.New:
		return plainNew(g, o.Node)
	case api.Gone, api.Loose:
		return plainLess(g, o)
	case api.Set, api.Unset:
		return plainRecord(g, o)
	case api.Bind:
		return plainBind(g, o.Tie)
	}
	return api.Graph{}, api.ErrRange
}

// keeps tells whether a graph has a node of the id and kind of another one, and the record it has there.
func keeps(g api.Graph, n api.Node) (api.Record, bool) {
	for _, other := range g.Nodes {
		if other.Id == n.Id && other.Kind == n.Kind {
			return other.Record, true
		}
	}
	return nil, false
}

// plainDiff has the ops of Diff of graphs that are right, by doing what it tells as it goes.
func plainDiff(a, b api.Graph) (l []api.Op) {
	then := a
	add := func(o api.Op) {
		l = append(l, o)
		then, _ = plainDo(then, o)
	}
	for _, t := range a.Ties {
		if !slices.Contains(b.Ties, t) {
			add(looseOp(t))
		}
	}
	for _, n := range a.Nodes {
		if _, stays := keeps(b, n); !stays {
			add(gone(n.Id))
		}
	}
	for _, n := range b.Nodes {
		if _, was := keeps(a, n); !was {
			add(newOp(n))
		}
	}
	for _, n := range a.Nodes {
		if r, stays := keeps(b, n); stays {
			for _, o := range plainProps(n, r) {
				add(o)
			}
		}
	}
	for _, t := range b.Ties {
		if !slices.Contains(then.Ties, t) {
			add(bindOp(t))
		}
	}
	return l
}

// plainProps has the ops that give a node another record.
func plainProps(n api.Node, r api.Record) (l []api.Op) {
	for _, p := range n.Record {
		if _, err := record.Get(r, p.Name); err != nil {
			l = append(l, unset(n.Id, p.Name))
		}
	}
	for _, p := range r {
		if v, err := record.Get(n.Record, p.Name); err != nil || v != p.Value {
			l = append(l, set(n.Id, p.Name, p.Value))
		}
	}
	return l
}
