package rows

import (
	"fmt"
	"slices"
	"strings"
	"testing"

	"kinshape/api"
	"kinshape/graph"
	"kinshape/plain"
	"kinshape/record"
	"kinshape/value"
)

func told(err error) api.Errno { return plain.Told(err) }

func number(n int) api.Value   { return api.Value{Type: api.Int, N: n} }
func truth(n int) api.Value    { return api.Value{Type: api.Bool, N: n} }
func words(s string) api.Value { return api.Value{Type: api.Text, S: s} }

func prop(name string, v api.Value) api.Prop { return api.Prop{Name: name, Value: v} }

func tie(bond string, from, to int) api.Tie { return api.Tie{Bond: bond, From: from, To: to} }

// made is the record of a text.
func made(text string) api.Record {
	r, err := record.Parse(text)
	if err != nil {
		panic(fmt.Sprint(text, err))
	}
	return r
}

// all has the records of texts.
func all(texts ...string) (l []api.Record) {
	for _, text := range texts {
		l = append(l, made(text))
	}
	return l
}

// times has a record so many times.
func times(n int, text string) (l []api.Record) {
	for range n {
		l = append(l, made(text))
	}
	return l
}

// node has the record of a text.
func node(id int, kind, text string) api.Node {
	return api.Node{Id: id, Kind: kind, Record: made(text)}
}

func nodes(l ...api.Node) api.Graph { return api.Graph{Nodes: l} }

// with has other ties.
func with(g api.Graph, l ...api.Tie) api.Graph { return api.Graph{Nodes: g.Nodes, Ties: l} }

// ids makes a graph of nodes of the kind a.
func ids(l ...int) (g api.Graph) {
	for _, id := range l {
		g.Nodes = append(g.Nodes, node(id, "a", "-"))
	}
	return g
}

// names has words as a list.
func names(text string) []string { return strings.Fields(text) }

// rowsOf has a row of each of the ids.
func rowsOf(l ...int) (rows [][]int) {
	for _, id := range l {
		rows = append(rows, []int{id})
	}
	return rows
}

// someGraph has nodes with a few props, none and as many as may be, and ties of which an end is no node.
func someGraph() api.Graph {
	return with(nodes(node(1, "a", "k=1,m='u'"), node(2, "a", "-"), node(4, "b", "k=2,m='it''s',x=true"), node(7, "c", "a=1,b=2,c=3,d=4,e=5,f=6,g=7,h=8"), node(9, "a", "k='1'"), node(1000, "d", "x=false,z=''")),
		tie("p", 1, 2), tie("p", 3, 4), tie("q", 1, 5))
}

type badRecord struct {
	r    api.Record
	want api.Errno
}

// badRecords has each error that chapter 2's Check has, and those that it stands on, in the first prop and behind it.
func badRecords() []badRecord {
	l := []badRecord{
		{make(api.Record, 9), api.ErrFull},
		{append(made("a=1,b=2,c=3,d=4,e=5,f=6,g=7,h=8"), prop("i", number(1))), api.ErrFull},
		{api.Record{prop("k", number(1)), prop("k", number(1))}, api.ErrClash},
		{api.Record{prop("m", number(1)), prop("k", number(1))}, api.ErrClash},
		{api.Record{prop("k", number(1)), prop("m", truth(1)), prop("l", words("u"))}, api.ErrClash},
	}
	for _, name := range badNames() {
		l = append(l, badRecord{api.Record{prop(name, number(1))}, api.ErrSyntax}, badRecord{api.Record{prop("k", number(1)), prop(name, number(1))}, api.ErrSyntax})
	}
	for _, w := range badValues() {
		l = append(l, badRecord{api.Record{prop("k", w.v)}, w.want}, badRecord{api.Record{prop("k", number(1)), prop("m", w.v)}, w.want})
	}
	return l
}

type badValue struct {
	v    api.Value
	want api.Errno
}

// badValues has each error of chapter 1's Check, of each type.
func badValues() []badValue {
	return []badValue{
		{api.Value{}, api.ErrType}, {api.Value{Type: 4}, api.ErrType}, {api.Value{Type: -1, N: 2_000_000, S: "u"}, api.ErrType},
		{number(1_000_001), api.ErrRange}, {number(-1_000_001), api.ErrRange}, {truth(2), api.ErrRange}, {truth(-1), api.ErrRange}, {api.Value{Type: api.Text, N: 1}, api.ErrRange},
		{words(strings.Repeat("z", 21)), api.ErrFull},
		{words("\n"), api.ErrSyntax}, {words("\x7f"), api.ErrSyntax}, {api.Value{Type: api.Int, S: "u"}, api.ErrSyntax}, {api.Value{Type: api.Bool, S: "u"}, api.ErrSyntax},
	}
}

// badNames has texts that are no name.
func badNames() []string {
	return []string{"", "K", "kK", "abcdefghi", "k1", "k ", " k", "k=", "k\n", "é", "k\x00", strings.Repeat("k", 1000)}
}

type badGraph struct {
	g    api.Graph
	want api.Errno
}

// badGraphs has each error that chapter 5 has, and those that it stands on.
func badGraphs() []badGraph {
	l := []badGraph{
		{nodes(make([]api.Node, 61)...), api.ErrFull},
		{with(ids(1), make([]api.Tie, 121)...), api.ErrFull},
		{ids(0, 1), api.ErrRange},
		{ids(1, 1001), api.ErrRange},
		{ids(1, 1), api.ErrClash},
		{ids(2, 1), api.ErrClash},
		{nodes(node(1, "a", "-"), node(2, "A", "-")), api.ErrSyntax},
		{with(ids(1), tie("U", 1, 1)), api.ErrSyntax},
		{with(ids(1), tie("u", 0, 1)), api.ErrRange},
		{with(ids(1), tie("u", 1, 1001)), api.ErrRange},
		{with(ids(1), tie("u", 1, 1), tie("u", 1, 1)), api.ErrClash},
		{with(ids(1), tie("u", 1, 2), tie("t", 1, 2)), api.ErrClash},
	}
	for _, b := range badRecords() {
		l = append(l, badGraph{nodes(node(1, "a", "k=1"), api.Node{Id: 2, Kind: "a", Record: b.r}), b.want})
	}
	return l
}

// plainPick is what Pick answers, told sentence by sentence.
func plainPick(g api.Graph, rows [][]int, at int, names []string) (l []api.Record, wrong api.Errno) {
	if err := graph.Check(g); err != nil {
		return nil, told(err)
	}
	if len(rows) > 200 {
		return nil, api.ErrFull
	}
	for _, row := range rows {
		if at < 0 || at > len(row)-1 {
			return nil, api.ErrRange
		}
		n, err := graph.Node(g, row[at])
		if err != nil {
			return nil, api.ErrNone
		}
		var r api.Record
		for _, p := range n.Record {
			if slices.Contains(names, p.Name) {
				r = append(r, p)
			}
		}
		l = append(l, r)
	}
	for i := range names {
		if value.Name(names[i]) != nil {
			return nil, api.ErrSyntax
		}
		if i > 0 && strings.Compare(names[i-1], names[i]) >= 0 {
			return nil, api.ErrClash
		}
	}
	return l, api.OK
}

// plainWrong is what Sort, Group and Sum have in common.
func plainWrong(l []api.Record, name string) api.Errno {
	if len(l) > 200 {
		return api.ErrFull
	}
	for _, r := range l {
		if err := record.Check(r); err != nil {
			return told(err)
		}
	}
	return told(value.Name(name))
}

// plainValue is what a record has by a name; false: it has it not.
func plainValue(r api.Record, name string) (api.Value, bool) {
	for _, p := range r {
		if p.Name == name {
			return p.Value, true
		}
	}
	return api.Value{}, false
}

// plainAhead tells whether a value stands ahead of another one, up.
func plainAhead(a, b api.Value) bool {
	switch {
	case a.Type != b.Type:
		return a.Type == api.Int || b.Type == api.Text
	case a.Type == api.Text:
		return a.S < b.S
	}
	return a.N < b.N
}

// plainBefore tells whether a record stands ahead of another one, wherever they stood.
func plainBefore(a, b api.Record, name string, down bool) bool {
	v, has := plainValue(a, name)
	w, too := plainValue(b, name)
	switch {
	case !has || !too:
		return has && !too
	case down:
		return plainAhead(w, v)
	}
	return plainAhead(v, w)
}

// plainSort is what Sort answers: one by one, each as far ahead as it may come.
func plainSort(l []api.Record, name string, down bool) (sorted []api.Record, wrong api.Errno) {
	if wrong := plainWrong(l, name); wrong != api.OK {
		return nil, wrong
	}
	for _, r := range l {
		at := len(sorted)
		for at > 0 && plainBefore(r, sorted[at-1], name, down) {
			at--
		}
		sorted = slices.Insert(sorted, at, r)
	}
	return sorted, api.OK
}

// plainGroup is what Group answers: the records that are sorted, run by run of equal ones.
func plainGroup(l []api.Record, name string) (groups []api.Record, wrong api.Errno) {
	sorted, wrong := plainSort(l, name, false)
	if wrong != api.OK {
		return nil, wrong
	}
	if name == "n" {
		return nil, api.ErrShape
	}
	var last api.Value // none that a record has
	for _, r := range sorted {
		v, has := plainValue(r, name)
		if has && v != last {
			groups = append(groups, plainCount(l, name, v))
		}
		last = v
	}
	return groups, api.OK
}

// plainCount is the record of a value, and of how many have it.
func plainCount(l []api.Record, name string, v api.Value) api.Record {
	n := 0
	for _, r := range l {
		if w, has := plainValue(r, name); has && v == w {
			n++
		}
	}
	if name < "n" {
		return api.Record{prop(name, v), prop("n", number(n))}
	}
	return api.Record{prop("n", number(n)), prop(name, v)}
}

// plainSum is what Sum answers.
func plainSum(l []api.Record, name string) (sum int, wrong api.Errno) {
	if wrong := plainWrong(l, name); wrong != api.OK {
		return 0, wrong
	}
	for _, r := range l {
		v, has := plainValue(r, name)
		if has && v.Type != api.Int {
			return 0, api.ErrType
		}
		sum += v.N
	}
	return sum, api.OK
}

// same tells whether records are: an empty one and nil are.
func same(a, b []api.Record) bool {
	return slices.EqualFunc(a, b, slices.Equal[api.Record])
}

// testPick asks Pick for records.
func testPick(t *testing.T, g api.Graph, rows [][]int, at int, names []string, want ...string) {
	t.Helper()
	if got, err := Pick(g, rows, at, names); !same(got, all(want...)) || err != nil {
		t.Errorf("Pick(%v, %v, %d, %.300q): got %v, %v, want %v", g, rows, at, names, got, err, want)
	}
}

// testNoPick asks Pick for an error, with which nothing else comes.
func testNoPick(t *testing.T, g api.Graph, rows [][]int, at int, names []string, want api.Errno) {
	t.Helper()
	if got, err := Pick(g, rows, at, names); len(got) != 0 || told(err) != want {
		t.Errorf("Pick(%v, %v, %d, %.300q): got %v, %v, want %v", g, rows, at, names, got, err, want)
	}
}

// testSort asks Sort for records.
func testSort(t *testing.T, l []api.Record, name string, down bool, want ...string) {
	t.Helper()
	testSorted(t, l, name, down, all(want...))
}

func testSorted(t *testing.T, l []api.Record, name string, down bool, want []api.Record) {
	t.Helper()
	if got, err := Sort(l, name, down); !same(got, want) || err != nil {
		t.Errorf("Sort(%v, %q, %v): got %v, %v, want %v", l, name, down, got, err, want)
	}
}

// testGroup asks Group for records, which are some by chapter 2's Check.
func testGroup(t *testing.T, l []api.Record, name string, want ...string) {
	t.Helper()
	got, err := Group(l, name)
	if !same(got, all(want...)) || err != nil {
		t.Errorf("Group(%v, %q): got %v, %v, want %v", l, name, got, err, want)
	}
	for _, r := range got {
		if err := record.Check(r); err != nil {
			t.Errorf("Group(%v, %q): %v is no record: %v", l, name, r, err)
		}
	}
}

// testSum asks Sum for a number.
func testSum(t *testing.T, l []api.Record, name string, want int) {
	t.Helper()
	if got, err := Sum(l, name); got != want || err != nil {
		t.Errorf("Sum(%v, %q): got %d, %v, want %d", l, name, got, err, want)
	}
}

// testNoSort asks Sort, both ways, for an error, with which nothing else comes.
func testNoSort(t *testing.T, l []api.Record, name string, want api.Errno) {
	t.Helper()
	for _, down := range []bool{false, true} {
		if got, err := Sort(l, name, down); len(got) != 0 || told(err) != want {
			t.Errorf("Sort(%v, %q, %v): got %v, %v, want %v", l, name, down, got, err, want)
		}
	}
}

func testNoGroup(t *testing.T, l []api.Record, name string, want api.Errno) {
	t.Helper()
	if got, err := Group(l, name); len(got) != 0 || told(err) != want {
		t.Errorf("Group(%v, %q): got %v, %v, want %v", l, name, got, err, want)
	}
}

func testNoSum(t *testing.T, l []api.Record, name string, want api.Errno) {
	t.Helper()
	if got, err := Sum(l, name); got != 0 || told(err) != want {
		t.Errorf("Sum(%v, %q): got %d, %v, want %v", l, name, got, err, want)
	}
}

// testWrong asks Sort, Group and Sum for one of Sort's errors.
func testWrong(t *testing.T, l []api.Record, name string, want api.Errno) {
	t.Helper()
	testNoSort(t, l, name, want)
	testNoGroup(t, l, name, want)
	testNoSum(t, l, name, want)
}

// testPlainly holds Sort, Group and Sum against the plain tellings.
func testPlainly(t *testing.T, l []api.Record, name string) {
	t.Helper()
	for _, down := range []bool{false, true} {
		want, wrong := plainSort(l, name, down)
		if got, err := Sort(l, name, down); !same(got, want) || told(err) != wrong {
			t.Fatalf("Sort(%v, %q, %v): got %v, %v, want %v, %v", l, name, down, got, err, want, wrong)
		}
	}
	want, wrong := plainGroup(l, name)
	if got, err := Group(l, name); !same(got, want) || told(err) != wrong {
		t.Fatalf("Group(%v, %q): got %v, %v, want %v, %v", l, name, got, err, want, wrong)
	}
	sum, wrong := plainSum(l, name)
	if got, err := Sum(l, name); got != sum || told(err) != wrong {
		t.Fatalf("Sum(%v, %q): got %d, %v, want %d, %v", l, name, got, err, sum, wrong)
	}
}
