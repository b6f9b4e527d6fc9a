package diff

import (
	"fmt"
	"math"
	"slices"
	"strconv"
	"strings"
	"testing"

	"kinshape/api"
	"kinshape/check"
	"kinshape/plain"
	"kinshape/record"
	"kinshape/schema"
)

func told(err error) api.Errno { return plain.Told(err) }

func field(name string, fieldType int) api.Field { return api.Field{Name: name, Type: fieldType} }

// breed makes a kind: what it comes of, blanks between, and its fields.
func breed(name, of string, own ...api.Field) api.Kind {
	return api.Kind{Name: name, Of: strings.Fields(of), Fields: own}
}

// bond makes a bond: its name and ends, a blank between.
func bond(words string, least, most int) api.Bond {
	w := strings.Split(words, " ")
	return api.Bond{Name: w[0], From: w[1], To: w[2], Min: least, Max: most}
}

// node has the record of a text.
func node(id int, kind, text string) api.Node {
	r, err := record.Parse(text)
	if err != nil {
		panic(fmt.Sprint(text, err))
	}
	return api.Node{Id: id, Kind: kind, Record: r}
}

// plan is the schema of lines, `;` between.
func plan(text string) api.Schema {
	var lines string
	for _, line := range strings.Split(text, ";") {
		if line != "" {
			lines += strings.TrimSpace(line) + "\n"
		}
	}
	s, at, err := schema.Parse(lines)
	if err != nil {
		panic(fmt.Sprint(text, at, err))
	}
	return s
}

// web is the graph of nodes (`id kind record`) and ties (`bond from to`), `;` between.
func web(text string) (g api.Graph) {
	for _, part := range strings.Split(text, ";") {
		w := strings.Fields(part)
		if len(w) == 0 {
			continue
		}
		if id, err := strconv.Atoi(w[0]); err == nil {
			g.Nodes = append(g.Nodes, node(id, w[1], w[2]))
			continue
		}
		from, _ := strconv.Atoi(w[1])
		to, _ := strconv.Atoi(w[2])
		g.Ties = append(g.Ties, api.Tie{Bond: w[0], From: from, To: to})
	}
	return g
}

// printed has a schema's lines, of which Print makes them, for what is told of a fault.
func printed(s api.Schema) string {
	text, err := schema.Print(s)
	if err != nil {
		return fmt.Sprint(s)
	}
	return strings.ReplaceAll(strings.TrimSuffix(text, "\n"), "\n", "; ")
}

func conforms(s api.Schema, g api.Graph) bool {
	is, err := check.Conforms(s, g)
	return is && err == nil
}

// testLoses asks Loses for names, blanks between.
func testLoses(t *testing.T, a, b api.Schema, want string) {
	t.Helper()
	if got, err := Loses(a, b); !slices.Equal(got, strings.Fields(want)) || err != nil {
		t.Errorf("Loses(%s | %s): got %v, %v, want %v", printed(a), printed(b), got, err, want)
	}
}

func testWider(t *testing.T, a, b api.Schema, want bool) {
	t.Helper()
	if got, err := Wider(a, b); got != want || err != nil {
		t.Errorf("Wider(%s | %s): got %v, %v, want %v", printed(a), printed(b), got, err, want)
	}
}

// testBad asks both for an error, and nothing with it.
func testBad(t *testing.T, a, b api.Schema, want api.Errno) {
	t.Helper()
	if got, err := Loses(a, b); got != nil || told(err) != want {
		t.Errorf("Loses(%v | %v): got %v, %v, want %v", a, b, got, err, want)
	}
	if got, err := Wider(a, b); got || told(err) != want {
		t.Errorf("Wider(%v | %v): got %v, %v, want %v", a, b, got, err, want)
	}
}

// someSchemas has schemas that are right, of all that one has.
func someSchemas() []api.Schema {
	return []api.Schema{
		{},
		{Kinds: []api.Kind{}, Bonds: []api.Bond{}},
		plan("kind a"),
		plan("kind a k:int* l:bool! m:text"),
		plan("kind a; kind b of a; kind c of b,a x:int; bond p a b 0 any; bond q c c 3 20"),
		plan("kind d; kind a k:int; kind c of d,a k:int; bond c a d 20 20; bond a d d 0 0"),
		fullSchema(),
	}
}

// fullSchema has as many kinds, fields and bonds as there may be, one that comes of as many as may be, and names as long as they may be.
func fullSchema() (s api.Schema) {
	for i := range api.MaxTypes {
		name := strings.Repeat("a", api.MaxName-1) + string(rune('a'+i))
		k := api.Kind{Name: name}
		if i == api.MaxTypes-1 {
			for _, ahead := range s.Kinds[:api.MaxKin] {
				k.Of = append(k.Of, ahead.Name)
			}
		}
		for j := range api.MaxProps {
			k.Fields = append(k.Fields, field("f"+string(rune('a'+j)), 1+j%3))
		}
		s.Kinds = append(s.Kinds, k)
		s.Bonds = append(s.Bonds, api.Bond{Name: name, From: name, To: s.Kinds[i/2].Name, Max: i - 1})
	}
	return s
}

type badSchema struct {
	s    api.Schema
	want api.Errno
}

// badSchemas has each error of chapter 4's Check, and of those that it stands on.
func badSchemas() []badSchema {
	kinds := func(l ...api.Kind) api.Schema { return api.Schema{Kinds: l} }
	bonds := func(l ...api.Bond) api.Schema { return api.Schema{Kinds: []api.Kind{{Name: "a"}}, Bonds: l} }
	fields := func(l ...api.Field) api.Schema { return kinds(breed("a", ""), breed("b", "", l...)) }
	l := []badSchema{
		{kinds(make([]api.Kind, 13)...), api.ErrFull},
		{kinds(make([]api.Kind, 100_000)...), api.ErrFull},
		{kinds(breed("", "")), api.ErrSyntax},
		{kinds(breed("a", ""), breed("A", "")), api.ErrSyntax},
		{kinds(breed("abcdefghi", "")), api.ErrSyntax},
		{kinds(breed("a", ""), breed("b", ""), breed("a", "")), api.ErrClash},
		{kinds(breed("a", ""), breed("b", "a a a a a")), api.ErrFull},
		{kinds(breed("a", "a")), api.ErrNone},
		{kinds(breed("a", "b"), breed("b", "")), api.ErrNone},
		{kinds(breed("a", ""), breed("b", "a a")), api.ErrClash},
		{fields(make([]api.Field, 9)...), api.ErrFull},
		{fields(field("K", api.Int)), api.ErrSyntax},
		{fields(api.Field{Name: "k", Type: api.Int, Key: true}), api.ErrShape},
		{fields(field("k", api.Int), field("k", api.Int)), api.ErrClash},
		{fields(field("l", api.Int), field("k", api.Int)), api.ErrClash},
		{kinds(breed("a", "", field("k", api.Int)), breed("b", "a", field("k", api.Text))), api.ErrClash},
		{kinds(breed("a", "", someFields(8)...), breed("b", "a", field("z", api.Int))), api.ErrFull},
		{bonds(make([]api.Bond, 13)...), api.ErrFull},
		{bonds(bond(" a a", 0, 1)), api.ErrSyntax},
		{bonds(bond("P a a", 0, 1)), api.ErrSyntax},
		{bonds(bond("p a a", 0, 1), bond("p a a", 0, 1)), api.ErrClash},
		{bonds(bond("p zz a", 0, 1)), api.ErrNone},
		{bonds(bond("p a zz", 0, 1)), api.ErrNone},
		{api.Schema{Bonds: []api.Bond{bond("p a a", 0, 1)}}, api.ErrNone},
		{bonds(bond("p a a", 2, 1)), api.ErrRange},
		{bonds(bond("p a a", -1, 1)), api.ErrRange},
		{bonds(bond("p a a", 0, -2)), api.ErrRange},
		{bonds(bond("p a a", 0, 21)), api.ErrRange},
		{bonds(bond("p a a", 21, -1)), api.ErrRange},
	}
	for _, n := range []int{math.MinInt, math.MaxInt, 1<<32 + 1, -1 << 32} {
		l = append(l, badSchema{fields(field("k", n)), api.ErrType}, badSchema{bonds(bond("p a a", n, 1)), api.ErrRange}, badSchema{bonds(bond("p a a", 0, n)), api.ErrRange})
	}
	for _, n := range []int{0, 4, -1} {
		l = append(l, badSchema{fields(field("k", n)), api.ErrType})
	}
	return l
}

// someFields has n fields a, b, c and so on.
func someFields(n int) (l []api.Field) {
	for i := range n {
		l = append(l, field(string(rune('a'+i)), api.Int))
	}
	return l
}
