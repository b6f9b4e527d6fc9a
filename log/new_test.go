package log

import (
	"strings"
	"testing"

	"kinshape/api"
)

// fullSchema has as many kinds, fields and bonds as there may be.
func fullSchema() (s api.Schema) {
	for i := range api.MaxTypes {
		name := strings.Repeat("a", 1+i%4) + string(rune('b'+i))
		k := api.Kind{Name: name}
		for j := range api.MaxProps {
			k.Fields = append(k.Fields, field("f"+string(rune('a'+j)), 1+j%3))
		}
		s.Kinds = append(s.Kinds, k)
		s.Bonds = append(s.Bonds, api.Bond{Name: name, From: name, To: s.Kinds[i/2].Name, Max: i - 1})
	}
	return s
}

// TestNew: L1, behind New there are the schema, an empty graph, and no bytes.
func TestNew(t *testing.T) {
	schemas := []api.Schema{{}, {Kinds: []api.Kind{}, Bonds: []api.Bond{}}, plan("kind a"), someSchema(), fullSchema()}
	for _, s := range schemas {
		x := made(t, s)
		testNow(t, x, all{schema: s})
		// None of them is another's.
		testGoes(t, x, alter(dropBondOrAddKind(s)))
		testNow(t, made(t, s), all{schema: s})
	}
}

// dropBondOrAddKind is a change that goes with a schema.
func dropBondOrAddKind(s api.Schema) api.Change {
	if len(s.Bonds) > 0 {
		return dropBond(s.Bonds[0].Name)
	}
	return addKind(breed("new", ""))
}

// TestNewWrong: L1, chapter 4's Check's error, and no log with it.
func TestNewWrong(t *testing.T) {
	kinds := func(l ...api.Kind) api.Schema { return api.Schema{Kinds: l} }
	bonds := func(l ...api.Bond) api.Schema { return api.Schema{Kinds: []api.Kind{{Name: "a"}}, Bonds: l} }
	fields := func(l ...api.Field) api.Schema { return kinds(breed("a", ""), breed("b", "", l...)) }
	for _, c := range []struct {
		s    api.Schema
		want api.Errno
	}{
		{kinds(make([]api.Kind, 13)...), api.ErrFull},
		{kinds(breed("", "")), api.ErrSyntax},
		{kinds(breed("a", ""), breed("A", "")), api.ErrSyntax},
		{kinds(breed("abcdefghi", "")), api.ErrSyntax},
		{kinds(breed("a", ""), breed("b", ""), breed("a", "")), api.ErrClash},
		{kinds(breed("a", "a")), api.ErrNone},
		{kinds(breed("a", "b"), breed("b", "")), api.ErrNone},
		{kinds(breed("a", ""), breed("b", "a a")), api.ErrClash},
		{kinds(breed("a", ""), breed("b", "a a a a a")), api.ErrFull},
		{fields(field("K", api.Int)), api.ErrSyntax},
		{fields(field("k", 0)), api.ErrType},
		{fields(field("k", 4)), api.ErrType},
		{fields(field("k", api.Int), field("k", api.Int)), api.ErrClash},
		{fields(field("l", api.Int), field("k", api.Int)), api.ErrClash},
		{fields(api.Field{Name: "k", Type: api.Int, Key: true}), api.ErrShape},
		{fields(make([]api.Field, 9)...), api.ErrFull},
		{kinds(breed("a", "", field("k", api.Int)), breed("b", "a", field("k", api.Text))), api.ErrClash},
		{bonds(make([]api.Bond, 13)...), api.ErrFull},
		{bonds(bond(" a a", 0, 1)), api.ErrSyntax},
		{bonds(bond("P a a", 0, 1)), api.ErrSyntax},
		{bonds(bond("p a a", 0, 1), bond("p a a", 0, 1)), api.ErrClash},
		{bonds(bond("p zz a", 0, 1)), api.ErrNone},
		{bonds(bond("p a zz", 0, 1)), api.ErrNone},
		{bonds(bond("p a a", 2, 1)), api.ErrRange},
		{bonds(bond("p a a", -1, 1)), api.ErrRange},
		{bonds(bond("p a a", 21, -1)), api.ErrRange},
	} {
		if x, err := New(c.s); x != nil || told(err) != c.want {
			t.Errorf("New(%v): got %v, %v, want %v", c.s, x, err, c.want)
		}
	}
}
