package change

import (
	"fmt"
	"math"
	"slices"
	"strings"
	"testing"

	"kinshape/api"
	"kinshape/plain"
	"kinshape/schema"
	"kinshape/value"
)

func told(err error) api.Errno { return plain.Told(err) }

func number(n int) api.Value   { return api.Value{Type: api.Int, N: n} }
func truth(n int) api.Value    { return api.Value{Type: api.Bool, N: n} }
func words(s string) api.Value { return api.Value{Type: api.Text, S: s} }

func field(name string, fieldType int) api.Field { return api.Field{Name: name, Type: fieldType} }
func must(f api.Field) api.Field                 { f.Must = true; return f }
func key(f api.Field) api.Field                  { f.Must, f.Key = true, true; return f }

// breed makes a kind: what it comes of, blanks between, and its fields.
func breed(name, of string, own ...api.Field) api.Kind {
	return api.Kind{Name: name, Of: strings.Fields(of), Fields: own}
}

// bond makes a bond: its name and ends, a blank between.
func bond(words string, least, most int) api.Bond {
	w := strings.Split(words, " ")
	return api.Bond{Name: w[0], From: w[1], To: w[2], Min: least, Max: most}
}

func addKind(k api.Kind) api.Change        { return api.Change{What: api.AddKind, Kind: k} }
func dropKindOp(name string) api.Change    { return api.Change{What: api.DropKind, Name: name} }
func addBond(b api.Bond) api.Change        { return api.Change{What: api.AddBond, Bond: b} }
func dropBondOp(name string) api.Change    { return api.Change{What: api.DropBond, Name: name} }
func changes(l ...api.Change) []api.Change { return l }

// addFieldOp adds a field to a kind, of which nodes then have nothing.
func addFieldOp(kind string, f api.Field) api.Change {
	return api.Change{What: api.AddField, Name: kind, Field: f}
}

// addWith adds a field to a kind, of which nodes then have a value.
func addWith(kind string, f api.Field, v api.Value) api.Change {
	return api.Change{What: api.AddField, Name: kind, Field: f, Value: v}
}

func dropFieldOp(kind, name string) api.Change {
	return api.Change{What: api.DropField, Name: kind, Field: api.Field{Name: name}}
}

func rename(kind, name, to string) api.Change {
	return api.Change{What: api.Rename, Name: kind, Field: api.Field{Name: name}, To: to}
}

func setTo(name string, least, most int) api.Change {
	return api.Change{What: api.Range, Name: name, Bond: api.Bond{Min: least, Max: most}}
}

// plan is the schema of lines, `;` between.
func plan(text string) api.Schema {
	var lines string
	for _, line := range strings.Split(text, ";") {
		if line != "" {
			lines += strings.TrimSpace(line) + "\n"
		}
	}
	s, at, err := schema.Parse(lines)
	if err != nil {
		panic(fmt.Sprint(text, at, err))
	}
	return s
}

// kinds makes n kinds, a, b, c and so on, that come of nothing.
func kinds(n int) (l []api.Kind) {
	for i := range n {
		l = append(l, api.Kind{Name: string(rune('a' + i))})
	}
	return l
}

// bonds makes n bonds, ba, bb, bc and so on, from the kind a to it.
func bonds(n int) (l []api.Bond) {
	for i := range n {
		l = append(l, bond("b"+string(rune('a'+i))+" a a", 0, -1))
	}
	return l
}

// fields makes n fields, b, d, f and so on.
func fields(n int) (l []api.Field) {
	for i := range n {
		l = append(l, field(string(rune('b'+2*i)), api.Int))
	}
	return l
}

// badNames has texts that are no name: ahead of all names, between them and behind them.
func badNames() []string {
	return []string{"", "K", "kK", "abcdefghi", "k1", "k ", " k", "k=", "k\n", "é", "k\x00", "\xff", "zzzzzzzzz", strings.Repeat("k", 1000)}
}

// noWhats has numbers that no change has as its What.
func noWhats() []int {
	return []int{0, -1, -8, 9, 10, 256 + api.AddKind, 1<<32 + api.AddBond, math.MaxInt, math.MinInt}
}

// whats has all that a change may do.
func whats() []int {
	return []int{api.AddKind, api.DropKind, api.AddField, api.DropField, api.AddBond, api.DropBond, api.Rename, api.Range}
}

type badValue struct {
	v    api.Value
	want api.Errno
}

// badValues has each error of chapter 1's Check, of each type. Type 0 is none of them: it says that there is no value.
func badValues() []badValue {
	return []badValue{
		{api.Value{Type: 4}, api.ErrType}, {api.Value{Type: -1, N: 2_000_000, S: "u"}, api.ErrType}, {api.Value{Type: math.MaxInt}, api.ErrType},
		{number(1_000_001), api.ErrRange}, {number(-1_000_001), api.ErrRange}, {truth(2), api.ErrRange}, {truth(-1), api.ErrRange}, {api.Value{Type: api.Text, N: 1}, api.ErrRange},
		{words(strings.Repeat("z", 21)), api.ErrFull},
		{words("\n"), api.ErrSyntax}, {words("\x7f"), api.ErrSyntax}, {api.Value{Type: api.Int, S: "u"}, api.ErrSyntax}, {api.Value{Type: api.Bool, S: "u"}, api.ErrSyntax},
	}
}

type badSchema struct {
	s    api.Schema
	want api.Errno
}

// badSchemas has each error that chapters 3 and 4 have.
func badSchemas() []badSchema {
	of := func(l []api.Kind, b ...api.Bond) api.Schema { return api.Schema{Kinds: l, Bonds: b} }
	one := func(l ...api.Field) api.Schema { return of([]api.Kind{breed("a", "", l...)}) }
	a := breed("a", "", field("k", api.Int))
	l := []badSchema{
		{of(kinds(13)), api.ErrFull},
		{of(kinds(1), bonds(13)...), api.ErrFull},
		{of([]api.Kind{a, a}), api.ErrClash},
		{of(append(kinds(5), breed("f", "a b c d e"))), api.ErrFull},
		{one(fields(9)...), api.ErrFull},
		{of([]api.Kind{a, breed("b", "b")}), api.ErrNone},
		{of([]api.Kind{a, breed("b", "a a")}), api.ErrClash},
		{one(field("k", 0)), api.ErrType},
		{one(field("k", 4)), api.ErrType},
		{one(api.Field{Name: "k", Type: api.Int, Key: true}), api.ErrShape},
		{one(field("k", api.Int), field("k", api.Int)), api.ErrClash},
		{one(field("m", api.Int), field("k", api.Int)), api.ErrClash},
		{of([]api.Kind{a, breed("b", "a", field("k", api.Text))}), api.ErrClash},
		{of([]api.Kind{a, breed("b", "a", must(field("k", api.Int)))}), api.ErrClash},
		{of([]api.Kind{breed("a", "", fields(8)...), breed("b", "a", field("a", api.Int))}), api.ErrFull},
		{of(kinds(1), bond("p a a", 0, 1), bond("p a a", 0, 1)), api.ErrClash},
		{of(kinds(1), bond("p zz a", 0, 1)), api.ErrNone},
		{of(kinds(1), bond("p a zz", 0, 1)), api.ErrNone},
		{of(kinds(1), bond("p a a", -1, 1)), api.ErrRange},
		{of(kinds(1), bond("p a a", 21, -1)), api.ErrRange},
		{of(kinds(1), bond("p a a", 2, 1)), api.ErrRange},
		{of(kinds(1), bond("p a a", 0, 21)), api.ErrRange},
		{of(kinds(1), bond("p a a", 0, -2)), api.ErrRange},
	}
	for _, name := range badNames() {
		l = append(l, badSchema{of([]api.Kind{{Name: name}}), api.ErrSyntax}, badSchema{of([]api.Kind{a, {Name: name}}), api.ErrSyntax},
			badSchema{one(field(name, api.Int)), api.ErrSyntax}, badSchema{of(kinds(1), api.Bond{Name: name, From: "a", To: "a"}), api.ErrSyntax})
	}
	return l
}

// someSchema has kinds that come of others, by one and by two ways, fields that several have, and bonds between them.
func someSchema() api.Schema {
	return plan("kind a k:int m:text! x:bool*; kind b of a f:int; kind c y:int; kind d of b,c k:int z:text; kind e; kind g; bond p a c 0 any; bond q e e 1 2; bond r c d 0 2; bond u e a 3 3")
}

// someChanges has one of each What that someSchema takes, also one after the other.
func someChanges() []api.Change {
	return changes(addKind(breed("h", "a c", field("j", api.Int))), dropKindOp("g"), addWith("a", must(field("l", api.Int)), number(7)), dropFieldOp("b", "f"),
		addBond(bond("w b e", 0, 5)), dropBondOp("r"), rename("c", "y", "aa"), setTo("q", 0, -1))
}

// plainKind is the kind of a name; nil: there is none.
func plainKind(s api.Schema, name string) *api.Kind {
	for i := range s.Kinds {
		if s.Kinds[i].Name == name {
			return &s.Kinds[i]
		}
	}
	return nil
}

// plainHas tells whether the kind itself has a field of the name.
func plainHas(k *api.Kind, name string) bool {
	for _, f := range k.Fields {
		if f.Name == name {
			return true
		}
	}
	return false
}

// plainSorted has the fields of the kind but for one, and another one, if it has a name.
func plainSorted(k *api.Kind, without string, with ...api.Field) (l []api.Field) {
	for _, f := range k.Fields {
		if f.Name != without {
			l = append(l, f)
		}
	}
	l = append(l, with...)
	slices.SortFunc(l, func(a, b api.Field) int { return strings.Compare(a.Name, b.Name) })
	return l
}

// plainDo is what Do answers, told sentence by sentence.
func plainDo(s api.Schema, c api.Change) (api.Schema, api.Errno) {
	if _, err := schema.Check(s); err != nil {
		return api.Schema{}, told(err)
	}
	s = schema.Copy(s)
	wrong := api.ErrRange
	switch c.What {
	case api.AddKind:
		s.Kinds, wrong = append(s.Kinds, c.Kind), api.OK
	case api.AddBond:
		s.Bonds, wrong = append(s.Bonds, c.Bond), api.OK
	case api.DropKind:
		wrong = plainDropKind(&s, c.Name)
	case api.AddField, api.DropField, api.Rename:
		wrong = api.ErrNone
		if k := plainKind(s, c.Name); k != nil {
			wrong = plainFields(k, c)
		}
	case api.DropBond, api.Range:
		wrong = plainBond(&s, c)
	}
	if wrong == api.OK {
		_, err := schema.Check(s)
		wrong = told(err)
	}
	if wrong != api.OK {
		return api.Schema{}, wrong
	}
	return s, api.OK
}

func plainDropKind(s *api.Schema, name string) api.Errno {
	if plainKind(*s, name) == nil {
		return api.ErrNone
	}
	var l []api.Kind
	for _, k := range s.Kinds {
		for _, of := range k.Of {
			if of == name {
				return api.ErrState
			}
		}
		if k.Name != name {
			l = append(l, k)
		}
	}
	for _, b := range s.Bonds {
		if b.From == name || b.To == name {
			return api.ErrState
		}
	}
	s.Kinds = l
	return api.OK
}

// plainFields changes the fields of a kind.
func plainFields(k *api.Kind, c api.Change) api.Errno {
	has := plainHas(k, c.Field.Name)
	switch {
	case c.What == api.AddField && has:
		return api.ErrClash
	case c.What == api.AddField:
		k.Fields = plainSorted(k, "", c.Field)
		return plainAdded(c)
	case !has:
		return api.ErrNone
	case c.What == api.DropField:
		k.Fields = plainSorted(k, c.Field.Name)
		return api.OK
	case value.Name(c.To) != nil:
		return api.ErrSyntax
	case plainHas(k, c.To):
		return api.ErrClash
	}
	for _, f := range k.Fields {
		if f.Name == c.Field.Name {
			f.Name = c.To
			k.Fields = plainSorted(k, c.Field.Name, f)
		}
	}
	return api.OK
}

// plainAdded is what is wrong with a field that is added, and its value.
func plainAdded(c api.Change) api.Errno {
	switch {
	case c.Field.Key:
		return api.ErrShape
	case c.Value.Type == 0 && c.Field.Must:
		return api.ErrShape
	case c.Value.Type == 0:
		return api.OK
	case value.Check(c.Value) != nil:
		return told(value.Check(c.Value))
	case c.Value.Type != c.Field.Type:
		return api.ErrType
	}
	return api.OK
}

// plainBond drops a bond, or changes its range.
func plainBond(s *api.Schema, c api.Change) api.Errno {
	var l []api.Bond
	wrong := api.ErrNone
	for _, b := range s.Bonds {
		if b.Name == c.Name {
			wrong = api.OK
			if c.What == api.DropBond {
				continue
			}
			b = api.Bond{Name: b.Name, From: b.From, To: b.To, Min: c.Bond.Min, Max: c.Bond.Max}
		}
		l = append(l, b)
	}
	s.Bonds = l
	return wrong
}

// plainAll is what All answers: one by one.
func plainAll(s api.Schema, l []api.Change) (api.Schema, int, api.Errno) {
	if len(l) > 40 {
		return api.Schema{}, 0, api.ErrFull
	}
	if _, err := schema.Check(s); err != nil {
		return api.Schema{}, 0, told(err)
	}
	for i, c := range l {
		next, wrong := plainDo(s, c)
		if wrong != api.OK {
			return api.Schema{}, i, wrong
		}
		s = next
	}
	return s, 0, api.OK
}

// plainIs tells whether a kind is another one, or comes of it.
func plainIs(l []api.Kind, a, b string) bool {
	if a == b {
		return true
	}
	for _, k := range l {
		for _, of := range k.Of {
			if k.Name == a && plainIs(l, of, b) {
				return true
			}
		}
	}
	return false
}

// plainKinds is what Kinds answers.
func plainKinds(s api.Schema, c api.Change) (names []string, wrong api.Errno) {
	if _, wrong := plainDo(s, c); wrong != api.OK {
		return nil, wrong
	}
	if c.What == api.AddField || c.What == api.DropField || c.What == api.Rename {
		for _, k := range s.Kinds {
			if plainIs(s.Kinds, k.Name, c.Name) {
				names = append(names, k.Name)
			}
		}
	}
	return names, api.OK
}

// same tells whether schemas are: an empty list and nil are.
func same(a, b api.Schema) bool {
	sameKind := func(x, y api.Kind) bool {
		return x.Name == y.Name && slices.Equal(x.Of, y.Of) && slices.Equal(x.Fields, y.Fields)
	}
	return slices.EqualFunc(a.Kinds, b.Kinds, sameKind) && slices.Equal(a.Bonds, b.Bonds)
}

// testDo asks Do for a schema, which is one by chapter 4's Check, and All of that change alone for the same.
func testDo(t *testing.T, s api.Schema, c api.Change, want string) {
	t.Helper()
	got, err := Do(s, c)
	if !same(got, plan(want)) || err != nil {
		t.Errorf("Do(%v, %v): got %v, %v, want %v", s, c, got, err, plan(want))
	}
	if name, err := schema.Check(got); err != nil {
		t.Errorf("Do(%v, %v): %v is no schema: %q, %v", s, c, got, name, err)
	}
	testAll(t, s, changes(c), plan(want))
}

// testNoDo asks Do and Kinds for an error, with which nothing else comes, and All of that change alone for the same.
func testNoDo(t *testing.T, s api.Schema, c api.Change, want api.Errno) {
	t.Helper()
	if got, err := Do(s, c); !same(got, api.Schema{}) || told(err) != want {
		t.Errorf("Do(%v, %v): got %v, %v, want %v", s, c, got, err, want)
	}
	testNoKinds(t, s, c, want)
	testNoAll(t, s, changes(c), 0, want)
}

func testKinds(t *testing.T, s api.Schema, c api.Change, want string) {
	t.Helper()
	if got, err := Kinds(s, c); !slices.Equal(got, strings.Fields(want)) || err != nil {
		t.Errorf("Kinds(%v, %v): got %v, %v, want %v", s, c, got, err, want)
	}
}

func testNoKinds(t *testing.T, s api.Schema, c api.Change, want api.Errno) {
	t.Helper()
	if got, err := Kinds(s, c); len(got) != 0 || told(err) != want {
		t.Errorf("Kinds(%v, %v): got %v, %v, want %v", s, c, got, err, want)
	}
}

func testAll(t *testing.T, s api.Schema, l []api.Change, want api.Schema) {
	t.Helper()
	if got, at, err := All(s, l); !same(got, want) || at != 0 || err != nil {
		t.Errorf("All(%v, %v): got %v, %d, %v, want %v", s, l, got, at, err, want)
	}
}

// testNoAll asks All for an error at a number, with which nothing else comes.
func testNoAll(t *testing.T, s api.Schema, l []api.Change, at int, want api.Errno) {
	t.Helper()
	if got, i, err := All(s, l); !same(got, api.Schema{}) || i != at || told(err) != want {
		t.Errorf("All(%v, %v): got %v, %d, %v, want %v at %d", s, l, got, i, err, want, at)
	}
}

// testPlainly holds Do and Kinds against the plain tellings.
func testPlainly(t *testing.T, s api.Schema, c api.Change) api.Errno {
	t.Helper()
	want, wrong := plainDo(s, c)
	if got, err := Do(s, c); !same(got, want) || told(err) != wrong {
		t.Fatalf("Do(%v, %v): got %v, %v, want %v, %v", s, c, got, err, want, wrong)
	}
	names, wrong := plainKinds(s, c)
	if got, err := Kinds(s, c); !slices.Equal(got, names) || told(err) != wrong {
		t.Fatalf("Kinds(%v, %v): got %v, %v, want %v, %v", s, c, got, err, names, wrong)
	}
	return wrong
}
