package schema

import (
	"math"
	"reflect"
	"slices"
	"strconv"
	"strings"
	"testing"

	"kinshape/api"
	"kinshape/kind"
	"kinshape/plain"
)

func told(err error) api.Errno { return plain.Told(err) }

// someKind makes a kind: what it comes of, blanks between, and its fields.
func someKind(name, of string, own ...api.Field) api.Kind {
	return api.Kind{Name: name, Of: strings.Fields(of), Fields: own}
}

func field(name string, fieldType int) api.Field { return api.Field{Name: name, Type: fieldType} }
func must(f api.Field) api.Field                 { f.Must = true; return f }
func key(f api.Field) api.Field                  { f.Must, f.Key = true, true; return f }

// bond makes a bond: its name and ends, a blank between.
func bond(words string, least, most int) api.Bond {
	w := strings.Split(words, " ")
	return api.Bond{Name: w[0], From: w[1], To: w[2], Min: least, Max: most}
}

// loose makes a bond that bounds nothing.
func loose(words string) api.Bond { return bond(words, 0, -1) }

func schema(kinds []api.Kind, bonds ...api.Bond) api.Schema {
	return api.Schema{Kinds: kinds, Bonds: bonds}
}

// kinds makes n kinds, a, b, c and so on, that come of nothing.
func kinds(n int) (l []api.Kind) {
	for i := range n {
		l = append(l, api.Kind{Name: string(rune('a' + i))})
	}
	return l
}

// bonds makes n bonds, ba, bb, bc and so on, from the kind a to it.
func bonds(n int) (l []api.Bond) {
	for i := range n {
		l = append(l, loose("b"+string(rune('a'+i))+" a a"))
	}
	return l
}

// noNames has words that are no names, though a word of a text may be most of them.
func noNames() []string {
	return []string{"", "A", "a1", "aB", "ä", "a\x00", "a\t", "\xff", "a!", "*", "a-b", "abcdefghi", strings.Repeat("a", 1000), "a b", "a,b", "a:b", "a\n"}
}

// goodSchemas has schemas that are right.
func goodSchemas() []api.Schema {
	ab := kinds(2)
	all := []api.Schema{
		{},
		{Kinds: []api.Kind{}, Bonds: []api.Bond{}},
		schema(kinds(1)),
		schema(kinds(12)),
		schema(kinds(1), bonds(12)...),
		schema(kinds(12), bonds(12)...),
		schema(ab, loose("p a b"), loose("q b a"), loose("r a a"), loose("s b b")),
		// A bond may have the name of a kind, and names need not rise.
		schema(ab, loose("a a b"), loose("b a b")),
		schema(ab, loose("q a b"), loose("p a b"), loose("abcdefgh a b")),
		// Words of the text's form are names, too.
		schema([]api.Kind{someKind("of", ""), someKind("kind", "of"), someKind("bond", "kind of", field("any", api.Int), field("of", api.Text))}, loose("bond of kind"), loose("of bond of"), loose("any of bond")),
		schema([]api.Kind{
			someKind("thing", "", key(field("id", api.Int))),
			someKind("named", "", must(field("name", api.Text)), field("nick", api.Text)),
			someKind("person", "named thing", field("age", api.Int), field("well", api.Bool)),
			someKind("boss", "person"),
		}, bond("knows person named", 0, -1), bond("boss boss thing", 1, 20)),
		schema([]api.Kind{
			someKind("x", "", field("a", api.Int), must(field("b", api.Int)), key(field("c", api.Int)), field("d", api.Bool), must(field("e", api.Bool)), key(field("f", api.Bool)), field("g", api.Text), must(field("h", api.Text))),
			someKind("z", "", key(field("abcdefgh", api.Text))),
		}),
		schema(append(kinds(4), someKind("e", "d b a c")), loose("p e a")),
	}
	for _, r := range [][2]int{{0, 0}, {0, 1}, {0, 20}, {0, -1}, {1, 1}, {9, 10}, {10, 10}, {19, 20}, {20, 20}, {20, -1}} {
		all = append(all, schema(ab, bond("p a b", r[0], r[1])), schema(ab, loose("q a b"), bond("p b a", r[0], r[1])))
	}
	return all
}

type badSchema struct {
	s    api.Schema
	name string
	want api.Errno
}

// badKinds has schemas of which the kinds are wrong, and the bonds, too, or not.
func badKinds() (bad []badSchema) {
	a := someKind("a", "", field("x", api.Int))
	faults := []struct {
		l    []api.Kind
		name string
		want api.Errno
	}{
		{kinds(13), "", api.ErrFull},
		{[]api.Kind{{Name: "A"}}, "A", api.ErrSyntax},
		{[]api.Kind{a, {}}, "", api.ErrSyntax},
		{[]api.Kind{a, a}, "a", api.ErrClash},
		{append(kinds(5), someKind("f", "a b c d e")), "f", api.ErrFull},
		{[]api.Kind{a, someKind("b", "c"), someKind("c", "")}, "b", api.ErrNone},
		{[]api.Kind{a, someKind("b", "a a")}, "b", api.ErrClash},
		{[]api.Kind{someKind("a", "", field("x", 4))}, "a", api.ErrType},
		{[]api.Kind{someKind("a", "", api.Field{Name: "x", Type: api.Int, Key: true})}, "a", api.ErrShape},
		{[]api.Kind{a, someKind("b", "a", field("x", api.Text))}, "b", api.ErrClash},
	}
	for _, f := range faults {
		for _, l := range [][]api.Bond{nil, bonds(1), bonds(13), {loose("A a a")}, {loose("p zz a")}, {bond("p a a", -1, -2)}} {
			bad = append(bad, badSchema{schema(f.l, l...), f.name, f.want})
		}
	}
	return bad
}

// badBonds has faults of a bond, each of the last one of its schema.
func badBonds() (bad []badSchema) {
	ab := kinds(2)
	for _, name := range noNames() {
		// ErrSyntax, whatever else is wrong.
		for _, b := range []api.Bond{{From: "a", To: "b"}, {From: "zz", To: "b", Min: -1}, {From: "a", To: "zz"}, {From: "a", To: "b", Min: 2, Max: 1}} {
			b.Name = name
			bad = append(bad, badSchema{schema(ab, b), name, api.ErrSyntax}, badSchema{schema(ab, append(bonds(11), b)...), name, api.ErrSyntax})
		}
		bad = append(bad, badSchema{schema(ab, api.Bond{Name: "p", From: name, To: "a"}), "p", api.ErrNone}, badSchema{schema(ab, api.Bond{Name: "p", From: "a", To: name}), "p", api.ErrNone})
	}
	p := loose("p a b")
	return append(bad,
		// ErrClash, ahead of what its ends are, and of its range.
		badSchema{schema(ab, p, p), "p", api.ErrClash},
		badSchema{schema(ab, p, loose("p b a")), "p", api.ErrClash},
		badSchema{schema(ab, p, loose("q a b"), bond("p a b", 1, 2)), "p", api.ErrClash},
		badSchema{schema(ab, append(bonds(11), loose("ba a b"))...), "ba", api.ErrClash},
		badSchema{schema(ab, p, loose("p zz b")), "p", api.ErrClash},
		badSchema{schema(ab, p, loose("p a zz")), "p", api.ErrClash},
		badSchema{schema(ab, p, bond("p a b", -1, 0)), "p", api.ErrClash},
		badSchema{schema(ab, p, bond("p zz zz", 2, 1)), "p", api.ErrClash},
		// ErrNone, ahead of its range.
		badSchema{schema(nil, loose("p a a")), "p", api.ErrNone},
		badSchema{schema(ab, loose("p c b")), "p", api.ErrNone},
		badSchema{schema(ab, loose("p a c")), "p", api.ErrNone},
		badSchema{schema(ab, loose("p c c")), "p", api.ErrNone},
		badSchema{schema(ab, p, loose("q p a")), "q", api.ErrNone},
		badSchema{schema(ab, p, loose("q a q")), "q", api.ErrNone},
		badSchema{schema(ab, bond("p c b", -1, 0)), "p", api.ErrNone},
		badSchema{schema(ab, bond("p a c", 21, -2)), "p", api.ErrNone},
		badSchema{schema(kinds(12), append(bonds(11), loose("p a m"))...), "p", api.ErrNone},
		// ErrRange.
		badSchema{schema(ab, bond("p a b", -1, 1)), "p", api.ErrRange},
		badSchema{schema(ab, bond("p a b", -1, -1)), "p", api.ErrRange},
		badSchema{schema(ab, bond("p a b", 21, -1)), "p", api.ErrRange},
		badSchema{schema(ab, bond("p a b", 21, 21)), "p", api.ErrRange},
		badSchema{schema(ab, bond("p a b", 0, 21)), "p", api.ErrRange},
		badSchema{schema(ab, bond("p a b", 0, -2)), "p", api.ErrRange},
		badSchema{schema(ab, bond("p a b", 1, 0)), "p", api.ErrRange},
		badSchema{schema(ab, bond("p a b", 20, 19)), "p", api.ErrRange},
		badSchema{schema(ab, p, bond("q a b", 3, 2)), "q", api.ErrRange},
		badSchema{schema(ab, append(bonds(11), bond("p a b", 0, 21))...), "p", api.ErrRange},
	)
}

// badSchemas has schemas that are none, the name that Check tells of each, and the error.
func badSchemas() []badSchema {
	full := []badSchema{
		// ErrFull, and no name: more than MaxTypes, whatever else is wrong with a bond.
		{schema(kinds(1), bonds(13)...), "", api.ErrFull},
		{schema(kinds(12), bonds(20)...), "", api.ErrFull},
		{schema(nil, make([]api.Bond, 13)...), "", api.ErrFull},
		{schema(nil, make([]api.Bond, 1000)...), "", api.ErrFull},
		{schema(kinds(1), append(bonds(12), loose("ba a a"))...), "", api.ErrFull},
		{schema(kinds(1), append([]api.Bond{loose("A a a")}, bonds(12)...)...), "", api.ErrFull},
	}
	return slices.Concat(full, badKinds(), badBonds())
}

// TestCheck: S1, each error, which one is told of several, and the name.
func TestCheck(t *testing.T) {
	for _, s := range goodSchemas() {
		if name, err := Check(s); name != "" || err != nil {
			t.Errorf("Check(%v): got %q, %v", s, name, err)
		}
	}
	for _, c := range badSchemas() {
		if name, err := Check(c.s); name != c.name || told(err) != c.want {
			t.Errorf("Check(%v): got %q, %v, want %q, %v", c.s, name, err, c.name, c.want)
		}
	}
}

// TestCheckBondByBond: S1, the first bond that is wrong is told, whatever is wrong with those behind it, and nothing of those ahead.
func TestCheckBondByBond(t *testing.T) {
	worse := []api.Bond{loose("A a b"), loose("p a b"), loose("zz zz b"), loose("zz a zz"), bond("zz a b", -1, 0), bond("zz a b", 0, 21)}
	for _, c := range badBonds() {
		ahead := schema(c.s.Kinds, c.s.Bonds[:len(c.s.Bonds)-1]...)
		if name, err := Check(ahead); name != "" || err != nil {
			t.Errorf("Check(%v): got %q, %v", ahead, name, err)
		}
		for _, b := range worse {
			s := schema(c.s.Kinds, slices.Concat(c.s.Bonds, []api.Bond{b})...)
			if len(s.Bonds) > api.MaxTypes {
				continue
			}
			if name, err := Check(s); name != c.name || told(err) != c.want {
				t.Errorf("Check(%v): got %q, %v, want %q, %v", s, name, err, c.name, c.want)
			}
		}
	}
}

// TestRange: S1, each Min with each Max, near their bounds and far from them.
func TestRange(t *testing.T) {
	far := []int{math.MinInt, math.MinInt32, -1000, 100, 1000, 1 << 32, 1<<32 + 1, math.MaxInt}
	numbers := slices.Clone(far)
	for n := -3; n <= 23; n++ {
		numbers = append(numbers, n)
	}
	for _, least := range numbers {
		for _, most := range numbers {
			name, want := "", api.OK
			if least < 0 || least > 20 || most != -1 && (most < least || most > 20) {
				name, want = "p", api.ErrRange
			}
			if got, err := Check(schema(kinds(1), bond("p a a", least, most))); got != name || told(err) != want {
				t.Errorf("Check of %d, %d: got %q, %v, want %q, %v", least, most, got, err, name, want)
			}
		}
	}
}

// TestMany: S1, as many kinds and bonds as may be, and one more.
func TestMany(t *testing.T) {
	for n := range 16 {
		for m := range 16 {
			s := schema(kinds(n), bonds(m)...)
			name, want := "", api.OK
			switch {
			case n > 12 || m > 12:
				want = api.ErrFull
			case n == 0 && m > 0:
				name, want = "ba", api.ErrNone
			}
			if got, err := Check(s); got != name || told(err) != want {
				t.Errorf("Check of %d kinds, %d bonds: got %q, %v, want %q, %v", n, m, got, err, name, want)
			}
		}
	}
}

// TestCheckFirst: S1, S2 and P3, each call tells Check's error ahead of ErrNone, and answers nothing else (P1).
func TestCheckFirst(t *testing.T) {
	for _, c := range badSchemas() {
		if got, err := Print(c.s); got != "" || told(err) != c.want {
			t.Errorf("Print(%v): got %q, %v, want %v", c.s, got, err, c.want)
		}
		for _, name := range []string{"a", "p", "ba", c.name, "zz", ""} {
			if got, err := Bond(c.s, name); got != (api.Bond{}) || told(err) != c.want {
				t.Errorf("Bond(%v, %q): got %v, %v, want %v", c.s, name, got, err, c.want)
			}
			if got, err := From(c.s, name); len(got) != 0 || told(err) != c.want {
				t.Errorf("From(%v, %q): got %v, %v, want %v", c.s, name, got, err, c.want)
			}
		}
	}
}

// TestNone: S1, a name that no bond has, and one that no kind has, where there are bonds or none.
func TestNone(t *testing.T) {
	for _, s := range goodSchemas() {
		for _, name := range append(noNames(), "zz", "no") {
			if got, err := Bond(s, name); got != (api.Bond{}) || told(err) != api.ErrNone {
				t.Errorf("Bond(%v, %q): got %v, %v, want ErrNone", s, name, got, err)
			}
			if got, err := From(s, name); len(got) != 0 || told(err) != api.ErrNone {
				t.Errorf("From(%v, %q): got %v, %v, want ErrNone", s, name, got, err)
			}
		}
	}
	// The name of a kind is none of a bond, nor the other way.
	s := schema(kinds(2), loose("p a b"))
	if got, err := Bond(s, "a"); got != (api.Bond{}) || told(err) != api.ErrNone {
		t.Errorf("Bond of a kind's name: got %v, %v", got, err)
	}
	if got, err := From(s, "p"); len(got) != 0 || told(err) != api.ErrNone {
		t.Errorf("From of a bond's name: got %v, %v", got, err)
	}
}

// TestBond: S1, each bond by its name.
func TestBond(t *testing.T) {
	for _, s := range goodSchemas() {
		for _, b := range s.Bonds {
			if got, err := Bond(s, b.Name); got != b || err != nil {
				t.Errorf("Bond(%v, %q): got %v, %v", s, b.Name, got, err)
			}
		}
	}
}

// TestFrom: S1, the bonds of a kind are its own and those of all it comes of, not those of what comes of it, in the order of the bonds.
func TestFrom(t *testing.T) {
	s := schema([]api.Kind{
		someKind("thing", ""),
		someKind("named", ""),
		someKind("person", "named thing"),
		someKind("place", "named"),
		someKind("boss", "person"),
		someKind("stone", ""),
	}, loose("rules boss person"), loose("lies thing place"), loose("knows person person"), loose("called named stone"), loose("at thing boss"))
	cases := []struct{ name, want string }{
		{"thing", "lies at"},
		{"named", "called"},
		{"person", "lies knows called at"},
		{"place", "called"},
		{"boss", "rules lies knows called at"},
		{"stone", ""},
	}
	for _, c := range cases {
		if got, err := From(s, c.name); !slices.Equal(got, strings.Fields(c.want)) || err != nil {
			t.Errorf("From %s: got %v, %v, want %v", c.name, got, err, c.want)
		}
	}
}

// TestFromIs: S1, as chapter 3's Is says it, of all ways in which four kinds may come of each other.
func TestFromIs(t *testing.T) {
	for bits := range 1 << 6 {
		s := schema(kinds(4))
		for i, left := 0, bits; i < 4; i++ {
			for j := range i {
				if left&1 == 1 {
					s.Kinds[i].Of = append(s.Kinds[i].Of, s.Kinds[j].Name)
				}
				left >>= 1
			}
		}
		for i, ends := range []string{"c a", "a d", "d b", "b c", "a a", "d d"} {
			s.Bonds = append(s.Bonds, loose("z"+string(rune('z'-i))+" "+ends))
		}
		for _, k := range s.Kinds {
			var want []string
			for _, b := range s.Bonds {
				if is, _ := kind.Is(s.Kinds, k.Name, b.From); is {
					want = append(want, b.Name)
				}
			}
			if got, err := From(s, k.Name); !slices.Equal(got, want) || err != nil {
				t.Errorf("From(%v, %q): got %v, %v, want %v", s, k.Name, got, err, want)
			}
		}
	}
}

// full makes a schema of lists with something behind their length, wrong where it would be read.
func full() (whole, cut api.Schema) {
	whole = schema([]api.Kind{
		someKind("a", "zz", field("x", api.Int), must(field("y", api.Text)), field("A", 9)),
		someKind("b", "a a", field("w", api.Bool), field("w", api.Int)),
		someKind("B", ""),
	}, loose("p b a"), bond("q a b", 1, 2), loose("q zz zz"))
	cut = schema(slices.Clone(whole.Kinds)[:2], whole.Bonds[:2]...)
	cut.Kinds[0].Of, cut.Kinds[0].Fields = whole.Kinds[0].Of[:0], whole.Kinds[0].Fields[:2]
	cut.Kinds[1].Of, cut.Kinds[1].Fields = whole.Kinds[1].Of[:1], whole.Kinds[1].Fields[:1]
	return whole, cut
}

// TestFresh: P2 and P4, what is handed in stays as it is, behind its length, too; no answer is kept, or shares memory.
func TestFresh(t *testing.T) {
	whole, s := full()
	for i := range 2 {
		if name, err := Check(s); name != "" || err != nil {
			t.Errorf("Check(%v): got %q, %v", s, name, err)
		}
		want := "kind a x:int y:text!\nkind b of a w:bool\nbond p b a 0 any\nbond q a b 1 2\n"
		if got, err := Print(s); got != want || err != nil {
			t.Errorf("Print(%v): got %q, %v", s, got, err)
		}
		if got, err := Bond(s, "q"); got != bond("q a b", 1, 2) || err != nil {
			t.Errorf("Bond(%v): got %v, %v", s, got, err)
		}
		got, err := From(s, "b")
		if !slices.Equal(got, []string{"p", "q"}) || err != nil {
			t.Errorf("From(%v), call %d: got %v, %v", s, i, got, err)
		}
		for i := range got[:cap(got)] {
			got[:cap(got)][i] = "new"
		}
	}
	if again, cut := full(); !reflect.DeepEqual(whole, again) || !reflect.DeepEqual(s, cut) || s.Kinds[:3][2].Name != "B" {
		t.Errorf("what is handed in is written into: %v", whole)
	}
}

// TestParseFresh: P2, no two lists that Parse answers share memory, nor those of two calls.
func TestParseFresh(t *testing.T) {
	const text = "kind a x:int y:int z:text\nkind b of a x:int\nkind c of a,b\nkind d of a,b,c u:bool v:bool\nbond p a b 0 any\nbond q b c 1 2\n"
	fill := func(s api.Schema, word string) {
		for _, k := range s.Kinds[:cap(s.Kinds)] {
			for i := range k.Of[:cap(k.Of)] {
				k.Of[:cap(k.Of)][i] = word
			}
			for i := range k.Fields[:cap(k.Fields)] {
				k.Fields[:cap(k.Fields)][i].Name = word
			}
			word += strconv.Itoa(len(word))
		}
	}
	wrong := func(s api.Schema, word string) bool {
		for _, k := range s.Kinds {
			other := func(name string) bool { return name != word }
			if slices.ContainsFunc(k.Of, other) || slices.ContainsFunc(k.Fields, func(f api.Field) bool { return other(f.Name) }) {
				return true
			}
			word += strconv.Itoa(len(word))
		}
		return false
	}
	a, _, err := Parse(text)
	b, _, again := Parse(text)
	if err != nil || again != nil {
		t.Fatalf("Parse: %v, %v", err, again)
	}
	fill(a, "one")
	fill(b, "other")
	if wrong(a, "one") || wrong(b, "other") {
		t.Errorf("answers share memory: %v, %v", a, b)
	}
	if c, _, err := Parse(text); err != nil || wrong(a, "one") || c.Kinds[1].Of[0] != "a" || c.Kinds[0].Fields[2].Name != "z" {
		t.Errorf("answers are kept: %v, %v", c, err)
	}
}

// TestCopy: P2 and P4, a copy is the same, right or not, and shares no memory; what stands behind a length is neither read nor written.
func TestCopy(t *testing.T) {
	wipe := func(s api.Schema) {
		for _, k := range s.Kinds {
			for i := range k.Of[:cap(k.Of)] {
				k.Of[:cap(k.Of)][i] = "new"
			}
			for i := range k.Fields[:cap(k.Fields)] {
				k.Fields[:cap(k.Fields)][i] = field("new", 9)
			}
		}
		for i := range s.Kinds[:cap(s.Kinds)] {
			s.Kinds[:cap(s.Kinds)][i] = someKind("new", "")
		}
		for i := range s.Bonds[:cap(s.Bonds)] {
			s.Bonds[:cap(s.Bonds)][i] = loose("new a a")
		}
	}
	whole, s := full()
	first, second := Copy(s), Copy(s)
	wipe(first)
	if again, cut := full(); !reflect.DeepEqual(whole, again) || !reflect.DeepEqual(s, cut) || s.Kinds[:3][2].Name != "B" {
		t.Errorf("what is handed in is written into: %v", whole)
	}
	wipe(s)
	want := "kind a x:int y:text!\nkind b of a w:bool\nbond p b a 0 any\nbond q a b 1 2\n"
	if got, err := Print(second); got != want || err != nil {
		t.Errorf("Copy: got %v, which is %q, %v", second, got, err)
	}
	for _, c := range []api.Schema{{}, schema([]api.Kind{someKind("A", "zz zz", field("", 0), field("", 7)), someKind("A", "")}, bond("P q r", 5, -9), bond("P q r", 5, -9))} {
		got := Copy(c)
		if len(got.Kinds) != len(c.Kinds) || !slices.Equal(got.Bonds, c.Bonds) {
			t.Errorf("Copy(%v): got %v", c, got)
		}
		for i, k := range c.Kinds {
			if got.Kinds[i].Name != k.Name || !slices.Equal(got.Kinds[i].Of, k.Of) || !slices.Equal(got.Kinds[i].Fields, k.Fields) {
				t.Errorf("Copy(%v): got %v", c, got)
			}
		}
	}
}
