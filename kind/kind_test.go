package kind

import (
	"maps"
	"math"
	"slices"
	"strings"
	"testing"

	"kinshape/api"
	"kinshape/plain"
)

func told(err error) api.Errno { return plain.Told(err) }

// field makes a field: its name, behind a colon i, b or t for its type, and ! for Must, * for Key, if it has them.
func field(s string) api.Field {
	name, rest, _ := strings.Cut(s, ":")
	return api.Field{
		Name: name,
		Type: strings.IndexByte("?ibt", rest[0]),
		Must: strings.Contains(rest, "!"),
		Key:  strings.Contains(rest, "*"),
	}
}

func fields(s string) (l []api.Field) {
	for _, w := range strings.Fields(s) {
		l = append(l, field(w))
	}
	return l
}

// kind makes a kind: what it comes of and its fields, blanks between.
func kind(name, of, own string) api.Kind {
	return api.Kind{Name: name, Of: strings.Fields(of), Fields: fields(own)}
}

func list(l ...api.Kind) []api.Kind { return l }

// letters has n names: a, b, c and so on, each behind a beginning.
func letters(n int, begin string) (l []string) {
	for i := range n {
		l = append(l, begin+string(rune('a'+i)))
	}
	return l
}

// lone makes n kinds, a, b, c and so on, that come of nothing.
func lone(n int) (l []api.Kind) {
	for _, name := range letters(n, "") {
		l = append(l, api.Kind{Name: name})
	}
	return l
}

// ints makes n fields, each name behind a beginning, as text.
func ints(n int, begin string) string {
	return strings.Join(letters(n, begin), ":i ") + ":i"
}

// typed makes a kind that has one field, of any type.
func typed(name string, t int) api.Kind {
	return api.Kind{Name: name, Fields: []api.Field{{Name: "x", Type: t}}}
}

type badList struct {
	l    []api.Kind
	name string
	want api.Errno
}

// badKinds has faults of a kind itself, each of the last kind of its list.
func badKinds() []badList {
	a := kind("a", "", "x:i")
	var bad []badList
	for _, name := range []string{"", "A", "a1", "a b", "a,", "ä", "a\x00", "\xff", "abcdefghi", strings.Repeat("a", 1000)} {
		// ErrSyntax, whatever else is wrong.
		bad = append(bad,
			badList{list(kind(name, "", "")), name, api.ErrSyntax},
			badList{list(a, kind(name, "", "")), name, api.ErrSyntax},
			badList{list(a, kind(name, "zz a b c d", ints(9, "")+" A:?*")), name, api.ErrSyntax})
	}
	return append(bad,
		// ErrClash, ahead of all that is in it.
		badList{list(a, a), "a", api.ErrClash},
		badList{list(a, kind("b", "", ""), kind("a", "", "")), "a", api.ErrClash},
		badList{append(lone(11), kind("k", "", "")), "k", api.ErrClash},
		badList{list(a, kind("a", "a", "")), "a", api.ErrClash},
		badList{list(a, kind("a", "zz", "")), "a", api.ErrClash},
		badList{list(a, kind("a", "b c d e f", "")), "a", api.ErrClash},
		badList{list(a, kind("a", "", ints(9, ""))), "a", api.ErrClash},
		badList{list(a, kind("a", "", "A:?*")), "a", api.ErrClash},
		// ErrFull, ahead of all that is in Of and Fields.
		badList{append(lone(5), kind("f", "a b c d e", "")), "f", api.ErrFull},
		badList{list(a, kind("b", "a a a a a", "")), "b", api.ErrFull},
		badList{list(kind("b", "v w x y z", "A:?*")), "b", api.ErrFull},
		badList{list(kind("a", "", ints(9, ""))), "a", api.ErrFull},
		badList{list(kind("a", "", ints(20, ""))), "a", api.ErrFull},
		badList{list(a, kind("b", "zz", ints(9, ""))), "b", api.ErrFull},
		badList{list(a, kind("b", "a a", ints(9, ""))), "b", api.ErrFull},
		badList{list(kind("a", "", strings.Repeat("A:? ", 9))), "a", api.ErrFull},
		badList{list(kind("a", "", strings.Repeat("x:i ", 9))), "a", api.ErrFull},
		badList{list(api.Kind{Name: "a", Of: make([]string, 1000)}), "a", api.ErrFull},
		badList{list(api.Kind{Name: "a", Fields: make([]api.Field, 1000)}), "a", api.ErrFull},
	)
}

// badOfs has faults of what a kind comes of, each of the last kind of its list.
func badOfs() []badList {
	a, b := kind("a", "", "x:i"), kind("b", "", "")
	return []badList{
		// ErrNone: it is none of those ahead.
		{list(kind("b", "a", "")), "b", api.ErrNone},
		{list(kind("b", "b", "")), "b", api.ErrNone},
		{list(a, kind("b", "b", "")), "b", api.ErrNone},
		{list(a, kind("b", "a b", "")), "b", api.ErrNone},
		{list(a, kind("b", "zz a", "")), "b", api.ErrNone},
		{list(a, b, kind("c", "a b zz", "")), "c", api.ErrNone},
		{list(a, kind("b", "x", "")), "b", api.ErrNone},
		{list(a, kind("b", "A", "")), "b", api.ErrNone},
		{list(a, kind("b", "aa", "")), "b", api.ErrNone},
		{list(a, api.Kind{Name: "b", Of: []string{""}}), "b", api.ErrNone},
		{list(a, api.Kind{Name: "b", Of: []string{"a", "a "}}), "b", api.ErrNone},
		{append(lone(4), kind("z", "a b c zz", "")), "z", api.ErrNone},
		// ErrClash: it is there twice.
		{list(a, kind("b", "a a", "")), "b", api.ErrClash},
		{list(a, b, kind("c", "a b a", "")), "c", api.ErrClash},
		{list(a, b, kind("c", "a b b a", "")), "c", api.ErrClash},
		{list(a, kind("b", "a a a a", "")), "b", api.ErrClash},
		{append(lone(3), kind("z", "c a b c", "")), "z", api.ErrClash},
		// One by one: the first that has a fault; of it ErrNone, then ErrClash.
		{list(a, kind("b", "zz zz", "")), "b", api.ErrNone},
		{list(a, kind("b", "zz a a", "")), "b", api.ErrNone},
		{list(a, kind("b", "a a zz", "")), "b", api.ErrClash},
		{list(a, kind("b", "a zz a", "")), "b", api.ErrNone},
		// Ahead of all that is in Fields.
		{list(a, kind("b", "zz", "A:?*")), "b", api.ErrNone},
		{list(a, kind("b", "zz", "x:t")), "b", api.ErrNone},
		{list(a, kind("b", "a a", "A:?*")), "b", api.ErrClash},
		{list(a, kind("b", "a a", "x:?")), "b", api.ErrClash},
		{list(a, kind("b", "a a", "x:i*")), "b", api.ErrClash},
		{list(a, kind("b", "a a", ints(8, ""))), "b", api.ErrClash},
	}
}

// badFields has faults of a kind's own fields, each of the last kind of its list.
func badFields() []badList {
	a := kind("a", "", "x:i")
	bad := []badList{
		// Name.
		{list(kind("a", "", "A:i")), "a", api.ErrSyntax},
		{list(kind("a", "", "x1:i")), "a", api.ErrSyntax},
		{list(kind("a", "", "abcdefghi:i")), "a", api.ErrSyntax},
		{list(kind("a", "", ":i")), "a", api.ErrSyntax},
		{list(kind("a", "", "ä:i")), "a", api.ErrSyntax},
		{list(kind("a", "", ints(7, "")+" H:i")), "a", api.ErrSyntax},
		{list(a, kind("b", "a", "x:i Y:i")), "b", api.ErrSyntax},
		{list(kind("a", "", "A:?*")), "a", api.ErrSyntax},
		{list(kind("a", "", "A:i*")), "a", api.ErrSyntax},
		{list(kind("a", "", "x:i A:i")), "a", api.ErrSyntax},
		// ErrShape: Key, and not Must.
		{list(kind("a", "", "x:i*")), "a", api.ErrShape},
		{list(kind("a", "", "x:b*")), "a", api.ErrShape},
		{list(kind("a", "", "x:t*")), "a", api.ErrShape},
		{list(kind("a", "", "x:i!* y:t*")), "a", api.ErrShape},
		{list(a, kind("b", "a", "x:i*")), "b", api.ErrShape},
		{list(kind("a", "", "y:i x:i*")), "a", api.ErrShape},
		// ErrClash: its Name does not rise.
		{list(kind("a", "", "x:i x:i")), "a", api.ErrClash},
		{list(kind("a", "", "x:i x:t")), "a", api.ErrClash},
		{list(kind("a", "", "y:i x:i")), "a", api.ErrClash},
		{list(kind("a", "", "x:i z:i y:i")), "a", api.ErrClash},
		{list(kind("a", "", "x:i y:i x:i")), "a", api.ErrClash},
		{list(kind("a", "", "xy:i x:i")), "a", api.ErrClash},
		{list(kind("a", "", ints(7, "")+" g:i")), "a", api.ErrClash},
		// Field by Field: the first that has a fault.
		{list(kind("a", "", "x:? A:i")), "a", api.ErrType},
		{list(kind("a", "", "A:i x:?")), "a", api.ErrSyntax},
		{list(kind("a", "", "x:i* y:?")), "a", api.ErrShape},
		{list(kind("a", "", "x:? y:i*")), "a", api.ErrType},
		{list(kind("a", "", "y:i x:i A:i")), "a", api.ErrClash},
		{list(kind("a", "", "y:i x:i z:?")), "a", api.ErrClash},
		{list(kind("a", "", "y:i x:i z:i*")), "a", api.ErrClash},
		{list(kind("a", "", "y:i z:? x:i")), "a", api.ErrType},
		{list(kind("a", "", "y:i z:i* x:i")), "a", api.ErrShape},
		{list(kind("a", "", "y:i x:?")), "a", api.ErrType},
		{list(kind("a", "", "y:i x:?*")), "a", api.ErrType},
		// Ahead of what is wrong with all of its kin.
		{list(kind("a", "", ints(8, "")), kind("b", "a", "a:t z:?")), "b", api.ErrType},
		{list(kind("a", "", ints(8, "")), kind("b", "a", "z:i Z:i")), "b", api.ErrSyntax},
		{list(kind("a", "", ints(8, "")), kind("b", "a", "y:i z:b*")), "b", api.ErrShape},
	}
	// ErrType: Type is none.
	for _, t := range []int{0, 4, -1, 5, -3, 257, 1 << 32, math.MaxInt, math.MinInt} {
		bad = append(bad, badList{list(typed("a", t)), "a", api.ErrType}, badList{list(a, typed("b", t)), "b", api.ErrType})
		key := typed("c", t)
		key.Fields[0].Key = true
		bad = append(bad, badList{list(a, key), "c", api.ErrType})
	}
	return bad
}

// badKin has faults of all of a kind's kin, each of the last kind of its list.
func badKin() []badList {
	a, eight, other := kind("a", "", "x:i"), kind("a", "", ints(8, "")), kind("b", "", ints(8, ""))
	four := func(name, of, begin string) api.Kind { return kind(name, of, ints(4, begin)) }
	return []badList{
		// ErrClash: two of one name that are not the same: its own one and that of one it comes of, near or far.
		{list(a, kind("b", "a", "x:t")), "b", api.ErrClash},
		{list(a, kind("b", "a", "x:b")), "b", api.ErrClash},
		{list(a, kind("b", "a", "x:i!")), "b", api.ErrClash},
		{list(kind("a", "", "x:i!"), kind("b", "a", "x:i")), "b", api.ErrClash},
		{list(kind("a", "", "x:i!"), kind("b", "a", "x:i!*")), "b", api.ErrClash},
		{list(kind("a", "", "x:i!*"), kind("b", "a", "x:i!")), "b", api.ErrClash},
		{list(a, kind("b", "a", "w:i x:t y:i")), "b", api.ErrClash},
		{list(a, kind("b", "a", ""), kind("c", "b", "x:t")), "c", api.ErrClash},
		{list(a, kind("b", "a", "y:i"), kind("c", "b", ""), kind("d", "c", "x:t")), "d", api.ErrClash},
		// Of two that it comes of.
		{list(a, kind("b", "", "x:t"), kind("c", "a b", "")), "c", api.ErrClash},
		{list(a, kind("b", "", "x:t"), kind("c", "b a", "")), "c", api.ErrClash},
		{list(a, kind("b", "", "x:t"), kind("c", "a b", "x:i")), "c", api.ErrClash},
		{list(a, kind("b", "", "x:t"), kind("c", "a b", "x:t")), "c", api.ErrClash},
		{list(a, kind("b", "a", ""), kind("c", "", "x:t"), kind("d", "c", ""), kind("e", "b d", "")), "e", api.ErrClash},
		{list(a, kind("b", "", "x:b"), kind("c", "", ""), kind("d", "", ""), kind("e", "a c d b", "")), "e", api.ErrClash},
		// ErrFull: more than MaxProps in all of them.
		{list(eight, kind("b", "a", "z:i")), "b", api.ErrFull},
		{list(eight, kind("b", "a", "a:i z:i")), "b", api.ErrFull},
		{list(eight, kind("b", "a", ""), kind("c", "b", "z:i")), "c", api.ErrFull},
		{list(kind("a", "", "z:i"), kind("b", "a", ints(8, ""))), "b", api.ErrFull},
		{list(four("a", "", "x"), four("b", "", "y"), kind("c", "a b", "z:i")), "c", api.ErrFull},
		{list(four("a", "", "x"), four("b", "", "y"), kind("c", "", "z:i"), kind("d", "a b c", "")), "d", api.ErrFull},
		{list(four("a", "", "x"), four("b", "a", "y"), kind("c", "", "z:i"), kind("d", "c b", "")), "d", api.ErrFull},
		{list(eight, kind("b", "", ints(8, "z")), kind("c", "a b", ints(8, "y"))), "c", api.ErrFull},
		// ErrClash ahead of ErrFull, wherever the two are.
		{list(eight, kind("b", "a", "h:t z:i")), "b", api.ErrClash},
		{list(eight, kind("b", "a", "a:t z:i")), "b", api.ErrClash},
		{list(kind("a", "", "z:i"), other, kind("c", "", "z:t"), kind("d", "a b c", "")), "d", api.ErrClash},
		{list(eight, kind("b", "", ints(8, "z")), kind("c", "a b", "y:i zh:t")), "c", api.ErrClash},
	}
}

// badLists has lists that are none, the name that Check tells of each, and the error.
func badLists() []badList {
	bad := []badList{
		// ErrFull, and no name: more than MaxTypes, whatever else is wrong.
		{lone(13), "", api.ErrFull},
		{lone(20), "", api.ErrFull},
		{make([]api.Kind, 13), "", api.ErrFull},
		{make([]api.Kind, 1000), "", api.ErrFull},
		{append(list(kind("A", "", "")), lone(12)...), "", api.ErrFull},
		{append(lone(12), kind("a", "zz", "x:?")), "", api.ErrFull},
	}
	return slices.Concat(bad, badKinds(), badOfs(), badFields(), badKin())
}

// goodLists has lists that are right.
func goodLists() [][]api.Kind {
	x, eight := kind("a", "", "x:i"), kind("a", "", ints(8, ""))
	return [][]api.Kind{
		nil,
		{},
		lone(1),
		lone(12),
		list(kind("abcdefgh", "", "abcdefgh:t!*")),
		list(kind("a", "", "a:i"), kind("x", "a", "x:i")),
		// Neither the names of kinds nor those in Of need to rise.
		list(kind("b", "", ""), kind("a", "b", "")),
		append(lone(4), kind("e", "a b c d", "")),
		append(lone(4), kind("e", "d b a c", "")),
		// Fields of all sorts, as many as may be, of its own and of others.
		list(eight),
		list(kind("a", "", "k:i l:i! m:i!* n:b o:b! p:b!* q:t r:t!")),
		list(kind("a", "", "x:i xa:i xb:i y:i")),
		list(kind("a", "", ints(7, "")), kind("b", "a", "z:i")),
		list(kind("a", "", ints(4, "x")), kind("b", "", ints(3, "y")), kind("c", "a b", "z:i")),
		// The same field in several is one.
		list(kind("a", "", "x:i!*"), kind("b", "a", "x:i!*")),
		list(eight, kind("b", "a", ints(8, ""))),
		list(eight, kind("b", "", ints(8, "")), kind("c", "a b", ints(8, ""))),
		list(eight, kind("b", "a", ""), kind("c", "a", ""), kind("d", "b c", "")),
		// Unlike ones, and too many, where none is kin of both.
		list(x, kind("b", "", "x:t")),
		list(x, kind("b", "", "x:t"), kind("c", "a", "x:i"), kind("d", "b", "x:t")),
		list(kind("a", "", ""), kind("b", "a", "x:i"), kind("c", "a", "x:t")),
		list(eight, kind("b", "", ints(8, "z")), kind("c", "a", ""), kind("d", "b", "")),
	}
}

// TestCheck: K1, each error, which one is told of several, and the name.
func TestCheck(t *testing.T) {
	for _, l := range goodLists() {
		if name, err := Check(l); name != "" || err != nil {
			t.Errorf("Check(%v): got %q, %v", l, name, err)
		}
	}
	for _, c := range badLists() {
		if name, err := Check(c.l); name != c.name || told(err) != c.want {
			t.Errorf("Check(%v): got %q, %v, want %q, %v", c.l, name, err, c.name, c.want)
		}
	}
}

// TestCheckKindByKind: K1, the first kind that is wrong is told, whatever is wrong with those behind it, and nothing of those ahead.
func TestCheckKindByKind(t *testing.T) {
	worse := []api.Kind{
		kind("A", "", ""),
		kind("a", "", ""),
		kind("zz", "v w x y z", ""),
		kind("zz", "none", ""),
		kind("zz", "", "A:i"),
		kind("zz", "", "x:?"),
		kind("zz", "", "x:i*"),
		kind("zz", "", "y:i x:i"),
	}
	for _, c := range slices.Concat(badKinds(), badOfs(), badFields(), badKin()) {
		ahead := c.l[:len(c.l)-1]
		if name, err := Check(ahead); name != "" || err != nil {
			t.Errorf("Check(%v): got %q, %v", ahead, name, err)
		}
		for _, k := range worse {
			l := slices.Concat(c.l, list(k))
			if len(l) > api.MaxTypes {
				continue
			}
			if name, err := Check(l); name != c.name || told(err) != c.want {
				t.Errorf("Check(%v): got %q, %v, want %q, %v", l, name, err, c.name, c.want)
			}
		}
	}
}

// TestCheckFirst: K2 and P3, each call tells Check's error ahead of ErrNone, and answers nothing else (P1).
func TestCheckFirst(t *testing.T) {
	for _, c := range badLists() {
		for _, name := range []string{"a", "b", c.name, "zz", "", "A"} {
			if got, err := Kin(c.l, name); len(got) != 0 || told(err) != c.want {
				t.Errorf("Kin(%v, %q): got %v, %v, want %v", c.l, name, got, err, c.want)
			}
			if got, err := Fields(c.l, name); len(got) != 0 || told(err) != c.want {
				t.Errorf("Fields(%v, %q): got %v, %v, want %v", c.l, name, got, err, c.want)
			}
			if got, err := Under(c.l, name); len(got) != 0 || told(err) != c.want {
				t.Errorf("Under(%v, %q): got %v, %v, want %v", c.l, name, got, err, c.want)
			}
			for _, other := range []string{"a", "zz", name} {
				if got, err := Is(c.l, name, other); got || told(err) != c.want {
					t.Errorf("Is(%v, %q, %q): got %v, %v, want %v", c.l, name, other, got, err, c.want)
				}
			}
		}
	}
}

// TestNone: K2, a name that no kind has.
func TestNone(t *testing.T) {
	for _, l := range goodLists() {
		for _, name := range []string{"zz", "", "A", "a ", "aa", "abcdefghi", "\xff", strings.Repeat("a", 1000)} {
			if got, err := Kin(l, name); len(got) != 0 || told(err) != api.ErrNone {
				t.Errorf("Kin(%v, %q): got %v, %v, want ErrNone", l, name, got, err)
			}
			if got, err := Fields(l, name); len(got) != 0 || told(err) != api.ErrNone {
				t.Errorf("Fields(%v, %q): got %v, %v, want ErrNone", l, name, got, err)
			}
			if got, err := Under(l, name); len(got) != 0 || told(err) != api.ErrNone {
				t.Errorf("Under(%v, %q): got %v, %v, want ErrNone", l, name, got, err)
			}
			others := []string{name, "no"}
			for _, k := range l {
				others = append(others, k.Name)
			}
			for _, other := range others {
				if got, err := Is(l, name, other); got || told(err) != api.ErrNone {
					t.Errorf("Is(%v, %q, %q): got %v, %v, want ErrNone", l, name, other, got, err)
				}
				if got, err := Is(l, other, name); got || told(err) != api.ErrNone {
					t.Errorf("Is(%v, %q, %q): got %v, %v, want ErrNone", l, other, name, got, err)
				}
			}
		}
	}
}

// TestPlain: K2, a list as one may have it.
func TestPlain(t *testing.T) {
	l := list(
		kind("thing", "", "id:i!*"),
		kind("named", "", "name:t!"),
		kind("person", "named thing", "age:i name:t!"),
		kind("place", "named", "flat:b"),
		kind("worker", "person", "wage:i"),
		kind("boss", "worker person", ""),
	)
	cases := []struct{ name, kin, fields, under string }{
		{"thing", "thing", "id:i!*", "thing person worker boss"},
		{"named", "named", "name:t!", "named person place worker boss"},
		{"person", "thing named person", "age:i id:i!* name:t!", "person worker boss"},
		{"place", "named place", "flat:b name:t!", "place"},
		{"worker", "thing named person worker", "age:i id:i!* name:t! wage:i", "worker boss"},
		{"boss", "thing named person worker boss", "age:i id:i!* name:t! wage:i", "boss"},
	}
	for _, c := range cases {
		if got, err := Kin(l, c.name); !slices.Equal(got, strings.Fields(c.kin)) || err != nil {
			t.Errorf("Kin of %s: got %v, %v, want %v", c.name, got, err, c.kin)
		}
		if got, err := Fields(l, c.name); !slices.Equal(got, fields(c.fields)) || err != nil {
			t.Errorf("Fields of %s: got %v, %v, want %v", c.name, got, err, c.fields)
		}
		if got, err := Under(l, c.name); !slices.Equal(got, strings.Fields(c.under)) || err != nil {
			t.Errorf("Under %s: got %v, %v, want %v", c.name, got, err, c.under)
		}
		for _, k := range l {
			want := slices.Contains(strings.Fields(c.kin), k.Name)
			if got, err := Is(l, c.name, k.Name); got != want || err != nil {
				t.Errorf("Is(%s, %s): got %v, %v, want %v", c.name, k.Name, got, err, want)
			}
		}
	}
}

// comesOf tells, by K2's words, whether the kind at i is the one at j, or comes of it, or of one that does.
func comesOf(l []api.Kind, i, j int) bool {
	return i == j || slices.ContainsFunc(l[i].Of, func(name string) bool {
		return comesOf(l, slices.IndexFunc(l, func(k api.Kind) bool { return k.Name == name }), j)
	})
}

// heirs makes the kinds e, d, c, b, a (so many of them), of which each comes of those ahead that the bits say, has a field x that all have, and one that it has alone, all of them in another order than the kinds.
func heirs(n, bits int) (l []api.Kind) {
	for i, name := range strings.Split("edcba", "")[:n] {
		k := kind(name, "", "x:i "+"zyxwv"[i:i+1]+"a:t")
		if i > 2 {
			slices.Reverse(k.Fields)
		}
		for j := range i {
			if bits&1 == 1 {
				k.Of = append(k.Of, l[j].Name)
			}
			bits >>= 1
		}
		if i%2 == 0 {
			slices.Reverse(k.Of)
		}
		l = append(l, k)
	}
	return l
}

// TestAllHeirs: K2, all ways in which up to five kinds may come of each other.
func TestAllHeirs(t *testing.T) {
	for n := range 6 {
		for bits := range 1 << (n * (n - 1) / 2) {
			l := heirs(n, bits)
			if name, err := Check(l); name != "" || err != nil {
				t.Fatalf("Check(%v): got %q, %v", l, name, err)
			}
			for i := range l {
				checkHeir(t, l, i)
			}
		}
	}
}

func checkHeir(t *testing.T, l []api.Kind, i int) {
	name := l[i].Name
	var kin, under []string
	all := map[string]api.Field{}
	for j, k := range l {
		is := comesOf(l, i, j)
		if got, err := Is(l, name, k.Name); got != is || err != nil {
			t.Errorf("Is(%v, %q, %q): got %v, %v, want %v", l, name, k.Name, got, err, is)
		}
		if is {
			kin = append(kin, k.Name)
			for _, f := range k.Fields {
				all[f.Name] = f
			}
		}
		if comesOf(l, j, i) {
			under = append(under, k.Name)
		}
	}
	if got, err := Kin(l, name); !slices.Equal(got, kin) || err != nil {
		t.Errorf("Kin(%v, %q): got %v, %v, want %v", l, name, got, err, kin)
	}
	if got, err := Under(l, name); !slices.Equal(got, under) || err != nil {
		t.Errorf("Under(%v, %q): got %v, %v, want %v", l, name, got, err, under)
	}
	var want []api.Field
	for _, n := range slices.Sorted(maps.Keys(all)) {
		want = append(want, all[n])
	}
	if got, err := Fields(l, name); !slices.Equal(got, want) || err != nil {
		t.Errorf("Fields(%v, %q): got %v, %v, want %v", l, name, got, err, want)
	}
}

// TestMany: K1 and K2, as many kinds as may be, each of which comes of as many as may be.
func TestMany(t *testing.T) {
	l := lone(12)
	for i := range l {
		for j := max(0, i-4); j < i; j++ {
			l[i].Of = append(l[i].Of, l[j].Name)
		}
		l[i].Fields = fields(ints(8, "f"))
	}
	for i := range l {
		checkHeir(t, l, i)
	}
}

// TestFresh: P2 and P4, what is handed in stays as it is, behind its length, too; no answer shares memory with it, or with another one.
func TestFresh(t *testing.T) {
	whole := func() []api.Kind {
		return list(kind("a", "", "x:i y:i z:i"), kind("b", "a a a", "w:t x:i y:i"), kind("c", "b a x", "v:b A:i"), kind("d", "", ""))
	}
	// cut takes one from the end of each list, which stays behind its length.
	cut := func(l []api.Kind) []api.Kind {
		l = l[:3]
		for i := range l {
			l[i].Of, l[i].Fields = l[i].Of[:min(i, 1+i/2)], l[i].Fields[:2-i/2]
		}
		return l
	}
	same := func(a, b []api.Kind) bool {
		return slices.EqualFunc(a, b, func(a, b api.Kind) bool {
			a.Of, b.Of = a.Of[:cap(a.Of)], b.Of[:cap(b.Of)]
			a.Fields, b.Fields = a.Fields[:cap(a.Fields)], b.Fields[:cap(b.Fields)]
			return a.Name == b.Name && slices.Equal(a.Of, b.Of) && slices.Equal(a.Fields, b.Fields)
		})
	}
	given := whole()
	l := cut(given)
	if name, err := Check(l); name != "" || err != nil {
		t.Fatalf("Check(%v): got %q, %v", l, name, err)
	}
	for _, name := range []string{"a", "b", "c"} {
		kin, _ := Kin(l, name)
		under, _ := Under(l, name)
		own, _ := Fields(l, name)
		keptKin, keptUnder, keptOwn := slices.Clone(kin), slices.Clone(under), slices.Clone(own)
		for i := range own[:cap(own)] {
			own[:cap(own)][i] = field("new:t")
		}
		for i := range kin[:cap(kin)] {
			kin[:cap(kin)][i] = "kin"
		}
		if !slices.Equal(under, keptUnder) {
			t.Errorf("%s: Kin and Under share memory", name)
		}
		for i := range under[:cap(under)] {
			under[:cap(under)][i] = "under"
		}
		kin, _ = Kin(l, name)
		under, _ = Under(l, name)
		own, _ = Fields(l, name)
		if !slices.Equal(kin, keptKin) || !slices.Equal(under, keptUnder) || !slices.Equal(own, keptOwn) {
			t.Errorf("%s: answers are kept: %v, %v, %v", name, kin, under, own)
		}
	}
	if want := whole(); !same(given[:3], cut(want)) || !same(given[3:], want[3:]) {
		t.Errorf("what is handed in is written into: %v", given)
	}
}
