package change

import (
	"reflect"
	"slices"
	"strings"
	"testing"

	"kinshape/api"
)

// reach has all of a list's memory.
func reach[T any](l []T) []T { return l[:cap(l)] }

// fill writes into all of a list's memory.
func fill[T any](l []T, with T) {
	for i := range reach(l) {
		reach(l)[i] = with
	}
}

// cutKind has lists with something behind their length that is wrong where it is read.
func cutKind(name, of string, l ...api.Field) api.Kind {
	k := breed(name, of+" zz A", append(l, field("a", 9), field("A", 9))...)
	k.Of, k.Fields = k.Of[:len(k.Of)-2], k.Fields[:len(k.Fields)-2]
	return k
}

// cut has a schema and changes of such lists.
func cut() (api.Schema, []api.Change) {
	s := api.Schema{
		Kinds: []api.Kind{cutKind("a", "", field("k", api.Int), must(field("m", api.Text))), cutKind("b", "a", field("f", api.Int)), cutKind("c", ""), cutKind("d", "c b"), {Name: "A", Of: []string{"zz"}}},
		Bonds: []api.Bond{bond("p a b", 0, 1), bond("q b b", 1, 2), bond("P zz zz", 9, 3)},
	}
	s.Kinds, s.Bonds = s.Kinds[:4], s.Bonds[:2]
	l := changes(addKind(cutKind("e", "b c", field("n", api.Int), field("o", api.Int))), dropKindOp("d"), addWith("a", field("l", api.Int), number(7)), dropFieldOp("b", "f"), addBond(bond("r c a", 0, 5)), dropBondOp("p"), rename("a", "m", "b"), setTo("q", 0, -1), api.Change{What: 99}, api.Change{})
	return s, l[:8]
}

// whole has all of the memory of a schema and of changes.
func whole(s api.Schema, l []api.Change) []any {
	memory := []any{slices.Clone(reach(s.Kinds)), slices.Clone(reach(s.Bonds)), slices.Clone(reach(l))}
	all := slices.Clone(s.Kinds)
	for _, c := range l {
		all = append(all, c.Kind)
	}
	for _, k := range all {
		memory = append(memory, slices.Clone(reach(k.Of)), slices.Clone(reach(k.Fields)))
	}
	return memory
}

func wipeKind(k api.Kind) {
	fill(k.Of, "wiped")
	fill(k.Fields, field("wiped", 9))
}

// wipe writes into all of the memory of a schema, one kind after the other; each is to be as it was until then.
func wipe(t *testing.T, name string, s api.Schema) {
	t.Helper()
	var kept []api.Kind
	for _, k := range s.Kinds {
		kept = append(kept, api.Kind{Name: k.Name, Of: slices.Clone(k.Of), Fields: slices.Clone(k.Fields)})
	}
	for i, k := range s.Kinds {
		if !slices.Equal(k.Of, kept[i].Of) || !slices.Equal(k.Fields, kept[i].Fields) {
			t.Errorf("%s: the kind %s shares memory with one ahead", name, k.Name)
		}
		wipeKind(k)
	}
	fill(s.Kinds, breed("wiped", ""))
	fill(s.Bonds, bond("wiped wiped wiped", 9, 9))
}

func wipeChanges(l []api.Change) {
	for _, c := range l {
		wipeKind(c.Kind)
	}
	fill(l, api.Change{What: 98})
}

// answer is a call of which a schema comes.
type answer struct {
	name string
	call func(s api.Schema, l []api.Change) (api.Schema, error)
	want string
}

func answers() []answer {
	do := func(at int) func(s api.Schema, l []api.Change) (api.Schema, error) {
		return func(s api.Schema, l []api.Change) (api.Schema, error) { return Do(s, l[at]) }
	}
	all := func(n int) func(s api.Schema, l []api.Change) (api.Schema, error) {
		return func(s api.Schema, l []api.Change) (api.Schema, error) {
			done, _, err := All(s, l[:n])
			return done, err
		}
	}
	const bonds = "bond p a b 0 1; bond q b b 1 2"
	return []answer{
		{"AddKind", do(0), "kind a k:int m:text!; kind b of a f:int; kind c; kind d of c,b; kind e of b,c n:int o:int; " + bonds},
		{"DropKind", do(1), "kind a k:int m:text!; kind b of a f:int; kind c; " + bonds},
		{"DropKind ahead", func(s api.Schema, l []api.Change) (api.Schema, error) {
			s.Kinds[3].Of = s.Kinds[3].Of[1:]
			defer func() { s.Kinds[3].Of = []string{"c", "b", "zz", "A"}[:2] }()
			return Do(s, dropKindOp("c"))
		}, "kind a k:int m:text!; kind b of a f:int; kind d of b; " + bonds},
		{"AddField", do(2), "kind a k:int l:int m:text!; kind b of a f:int; kind c; kind d of c,b; " + bonds},
		{"AddField ahead", func(s api.Schema, l []api.Change) (api.Schema, error) {
			return Do(s, addFieldOp("a", field("a", api.Int)))
		}, "kind a a:int k:int m:text!; kind b of a f:int; kind c; kind d of c,b; " + bonds},
		{"AddField at the end", func(s api.Schema, l []api.Change) (api.Schema, error) {
			return Do(s, addFieldOp("b", field("z", api.Int)))
		}, "kind a k:int m:text!; kind b of a f:int z:int; kind c; kind d of c,b; " + bonds},
		{"AddField of none", func(s api.Schema, l []api.Change) (api.Schema, error) {
			return Do(s, addFieldOp("c", field("z", api.Int)))
		}, "kind a k:int m:text!; kind b of a f:int; kind c z:int; kind d of c,b; " + bonds},
		{"DropField", do(3), "kind a k:int m:text!; kind b of a; kind c; kind d of c,b; " + bonds},
		{"DropField ahead", func(s api.Schema, l []api.Change) (api.Schema, error) { return Do(s, dropFieldOp("a", "k")) },
			"kind a m:text!; kind b of a f:int; kind c; kind d of c,b; " + bonds},
		{"AddBond", do(4), "kind a k:int m:text!; kind b of a f:int; kind c; kind d of c,b; " + bonds + "; bond r c a 0 5"},
		{"DropBond", do(5), "kind a k:int m:text!; kind b of a f:int; kind c; kind d of c,b; bond q b b 1 2"},
		{"Rename", do(6), "kind a b:text! k:int; kind b of a f:int; kind c; kind d of c,b; " + bonds},
		{"Range", do(7), "kind a k:int m:text!; kind b of a f:int; kind c; kind d of c,b; bond p a b 0 1; bond q b b 0 any"},
		{"All of none", all(0), "kind a k:int m:text!; kind b of a f:int; kind c; kind d of c,b; " + bonds},
		{"All of two", all(2), "kind a k:int m:text!; kind b of a f:int; kind c; kind e of b,c n:int o:int; " + bonds},
		{"All", all(8), "kind a b:text! k:int l:int; kind b of a; kind c; kind e of b,c n:int o:int; bond q b b 0 any; bond r c a 0 5"},
	}
}

// TestFresh: P2 and P4 of DOC.md, what is handed in stays as it is, behind its length, too; what is answered may be written into, and what was handed in then, without any of it being changed.
func TestFresh(t *testing.T) {
	for _, a := range answers() {
		s, l := cut()
		for range 3 {
			got, err := a.call(s, l)
			if !same(got, plan(a.want)) || err != nil {
				t.Errorf("%s: got %v, %v, want %v", a.name, got, err, plan(a.want))
			}
			wipe(t, a.name, got)
		}
		x, y := cut()
		if !reflect.DeepEqual(whole(s, l), whole(x, y)) {
			t.Errorf("%s: what is handed in is written into: %v", a.name, whole(s, l))
		}
		got, _ := a.call(s, l)
		wipe(t, a.name, s)
		wipeChanges(l)
		if !same(got, plan(a.want)) {
			t.Errorf("%s: its answer has memory that was handed in: %v", a.name, got)
		}
	}
}

// TestFreshKinds: P2 and P4 of DOC.md, the same of Kinds.
func TestFreshKinds(t *testing.T) {
	want := []string{"", "", "a b d", "b d", "", "", "a b d", ""}
	s, l := cut()
	for i, c := range l {
		for range 3 {
			testKinds(t, s, c, want[i])
			got, _ := Kinds(s, c)
			fill(got, "wiped")
		}
	}
	x, y := cut()
	if !reflect.DeepEqual(whole(s, l), whole(x, y)) {
		t.Errorf("what is handed in is written into: %v", whole(s, l))
	}
	got, _ := Kinds(s, l[2])
	wipe(t, "Kinds", s)
	wipeChanges(l)
	if !slices.Equal(got, strings.Fields(want[2])) {
		t.Errorf("Kinds: its answer has memory that was handed in: %v", got)
	}
}

// TestFreshWrong: P2 of DOC.md, what is handed in stays as it is with errors, too.
func TestFreshWrong(t *testing.T) {
	s, l := cut()
	x, y := cut()
	for _, w := range []struct {
		c    api.Change
		want api.Errno
	}{
		{api.Change{}, api.ErrRange},
		{addKind(cutKind("a", "b")), api.ErrClash},
		{dropKindOp("c"), api.ErrState},
		{addFieldOp("a", field("f", api.Text)), api.ErrClash},
		{addFieldOp("b", field("A", api.Int)), api.ErrSyntax},
		{dropFieldOp("a", "f"), api.ErrNone},
		{addBond(bond("q a a", 0, 1)), api.ErrClash},
		{dropBondOp("zz"), api.ErrNone},
		{rename("a", "m", "f"), api.ErrClash},
		{setTo("q", 2, 1), api.ErrRange},
	} {
		testNoDo(t, s, w.c, w.want)
		testNoAll(t, s, changes(l[0], l[4], l[7], w.c, api.Change{}), 3, w.want)
		if !reflect.DeepEqual(whole(s, l), whole(x, y)) {
			t.Fatalf("%v: what is handed in is written into: %v", w.c, whole(s, l))
		}
	}
}

// TestFreshShared: P2 of DOC.md, lists that share memory where they are handed in do not where they come out.
func TestFreshShared(t *testing.T) {
	names := []string{"a", "b", "zz"}
	own := []api.Field{field("k", api.Int), field("l", api.Int), field("z", 9)}
	s := api.Schema{Kinds: []api.Kind{breed("a", ""), breed("b", ""), {Name: "c", Of: names[:2], Fields: own[:1]}, {Name: "d", Of: names[:1], Fields: own[:2]}}}
	k := api.Kind{Name: "e", Of: names[:2], Fields: own[:2]}
	l := changes(addKind(k), addFieldOp("c", field("m", api.Int)), dropFieldOp("d", "k"), addKind(api.Kind{Name: "f", Of: names[1:2], Fields: own[1:2]}), rename("e", "k", "n"))
	want := plan("kind a; kind b; kind c of a,b k:int m:int; kind d of a l:int; kind e of a,b l:int n:int; kind f of b l:int")
	got, at, err := All(s, l)
	if !same(got, want) || at != 0 || err != nil {
		t.Errorf("All: got %v, %d, %v, want %v", got, at, err, want)
	}
	wipe(t, "All", got)
	// The same change twice, with what it adds taken away between: it is done on no memory of the change.
	twice := changes(addKind(k), dropFieldOp("e", "k"), dropKindOp("e"), addKind(k))
	testAll(t, s, twice, plan("kind a; kind b; kind c of a,b k:int; kind d of a k:int l:int; kind e of a,b k:int l:int"))
	if !slices.Equal(names, []string{"a", "b", "zz"}) || !slices.Equal(own, []api.Field{field("k", api.Int), field("l", api.Int), field("z", 9)}) {
		t.Errorf("what is handed in is written into: %v, %v", names, own)
	}
}

// TestSameAgain: P2 of DOC.md, what a call answers hangs on its arguments alone.
func TestSameAgain(t *testing.T) {
	s, l := someSchema(), someChanges()
	first, _, _ := All(s, l)
	for range 20 {
		testNoAll(t, s, append(changes(l...), api.Change{}), 8, api.ErrRange)
		testNoDo(t, s, dropKindOp("a"), api.ErrState)
		testAll(t, s, l, first)
	}
}
