package diff

import (
	"reflect"
	"slices"
	"testing"

	"kinshape/api"
)

// reach has all of a list's memory.
func reach[T any](l []T) []T { return l[:cap(l)] }

// fill writes into all of a list's memory.
func fill[T any](l []T, with T) {
	for i := range reach(l) {
		reach(l)[i] = with
	}
}

// cutKind is made of lists with something behind their length that is wrong where it is read.
func cutKind(name, of string) api.Kind {
	own := []api.Field{{Name: "f" + name, Type: api.Int, Must: true}, {Name: "m" + name, Type: api.Text}, {Name: "A"}}
	k := api.Kind{Name: name, Of: []string{of, "zz"}[:1], Fields: own[:2]}
	if of == "" {
		k.Of = k.Of[:0]
	}
	return k
}

// cutSchema has bonds of its own, and behind them one that is wrong.
func cutSchema(bonds ...api.Bond) api.Schema {
	kinds := []api.Kind{cutKind("c", ""), cutKind("a", ""), cutKind("b", "a"), {Name: "A"}}
	return api.Schema{Kinds: kinds[:3], Bonds: append(bonds, api.Bond{Name: "P"})[:len(bonds)]}
}

// cutPair has two that differ in their bonds alone: the second one has q just so, is as wide in p, and has one of its own.
func cutPair() (api.Schema, api.Schema) {
	return cutSchema(bond("p a b", 0, 1), bond("q b c", 1, 2)), cutSchema(bond("q b c", 1, 2), bond("p a b", 0, -1), bond("r a a", 0, 1))
}

// whole has all of the memory of schemas.
func whole(l ...api.Schema) (all []any) {
	for _, s := range l {
		all = append(all, slices.Clone(reach(s.Kinds)), slices.Clone(reach(s.Bonds)))
		for _, k := range s.Kinds {
			all = append(all, slices.Clone(reach(k.Of)), slices.Clone(reach(k.Fields)))
		}
	}
	return all
}

// wipe writes into all of the memory of a schema.
func wipe(s api.Schema) {
	for _, k := range s.Kinds {
		fill(k.Of, "wiped")
		fill(k.Fields, api.Field{Name: "wiped", Type: api.Bool})
	}
	fill(s.Kinds, api.Kind{Name: "wiped"})
	fill(s.Bonds, api.Bond{Name: "wiped"})
}

// TestFresh: P2 and P4 of DOC.md, both schemas stay as they are, behind their lists' length, too, with an error or without; and what lies there is not read.
func TestFresh(t *testing.T) {
	a, b := cutPair()
	for range 2 {
		testLoses(t, a, b, "p")
		testWider(t, a, b, true)
		testLoses(t, b, a, "p r")
		testWider(t, b, a, false)
		testLoses(t, a, a, "")
		testWider(t, b, b, true)
	}
	one, other := cutPair()
	if before := whole(one, other); !reflect.DeepEqual(whole(a, b), before) {
		t.Errorf("the schemas are written into: %v, before %v", whole(a, b), before)
	}
	b.Bonds[0].To = "zz"
	testBad(t, a, b, api.ErrNone)
	testBad(t, b, a, api.ErrNone)
	b.Bonds[0].To = "c"
	if before := whole(one, other); !reflect.DeepEqual(whole(a, b), before) {
		t.Errorf("with an error the schemas are written into: %v, before %v", whole(a, b), before)
	}
}

// TestFreshAnswer: P2 of DOC.md, the names may be written into, and so may what was handed in, without the other one being changed, or what comes of the next call.
func TestFreshAnswer(t *testing.T) {
	a, b := cutPair()
	first, err := Loses(a, api.Schema{})
	second, bad := Loses(a, api.Schema{})
	want := []string{"c", "a", "b", "p", "q"}
	if !slices.Equal(first, want) || !slices.Equal(second, want) || err != nil || bad != nil {
		t.Errorf("Loses: got %v, %v, %v, %v, want %v", first, err, second, bad, want)
	}
	fill(first, "wiped")
	one, other := cutPair()
	if before := whole(one, other); !slices.Equal(second, want) || !reflect.DeepEqual(whole(a, b), before) {
		t.Errorf("what is written into one answer is in another one, %v, or in what is handed in, %v", second, whole(a, b))
	}
	testLoses(t, a, b, "p")
	wipe(a)
	wipe(b)
	if !slices.Equal(second, want) {
		t.Errorf("what is written into the schemas is in an answer: %v", second)
	}
	testLoses(t, one, other, "p")
	testWider(t, one, other, true)
}

// TestSameAgain: P2 of DOC.md, what is answered hangs on the schemas alone, whatever is asked between.
func TestSameAgain(t *testing.T) {
	l := someSchemas()
	for range 2 {
		for _, a := range l {
			for _, b := range l {
				checkPair(t, a, b)
			}
		}
	}
}
