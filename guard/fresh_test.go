package guard

import (
	"reflect"
	"slices"
	"testing"

	"kinshape/api"
)

// reach has all of a list's memory.
func reach[T any](l []T) []T { return l[:cap(l)] }

// fill writes into all of a list's memory.
func fill[T any](l []T, with T) {
	for i := range reach(l) {
		reach(l)[i] = with
	}
}

// given is what the calls are handed.
type given struct {
	s api.Schema
	g api.Graph
	l []api.Op
}

// cut is made of lists with something behind their length that is wrong where it is read.
func cut() given {
	fields := []api.Field{{Name: "k", Type: api.Int, Must: true, Key: true}, {Name: "m", Type: api.Text}, {Name: "A"}}
	kinds := []api.Kind{{Name: "a", Fields: fields[:2]}, {Name: "b", Of: []string{"a", "zz"}[:1]}, {Name: "A"}}
	bonds := []api.Bond{{Name: "p", From: "a", To: "b", Max: -1}, {Name: "q", From: "a", To: "a", Max: 2}, {Name: "P"}}
	l := []api.Node{node(1, "a", "k=1,m='u'"), node(2, "b", "k=2,y=1"), node(4, "b", "k=4,zz=1"), {Id: 1, Kind: "A"}}
	l[1].Record, l[2].Record = l[1].Record[:1], l[2].Record[:1]
	ties := []api.Tie{tie("p", 1, 2), tie("p", 4, 4), tie("q", 1, 1), tie("q", 2, 4), tie("A", 0, 0)}
	come := newOp(node(3, "b", "k=4,z=1"))
	come.Node.Record = come.Node.Record[:1]
	done := []api.Op{come, bindOp(tie("q", 3, 4)), set(1, "n", number(1)), unset(1, "m"), set(1, "k", number(7)), looseOp(tie("q", 1, 1)), gone(2), bindOp(tie("z", 9, 3)), {What: 99}}
	return given{api.Schema{Kinds: kinds[:2], Bonds: bonds[:2]}, api.Graph{Nodes: l[:3], Ties: ties[:4]}, done[:8]}
}

// cutTouched and cutFaults are what is answered of it.
func cutTouched() []int { return []int{1, 2, 3, 4, 9} }

func cutFaults() []api.Fault {
	return []api.Fault{fault(api.BadField, 1, "n"), fault(api.SameKey, 4, "k"), fault(api.BadBond, 9, "z")}
}

// whole has all of the memory of what is handed in.
func (x given) whole() []any {
	all := []any{slices.Clone(reach(x.s.Kinds)), slices.Clone(reach(x.s.Bonds)), slices.Clone(reach(x.g.Nodes)), slices.Clone(reach(x.g.Ties)), slices.Clone(reach(x.l))}
	for _, k := range x.s.Kinds {
		all = append(all, slices.Clone(reach(k.Of)), slices.Clone(reach(k.Fields)))
	}
	for _, n := range x.g.Nodes {
		all = append(all, slices.Clone(reach(n.Record)))
	}
	for _, o := range x.l {
		all = append(all, slices.Clone(reach(o.Node.Record)))
	}
	return all
}

// wipe writes into all of it.
func (x given) wipe() {
	for _, k := range x.s.Kinds {
		fill(k.Of, "wiped")
		fill(k.Fields, api.Field{Name: "wiped", Type: api.Int})
	}
	for _, n := range x.g.Nodes {
		fill(n.Record, prop("wiped", number(9)))
	}
	for _, o := range x.l {
		fill(o.Node.Record, prop("wiped", number(9)))
	}
	fill(x.s.Kinds, api.Kind{Name: "wiped"})
	fill(x.s.Bonds, api.Bond{Name: "wiped"})
	fill(x.g.Nodes, api.Node{Id: 999, Kind: "wiped"})
	fill(x.g.Ties, tie("wiped", 999, 999))
	fill(x.l, api.Op{What: 98})
}

// TestFresh: P2 and P4, what is handed in stays as it is, behind its length, too; what is answered may be written into, and what was handed in then, without any of it being changed.
func TestFresh(t *testing.T) {
	x := cut()
	for range 3 {
		ids, err := Touched(x.g, x.l)
		if !slices.Equal(ids, cutTouched()) || err != nil {
			t.Errorf("Touched: got %v, %v, want %v", ids, err, cutTouched())
		}
		testFaults(t, x.s, x.g, x.l, cutFaults()...)
		faults, _ := Check(x.s, x.g, x.l)
		fill(ids, 999)
		fill(faults, fault(99, 99, "wiped"))
		if !reflect.DeepEqual(x.whole(), cut().whole()) {
			t.Errorf("what is handed in is written into: %v", x.whole())
		}
	}
	ids, _ := Touched(x.g, x.l)
	again, _ := Touched(x.g, x.l)
	faults, _ := Check(x.s, x.g, x.l)
	others, _ := Check(x.s, x.g, x.l)
	fill(again, 999)
	fill(others, fault(99, 99, "wiped"))
	x.wipe()
	if !slices.Equal(ids, cutTouched()) || !slices.Equal(faults, cutFaults()) {
		t.Errorf("what is answered has memory that was handed in, or of another answer: %v, %v", ids, faults)
	}
}

// TestFreshWrong: P2, the same with an error of the ops, of the graph, and ErrState.
func TestFreshWrong(t *testing.T) {
	for _, c := range []struct {
		spoil func(x given)
		touch api.Errno
		check api.Errno
	}{
		{func(x given) { x.l[7] = gone(2) }, api.ErrNone, api.ErrNone},
		{func(x given) { x.l[7] = api.Op{} }, api.ErrRange, api.ErrRange},
		{func(x given) { x.g.Nodes[2].Id = 2 }, api.ErrClash, api.ErrClash},
		{func(x given) { x.g.Nodes[2].Kind = "zz" }, api.OK, api.ErrState},
		{func(x given) { x.s.Kinds[1].Name = "B" }, api.OK, api.ErrSyntax},
	} {
		x, want := cut(), cut()
		c.spoil(x)
		c.spoil(want)
		testWrong(t, x.s, x.g, x.l, c.check)
		if ids, err := Touched(x.g, x.l); (len(ids) == 0) != (c.touch != api.OK) || told(err) != c.touch {
			t.Errorf("Touched: got %v, %v, want %v", ids, err, c.touch)
		}
		if !reflect.DeepEqual(x.whole(), want.whole()) {
			t.Errorf("what is handed in is written into: %v", x.whole())
		}
	}
}

// TestSameAgain: P2, what is answered hangs on no order in which a map is gone through, and on no call ahead.
func TestSameAgain(t *testing.T) {
	g := fullGraph()
	var l []api.Op
	for id := 60; id > 20; id-- {
		l = append(l, set(id, "a", number(id)))
	}
	l[0] = gone(1)
	first, err := Touched(g, l)
	if len(first) != 51 || !slices.IsSorted(first) || err != nil {
		t.Errorf("Touched: got %v, %v", first, err)
	}
	for range 50 {
		if _, err := Touched(g, ops(gone(77))); told(err) != api.ErrNone {
			t.Errorf("Touched: got %v", err)
		}
		if again, err := Touched(g, l); !slices.Equal(first, again) || err != nil {
			t.Fatalf("got %v, then %v, %v", first, again, err)
		}
	}
}
