package path

import (
	"reflect"
	"slices"
	"testing"

	"kinshape/api"
)

// reach has all of a list's memory.
func reach[T any](l []T) []T { return l[:cap(l)] }

// fill writes into all of a list's memory.
func fill[T any](l []T, with T) {
	for i := range reach(l) {
		reach(l)[i] = with
	}
}

// given is what the calls are handed.
type given struct {
	s api.Schema
	g api.Graph
	l []api.Step
	r api.Record
}

// cut is made of lists with something behind their length that is wrong, or would be walked, where it is read.
func cut() given {
	fields := []api.Field{{Name: "k", Type: api.Int, Must: true, Key: true}, {Name: "m", Type: api.Text}, {Name: "A"}}
	kinds := []api.Kind{{Name: "a", Fields: fields[:2]}, {Name: "b", Of: []string{"a", "zz"}[:1]}, {Name: "A"}}
	bonds := []api.Bond{{Name: "p", From: "a", To: "b", Max: -1}, {Name: "q", From: "a", To: "a", Max: 2}, {Name: "P"}}
	l := []api.Node{node(1, "a", "k=1,m='u'"), node(2, "b", "k=2,y=1"), node(4, "b", "k=4,m='v',zz=1"), node(5, "b", "k=5")}
	l[1].Record, l[2].Record = l[1].Record[:1], l[2].Record[:2]
	ties := []api.Tie{tie("p", 1, 2), tie("p", 4, 4), tie("q", 1, 1), tie("q", 2, 4), tie("q", 4, 1)}
	tests := []api.Test{has("k"), isnt("k", number(2)), is("k", number(77)), has("zz")}
	path := steps(first("a", tests[:1]...), over("q", "a", tests[:2]...), back("q", "a"), over("p", "b"), over("zz", "zz"))
	r := made("k=1,m='u',x=true")
	return given{api.Schema{Kinds: kinds[:2], Bonds: bonds[:2]}, api.Graph{Nodes: l[:3], Ties: ties[:4]}, path[:4], r[:2]}
}

// cutRows are what is walked of it.
func cutRows() [][]int { return [][]int{{1, 1, 1, 2}} }

// whole has all of the memory of what is handed in.
func (x given) whole() []any {
	all := []any{slices.Clone(reach(x.s.Kinds)), slices.Clone(reach(x.s.Bonds)), slices.Clone(reach(x.g.Nodes)), slices.Clone(reach(x.g.Ties)), slices.Clone(reach(x.l)), slices.Clone(reach(x.r))}
	for _, k := range x.s.Kinds {
		all = append(all, slices.Clone(reach(k.Of)), slices.Clone(reach(k.Fields)))
	}
	for _, n := range x.g.Nodes {
		all = append(all, slices.Clone(reach(n.Record)))
	}
	for _, p := range x.l {
		all = append(all, slices.Clone(reach(p.Tests)))
	}
	return all
}

// wipe writes into all of it.
func (x given) wipe() {
	for _, k := range x.s.Kinds {
		fill(k.Of, "wiped")
		fill(k.Fields, api.Field{Name: "wiped", Type: api.Int})
	}
	for _, n := range x.g.Nodes {
		fill(n.Record, prop("wiped", number(9)))
	}
	for _, p := range x.l {
		fill(p.Tests, has("wiped"))
	}
	fill(x.s.Kinds, api.Kind{Name: "wiped"})
	fill(x.s.Bonds, api.Bond{Name: "wiped"})
	fill(x.g.Nodes, api.Node{Id: 999, Kind: "wiped"})
	fill(x.g.Ties, tie("wiped", 999, 999))
	fill(x.l, first("wiped"))
	fill(x.r, prop("wiped", number(9)))
}

// TestFresh: P2 and P4 of DOC.md, what is handed in stays as it is, behind its length, too; what is answered may be written into, and what was handed in then, without any of it being changed.
func TestFresh(t *testing.T) {
	x := cut()
	for range 3 {
		testRight(t, x.s, x.l)
		testRows(t, x.s, x.g, x.l, cutRows()...)
		testPasses(t, x.r, has("m"), true)
		testPasses(t, x.r, has("x"), false)
		rows, _ := Walk(x.s, x.g, x.l)
		for _, row := range rows {
			fill(row, 999)
		}
		fill(rows, []int{998})
		if !reflect.DeepEqual(x.whole(), cut().whole()) {
			t.Errorf("what is handed in is written into: %v", x.whole())
		}
	}
	rows, _ := Walk(x.s, x.g, x.l)
	again, _ := Walk(x.s, x.g, x.l)
	last, _ := Type(x.s, x.l)
	for _, row := range again {
		fill(row, 999)
	}
	fill(again, []int{998})
	x.wipe()
	if !sameRows(rows, cutRows()) || last != "b" {
		t.Errorf("what is answered has memory that was handed in, or of another answer: %v, %q", rows, last)
	}
}

// TestFreshRows: P2 of DOC.md, no two rows share memory, also behind their length.
func TestFreshRows(t *testing.T) {
	for n := 1; n <= 4; n++ {
		want, _ := Walk(someSchema(), someGraph(), rightPath(n))
		if len(want) < 5 {
			t.Errorf("%d steps have the rows %v", n, want)
		}
		for at := range want {
			rows, err := Walk(someSchema(), someGraph(), rightPath(n))
			if !sameRows(rows, want) || err != nil {
				t.Fatalf("got %v, then %v, %v", want, rows, err)
			}
			fill(rows[at], 999)
			rows[at] = want[at]
			if !sameRows(rows, want) {
				t.Errorf("row %d shares memory with another one: %v, not %v", at, rows, want)
			}
		}
	}
}

// TestFreshWrong: P2 of DOC.md, the same with errors of the schema, the path, the graph, ErrBreak and ErrFull.
func TestFreshWrong(t *testing.T) {
	for _, c := range []struct {
		spoil func(x *given)
		check api.Errno
		walk  api.Errno
	}{
		{func(x *given) { x.s.Kinds[1].Name = "B" }, api.ErrSyntax, api.ErrSyntax},
		{func(x *given) { x.l = x.l[:5] }, api.ErrNone, api.ErrNone},
		{func(x *given) { x.l[3].Back = true }, api.ErrType, api.ErrType},
		{func(x *given) { x.l[1].Tests[1].How = 5 }, api.ErrRange, api.ErrRange},
		{func(x *given) { x.g.Nodes[2].Id = 2 }, api.OK, api.ErrClash},
		{func(x *given) { x.g.Nodes[2].Kind = "zz" }, api.OK, api.ErrBreak},
		{func(x *given) { x.s, x.g, x.l = someSchema(), fan(hub{11, 20}), rightPath(3) }, api.OK, api.ErrFull},
	} {
		x, want := cut(), cut()
		c.spoil(&x)
		c.spoil(&want)
		if _, err := Check(x.s, x.l); told(err) != c.check {
			t.Errorf("Check: got %v, want %v", err, c.check)
		}
		if _, err := Type(x.s, x.l); told(err) != c.check {
			t.Errorf("Type: got %v, want %v", err, c.check)
		}
		testNoRows(t, x.s, x.g, x.l, c.walk)
		testFails(t, x.r[:2], api.Test{Name: "k", How: 5}, api.ErrRange)
		if !reflect.DeepEqual(x.whole(), want.whole()) {
			t.Errorf("what is handed in is written into: %v", x.whole())
		}
	}
}
