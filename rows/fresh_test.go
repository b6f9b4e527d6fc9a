package rows

import (
	"reflect"
	"slices"
	"testing"

	"kinshape/api"
)

// reach has all of a list's memory.
func reach[T any](l []T) []T { return l[:cap(l)] }

// fill writes into all of a list's memory.
func fill[T any](l []T, with T) {
	for i := range reach(l) {
		reach(l)[i] = with
	}
}

// wipe writes into all of the memory of an answer.
func wipe(l []api.Record) {
	for _, r := range l {
		fill(r, prop("wiped", number(9)))
	}
	fill(l, made("wiped=8"))
}

// given is what the calls are handed.
type given struct {
	g     api.Graph
	rows  [][]int
	names []string
	l     []api.Record
}

// cut is made of lists with something behind their length that is wrong, or would be told, where it is read.
func cut() given {
	l := []api.Node{node(1, "a", "k=1,m='u'"), node(2, "b", "k=2,y=1"), node(4, "b", "a=4,k=4,m='v',zz=1"), {Id: 5, Kind: "B"}}
	l[1].Record, l[2].Record = l[1].Record[:1], l[2].Record[:3]
	ties := []api.Tie{tie("p", 1, 2), tie("P", 0, 0)}
	rows := [][]int{{1, 4, 77}, {2, 2, 1}, {4, 1}, {1, 77}}
	rows[0] = rows[0][:2]
	records := all("k=3,m=1", "k=1,m=2,y=1", "m=3,zz=1", "k=3,m=4", "-", "k=true,m=5", "k=0")
	records[1], records[2] = records[1][:2], records[2][:1]
	records = append(records, api.Record{prop("K", api.Value{})})
	return given{api.Graph{Nodes: l[:3], Ties: ties[:1]}, rows[:3], []string{"k", "m", "y", "zz", "K"}[:2], records[:6]}
}

// whole has all of the memory of what is handed in.
func (x given) whole() []any {
	memory := []any{slices.Clone(reach(x.g.Nodes)), slices.Clone(reach(x.g.Ties)), slices.Clone(reach(x.rows)), slices.Clone(reach(x.names)), slices.Clone(reach(x.l))}
	for _, n := range x.g.Nodes {
		memory = append(memory, slices.Clone(reach(n.Record)))
	}
	for _, row := range x.rows {
		memory = append(memory, slices.Clone(reach(row)))
	}
	for _, r := range x.l {
		memory = append(memory, slices.Clone(reach(r)))
	}
	return memory
}

// wipe writes into all of it.
func (x given) wipe() {
	for _, n := range x.g.Nodes {
		fill(n.Record, prop("wiped", number(9)))
	}
	for _, row := range x.rows {
		fill(row, 999)
	}
	fill(x.g.Nodes, api.Node{Id: 999, Kind: "wiped"})
	fill(x.g.Ties, tie("wiped", 999, 999))
	fill(x.rows, []int{998})
	fill(x.names, "wiped")
	wipe(x.l)
}

// answer is a call of which a list comes, and the texts of it.
type answer struct {
	call func(x given) ([]api.Record, error)
	want []string
}

func answers() []answer {
	return []answer{
		{func(x given) ([]api.Record, error) { return Pick(x.g, x.rows, 0, x.names) }, []string{"k=1,m='u'", "k=2", "k=4,m='v'"}},
		{func(x given) ([]api.Record, error) { return Pick(x.g, x.rows, 1, x.names) }, []string{"k=4,m='v'", "k=2", "k=1,m='u'"}},
		{func(x given) ([]api.Record, error) { return Pick(x.g, x.rows, 1, nil) }, []string{"-", "-", "-"}},
		{func(x given) ([]api.Record, error) { return Sort(x.l, "k", false) }, []string{"k=1,m=2", "k=3,m=1", "k=3,m=4", "k=true,m=5", "m=3", "-"}},
		{func(x given) ([]api.Record, error) { return Sort(x.l, "k", true) }, []string{"k=true,m=5", "k=3,m=1", "k=3,m=4", "k=1,m=2", "m=3", "-"}},
		{func(x given) ([]api.Record, error) { return Sort(x.l, "y", true) }, []string{"k=3,m=1", "k=1,m=2", "m=3", "k=3,m=4", "-", "k=true,m=5"}},
		{func(x given) ([]api.Record, error) { return Group(x.l, "k") }, []string{"k=1,n=1", "k=3,n=2", "k=true,n=1"}},
		{func(x given) ([]api.Record, error) { return Group(x.l, "y") }, nil},
	}
}

// TestFresh: P2 and P4 of DOC.md, what is handed in stays as it is, behind its length, too; what is answered may be written into, and what was handed in then, without any of it being changed.
func TestFresh(t *testing.T) {
	for i, a := range answers() {
		x := cut()
		for range 3 {
			got, err := a.call(x)
			if !same(got, all(a.want...)) || err != nil {
				t.Errorf("answer %d: got %v, %v, want %v", i, got, err, a.want)
			}
			testSum(t, x.l, "m", 15)
			wipe(got)
			if !reflect.DeepEqual(x.whole(), cut().whole()) {
				t.Errorf("answer %d: what is handed in is written into: %v", i, x.whole())
			}
		}
		got, _ := a.call(x)
		again, _ := a.call(x)
		wipe(again)
		x.wipe()
		if !same(got, all(a.want...)) {
			t.Errorf("answer %d has memory that was handed in, or of another answer: %v", i, got)
		}
	}
}

// TestFreshRecords: P2 of DOC.md, no two records of an answer share memory, also behind their length, and where what was handed in is shared.
func TestFreshRecords(t *testing.T) {
	shared := made("k=1,m='u'")
	l := []api.Record{shared, shared, shared[:1], {}, shared}
	for i, call := range []func() ([]api.Record, error){
		func() ([]api.Record, error) { return Sort(l, "k", false) },
		func() ([]api.Record, error) { return Sort(l, "m", true) },
		func() ([]api.Record, error) { return Sort(l, "z", true) },
		func() ([]api.Record, error) {
			return Pick(someGraph(), rowsOf(1, 1, 4, 1, 4, 2, 2), 0, names("k m"))
		},
		func() ([]api.Record, error) { return Group(append(l, made("k=2"), made("k='u'")), "k") },
	} {
		want, err := call()
		if len(want) < 3 || err != nil {
			t.Errorf("call %d: got %v, %v", i, want, err)
		}
		for at := range want {
			got, _ := call()
			fill(got[at], prop("wiped", number(9)))
			got[at] = want[at]
			if !same(got, want) {
				t.Errorf("call %d: record %d shares memory with another one: %v, not %v", i, at, got, want)
			}
		}
	}
}

// TestFreshWrong: P2 of DOC.md, what is handed in stays as it is with errors, too.
func TestFreshWrong(t *testing.T) {
	for _, c := range []struct {
		spoil func(x *given)
		pick  api.Errno
		asked api.Errno
	}{
		{func(x *given) { x.g.Nodes = x.g.Nodes[:4] }, api.ErrSyntax, api.OK},
		{func(x *given) { x.rows = make([][]int, 201) }, api.ErrFull, api.OK},
		{func(x *given) { x.rows[2] = x.rows[2][:1] }, api.ErrRange, api.OK},
		{func(x *given) { x.rows[2][1] = 77 }, api.ErrNone, api.OK},
		{func(x *given) { x.names[1] = "a" }, api.ErrClash, api.OK},
		{func(x *given) { x.l = x.l[:8] }, api.OK, api.ErrSyntax},
		{func(x *given) { x.l[5] = api.Record{prop("k", number(1)), prop("k", number(1))} }, api.OK, api.ErrClash},
		{func(x *given) { x.l = make([]api.Record, 201) }, api.OK, api.ErrFull},
	} {
		x, want := cut(), cut()
		c.spoil(&x)
		c.spoil(&want)
		if got, err := Pick(x.g, x.rows, 1, x.names); told(err) != c.pick || (len(got) == 0) != (c.pick != api.OK) {
			t.Errorf("Pick: got %v, %v, want %v", got, err, c.pick)
		}
		if c.asked != api.OK {
			testWrong(t, x.l, "k", c.asked)
		} else {
			testWrong(t, x.l, "K", api.ErrSyntax)
			testNoGroup(t, x.l, "n", api.ErrShape)
			testNoSum(t, x.l, "k", api.ErrType)
		}
		if !reflect.DeepEqual(x.whole(), want.whole()) {
			t.Errorf("what is handed in is written into: %v", x.whole())
		}
	}
}

// TestSameAgain: P2 of DOC.md, what is answered hangs on no order in which a map is gone through, and on no call ahead.
func TestSameAgain(t *testing.T) {
	var l []api.Record
	for i := range 200 {
		l = append(l, api.Record{prop("k", number(i*7%50))}, api.Record{prop("k", words(string(rune('a'+i%26))))})
	}
	l = l[:200]
	first, err := Group(l, "k")
	if len(first) != 76 || err != nil {
		t.Errorf("Group: got %v, %v", first, err)
	}
	for range 50 {
		testNoGroup(t, l, "n", api.ErrShape)
		testGroup(t, all("k=1"), "k", "k=1,n=1")
		if again, err := Group(l, "k"); !same(first, again) || err != nil {
			t.Fatalf("got %v, then %v, %v", first, again, err)
		}
	}
}
