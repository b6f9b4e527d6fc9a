package ask

import (
	"reflect"
	"slices"
	"testing"

	"kinshape/api"
)

// reach has all of a list's memory.
func reach[T any](l []T) []T { return l[:cap(l)] }

// fill writes into all of a list's memory.
func fill[T any](l []T, with T) {
	for i := range reach(l) {
		reach(l)[i] = with
	}
}

// wipe writes into all of a path's memory.
func wipe(l []api.Step) {
	for _, p := range reach(l) {
		fill(p.Tests, is("wiped", words("wiped")))
	}
	fill(l, back("wiped", "wiped"))
}

// whole has a copy of all of a path's memory.
func whole(l []api.Step) []any {
	all := []any{slices.Clone(reach(l))}
	for _, p := range reach(l) {
		all = append(all, slices.Clone(reach(p.Tests)))
	}
	return all
}

// cut is made of lists with something behind their length that is wrong, or would be printed, where it is read.
func cut() []api.Step {
	tests := []api.Test{is("x", words("u,v")), has("y"), below("z", number(3)), has("K")}
	nine := make([]api.Test, 9)
	return steps(first("a", tests[:2]...), back("p", "b", nine[:0]...), over("q", "c", slices.Clone(tests)[:3]...), over("Q", "C"), over("r", "d"))[:3]
}

const cutText = "a[x='u,v',y] <-p- b -q-> c[x='u,v',y,z<3]"

// TestFresh: P2 and P4 of DOC.md, what is handed in stays as it is, behind its length, too, and what is behind it is not read; what is printed stays when it is written into.
func TestFresh(t *testing.T) {
	l := cut()
	for range 3 {
		testPlain(t, l, api.OK)
		if got, err := Print(l); got != cutText || err != nil {
			t.Errorf("Print: got %q, %v", got, err)
		}
		if !reflect.DeepEqual(whole(l), whole(cut())) {
			t.Errorf("what is handed in is written into: %v", whole(l))
		}
	}
	text, _ := Print(l)
	wipe(l)
	if text != cutText {
		t.Errorf("what is answered is changed: %q", text)
	}
}

// TestFreshWrong: P2 of DOC.md, the same with errors.
func TestFreshWrong(t *testing.T) {
	for _, c := range []struct {
		spoil func(l []api.Step) []api.Step
		want  api.Errno
	}{
		{func(l []api.Step) []api.Step { return l[:0] }, api.ErrNone},
		{func(l []api.Step) []api.Step { return l[:4] }, api.ErrSyntax},
		{func(l []api.Step) []api.Step { return append(l, longWay(4)...) }, api.ErrFull},
		{func(l []api.Step) []api.Step { l[0].Back = true; return l }, api.ErrShape},
		{func(l []api.Step) []api.Step { l[1].Bond = ""; return l }, api.ErrSyntax},
		{func(l []api.Step) []api.Step { l[1].Tests = l[1].Tests[:9]; return l }, api.ErrFull},
		{func(l []api.Step) []api.Step { l[2].Tests = l[2].Tests[:4]; return l }, api.ErrSyntax},
		{func(l []api.Step) []api.Step { l[2].Tests[2].How = 5; return l }, api.ErrRange},
		{func(l []api.Step) []api.Step { l[2].Tests[2].How = api.Has; return l }, api.ErrShape},
	} {
		l, want := c.spoil(cut()), whole(c.spoil(cut()))
		testPlain(t, l, c.want)
		if !reflect.DeepEqual(whole(l), want) {
			t.Errorf("what is handed in is written into: %v", whole(l))
		}
	}
}

// TestFreshAnswers: P2 of DOC.md, what Parse answers may be written into, all of its memory, without another answer being changed.
func TestFreshAnswers(t *testing.T) {
	for _, c := range goodPaths() {
		one, _, _ := Parse(c.text)
		two, _, _ := Parse(c.text)
		wipe(one)
		if !same(two, c.l) {
			t.Errorf("two answers of %q share memory: %v", c.text, two)
		}
		testText(t, c.l, c.text)
	}
}

// TestFreshTests: P2 of DOC.md, no two lists of one answer share memory, also behind their length.
func TestFreshTests(t *testing.T) {
	for _, c := range goodPaths() {
		for at := range c.l {
			l, _, _ := Parse(c.text)
			fill(l[at].Tests, has("wiped"))
			l[at].Tests = c.l[at].Tests
			if !same(l, c.l) {
				t.Errorf("the tests of step %d share memory with others: %v, not %v", at, l, c.l)
			}
		}
	}
}

// TestFreshNoLists: P4 of DOC.md, a field that is not named is empty: a step without tests has none, the first one no bond.
func TestFreshNoLists(t *testing.T) {
	l, at, err := Parse("a -p-> b <-q- c")
	want := []api.Step{{Kind: "a"}, {Bond: "p", Kind: "b"}, {Bond: "q", Back: true, Kind: "c"}}
	if !reflect.DeepEqual(l, want) || at != 0 || err != nil {
		t.Errorf("got %v, %d, %v, want %v", l, at, err, want)
	}
	l, _, _ = Parse("a[x]")
	if !reflect.DeepEqual(l, []api.Step{{Kind: "a", Tests: []api.Test{{Name: "x", How: api.Has}}}}) {
		t.Errorf("got %v", l)
	}
	if l, at, err := Parse("a[x] "); l != nil || at != 5 || told(err) != api.ErrSyntax {
		t.Errorf("got %v, %d, %v", l, at, err)
	}
}
