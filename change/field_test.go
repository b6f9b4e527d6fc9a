package change

import (
	"strings"
	"testing"

	"kinshape/api"
)

// TestAddField: E1, the field stands in the kind in order: ahead of those that there are, between them and behind them.
func TestAddField(t *testing.T) {
	s := plan("kind a; kind b d:int h:text; kind c of b; bond p a b 0 1")
	testDo(t, s, addFieldOp("b", field("a", api.Bool)), "kind a; kind b a:bool d:int h:text; kind c of b; bond p a b 0 1")
	testDo(t, s, addFieldOp("b", field("f", api.Int)), "kind a; kind b d:int f:int h:text; kind c of b; bond p a b 0 1")
	testDo(t, s, addFieldOp("b", field("ha", api.Text)), "kind a; kind b d:int h:text ha:text; kind c of b; bond p a b 0 1")
	testDo(t, s, addFieldOp("a", field("d", api.Text)), "kind a d:text; kind b d:int h:text; kind c of b; bond p a b 0 1")
	testDo(t, s, addFieldOp("c", field("abcdefgh", api.Text)), "kind a; kind b d:int h:text; kind c of b abcdefgh:text; bond p a b 0 1")
	// Each place of as many as may be then.
	for at := range 8 {
		k := breed("a", "", fields(7)...)
		name := string(rune('a' + 2*at))
		got, err := Do(api.Schema{Kinds: []api.Kind{k}}, addFieldOp("a", field(name, api.Text)))
		if err != nil || len(got.Kinds) != 1 || len(got.Kinds[0].Fields) != 8 || got.Kinds[0].Fields[at] != field(name, api.Text) {
			t.Errorf("AddField at %d: got %v, %v", at, got, err)
		}
	}
}

// TestAddFieldValue: E1, with a value of the field's type, with and without Must, and with none.
func TestAddFieldValue(t *testing.T) {
	s := plan("kind a k:int; kind b of a")
	for _, v := range []api.Value{number(0), number(-1_000_000), number(1_000_000)} {
		testDo(t, s, addWith("a", field("l", api.Int), v), "kind a k:int l:int; kind b of a")
		testDo(t, s, addWith("a", must(field("l", api.Int)), v), "kind a k:int l:int!; kind b of a")
	}
	for _, v := range []api.Value{truth(0), truth(1)} {
		testDo(t, s, addWith("a", field("l", api.Bool), v), "kind a k:int l:bool; kind b of a")
		testDo(t, s, addWith("b", must(field("l", api.Bool)), v), "kind a k:int; kind b of a l:bool!")
	}
	for _, v := range []api.Value{words(""), words("it's"), words(strings.Repeat("~", 20))} {
		testDo(t, s, addWith("a", field("l", api.Text), v), "kind a k:int l:text; kind b of a")
		testDo(t, s, addWith("a", must(field("l", api.Text)), v), "kind a k:int l:text!; kind b of a")
	}
	// Type 0 is no value, whatever stands beside it.
	for _, v := range []api.Value{{}, {N: 2_000_000}, {S: "\n"}, {N: -7, S: strings.Repeat("z", 30)}} {
		testDo(t, s, addWith("a", field("l", api.Int), v), "kind a k:int l:int; kind b of a")
		testNoDo(t, s, addWith("a", must(field("l", api.Int)), v), api.ErrShape)
	}
}

// TestAddFieldWrong: E1, each error of AddField by itself.
func TestAddFieldWrong(t *testing.T) {
	s := plan("kind a d:int k:int; kind b of a m:text!; kind c l:bool*; bond p a b 0 1")
	for _, name := range append(badNames(), "zz", "p", "k") {
		testNoDo(t, s, addFieldOp(name, field("n", api.Int)), api.ErrNone)
		testNoDo(t, api.Schema{}, addFieldOp(name, field("n", api.Int)), api.ErrNone)
	}
	// One of that name itself: the same one, too.
	for _, f := range []api.Field{field("d", api.Int), field("k", api.Int), field("k", api.Text), must(field("d", api.Int))} {
		testNoDo(t, s, addFieldOp("a", f), api.ErrClash)
	}
	testNoDo(t, s, addFieldOp("b", field("m", api.Text)), api.ErrClash)
	for _, f := range []api.Field{key(field("n", api.Int)), {Name: "n", Type: api.Int, Key: true}} {
		testNoDo(t, s, addFieldOp("a", f), api.ErrShape)
		testNoDo(t, s, addWith("a", f, number(7)), api.ErrShape)
	}
	testNoDo(t, s, addFieldOp("a", must(field("n", api.Int))), api.ErrShape)
	for _, b := range badValues() {
		for _, fieldType := range []int{api.Int, api.Bool, api.Text, b.v.Type} {
			testNoDo(t, s, addWith("a", field("n", fieldType), b.v), b.want)
			testNoDo(t, s, addWith("c", must(field("n", fieldType)), b.v), b.want)
		}
	}
	for _, v := range []api.Value{number(1), truth(1), words("")} {
		for _, fieldType := range []int{api.Int, api.Bool, api.Text, 0, 4, -1} {
			if fieldType != v.Type {
				testNoDo(t, s, addWith("a", field("n", fieldType), v), api.ErrType)
				testNoDo(t, s, addWith("a", must(field("n", fieldType)), v), api.ErrType)
			}
		}
	}
}

// TestAddFieldCheck: E1, what chapter 4's Check of what comes refuses.
func TestAddFieldCheck(t *testing.T) {
	s := plan("kind a d:int k:int; kind b of a m:text!; kind c l:bool*")
	for _, name := range badNames() {
		testNoDo(t, s, addFieldOp("a", field(name, api.Int)), api.ErrSyntax)
		testNoDo(t, s, addFieldOp("a", field(name, 9)), api.ErrSyntax)
		testNoDo(t, s, addWith("c", must(field(name, api.Text)), words("u")), api.ErrSyntax)
	}
	for _, fieldType := range []int{0, 4, -1} {
		testNoDo(t, s, addFieldOp("a", field("n", fieldType)), api.ErrType)
	}
	// As many of its own as may be, and one more, ahead of what is wrong with that one.
	full := api.Schema{Kinds: []api.Kind{breed("a", "", fields(8)...)}}
	for _, name := range []string{"a", "e", "zz", "K", ""} {
		testNoDo(t, full, addFieldOp("a", field(name, api.Int)), api.ErrFull)
		testNoDo(t, full, addFieldOp("a", field(name, 9)), api.ErrFull)
		testNoDo(t, full, addWith("a", must(field(name, api.Int)), number(7)), api.ErrFull)
	}
	// As many of all its kin, and of those under it, as may be, and one more.
	testDo(t, plan("kind a b:int d:int f:int h:int; kind b j:int l:int n:int; kind c of a,b"), addFieldOp("c", field("z", api.Int)), "kind a b:int d:int f:int h:int; kind b j:int l:int n:int; kind c of a,b z:int")
	kin := plan("kind a b:int d:int f:int h:int; kind b j:int l:int n:int p:int; kind c of a,b; kind d of a")
	for _, name := range []string{"a", "b", "c"} {
		testNoDo(t, kin, addFieldOp(name, field("z", api.Int)), api.ErrFull)
	}
	testDo(t, kin, addFieldOp("d", field("z", api.Int)), "kind a b:int d:int f:int h:int; kind b j:int l:int n:int p:int; kind c of a,b; kind d of a z:int")
	// The same one that the kin has is no more.
	testDo(t, kin, addFieldOp("c", field("b", api.Int)), "kind a b:int d:int f:int h:int; kind b j:int l:int n:int p:int; kind c of a,b b:int; kind d of a")
	testDo(t, kin, addFieldOp("a", field("j", api.Int)), "kind a b:int d:int f:int h:int j:int; kind b j:int l:int n:int p:int; kind c of a,b; kind d of a")
}

// TestAddFieldKin: E1, one of a name that only its kin, or those under it, have: it may be the same one alone.
func TestAddFieldKin(t *testing.T) {
	s := plan("kind a k:int; kind b of a; kind c of b m:text!; kind d")
	testDo(t, s, addFieldOp("b", field("k", api.Int)), "kind a k:int; kind b of a k:int; kind c of b m:text!; kind d")
	testDo(t, s, addWith("b", field("k", api.Int), number(7)), "kind a k:int; kind b of a k:int; kind c of b m:text!; kind d")
	testDo(t, s, addWith("b", must(field("m", api.Text)), words("u")), "kind a k:int; kind b of a m:text!; kind c of b m:text!; kind d")
	testDo(t, s, addFieldOp("d", field("k", api.Bool)), "kind a k:int; kind b of a; kind c of b m:text!; kind d k:bool")
	for _, name := range []string{"b", "c"} {
		testNoDo(t, s, addFieldOp(name, field("k", api.Text)), api.ErrClash)
		testNoDo(t, s, addWith(name, must(field("k", api.Int)), number(1)), api.ErrClash)
	}
	for _, name := range []string{"a", "b"} {
		testNoDo(t, s, addFieldOp(name, field("m", api.Text)), api.ErrClash)
		testNoDo(t, s, addWith(name, must(field("m", api.Int)), number(1)), api.ErrClash)
	}
	// Of two kinds that have one in common below.
	testNoDo(t, plan("kind a k:int; kind b; kind c of a,b"), addFieldOp("b", field("k", api.Bool)), api.ErrClash)
	testDo(t, plan("kind a k:int; kind b; kind c of a,b"), addFieldOp("b", field("k", api.Int)), "kind a k:int; kind b k:int; kind c of a,b")
}

// TestAddFieldFirst: E1 and P3, of two things that are wrong with AddField the one that the chapter names first is told.
func TestAddFieldFirst(t *testing.T) {
	s := plan("kind a k:int; kind b of a m:text!; kind c b:int d:int f:int h:int j:int l:int n:int p:int")
	spoilers := []struct {
		spoil func(c *api.Change)
		want  api.Errno
	}{
		{func(c *api.Change) { c.Name = "zz" }, api.ErrNone},
		{func(c *api.Change) { c.Field.Name = "k" }, api.ErrClash},
		{func(c *api.Change) { c.Field.Key = true }, api.ErrShape},
		{func(c *api.Change) { c.Field.Must, c.Value.Type = true, 0 }, api.ErrShape},
		{func(c *api.Change) { c.Value.N = 1_000_001 }, api.ErrRange},
		{func(c *api.Change) { c.Value.S = "u" }, api.ErrSyntax},
		{func(c *api.Change) { c.Field.Type = api.Text }, api.ErrType},
	}
	for i, first := range spoilers {
		for _, second := range spoilers[i:] {
			c := addWith("a", field("n", api.Int), number(7))
			second.spoil(&c)
			first.spoil(&c)
			testNoDo(t, s, c, first.want)
		}
	}
	// All of these stand ahead of what chapter 4's Check tells: a name that is none, one more than may be, another one of the kin.
	for _, c := range []api.Change{addWith("a", field("K", api.Int), number(7)), addWith("c", field("z", api.Int), number(7)), addWith("a", field("m", api.Int), number(7))} {
		for _, x := range spoilers {
			spoilt := c
			x.spoil(&spoilt)
			if spoilt.Name == "c" && spoilt.Field.Name == "k" {
				spoilt.Field.Name = "l"
			}
			testNoDo(t, s, spoilt, x.want)
		}
	}
}

// TestRename: E1, the field has the other name, and stands where that is in order: where it stood, further ahead, further behind.
func TestRename(t *testing.T) {
	s := plan("kind a; kind b d:int h:text! m:bool*; kind c of b; bond p a b 0 1")
	for _, c := range []struct{ name, to, want string }{
		{"d", "a", "a:int h:text! m:bool*"},
		{"d", "g", "g:int h:text! m:bool*"},
		{"d", "i", "h:text! i:int m:bool*"},
		{"d", "z", "h:text! m:bool* z:int"},
		{"h", "a", "a:text! d:int m:bool*"},
		{"h", "e", "d:int e:text! m:bool*"},
		{"h", "l", "d:int l:text! m:bool*"},
		{"h", "z", "d:int m:bool* z:text!"},
		{"m", "a", "a:bool* d:int h:text!"},
		{"m", "e", "d:int e:bool* h:text!"},
		{"m", "i", "d:int h:text! i:bool*"},
		{"m", "abcdefgh", "abcdefgh:bool* d:int h:text!"},
	} {
		testDo(t, s, rename("b", c.name, c.to), "kind a; kind b "+c.want+"; kind c of b; bond p a b 0 1")
	}
	testDo(t, plan("kind a k:int"), rename("a", "k", "a"), "kind a a:int")
}

// TestRenameWrong: E1, each error of Rename, and which one is told first.
func TestRenameWrong(t *testing.T) {
	s := plan("kind a k:int m:text; kind b of a f:int!; kind c l:int; bond p a b 0 1")
	// No such kind, and no such field of its own, whatever To is.
	for _, to := range []string{"n", "k", "f", "K", ""} {
		for _, name := range append(badNames(), "zz", "p", "k") {
			testNoDo(t, s, rename(name, "k", to), api.ErrNone)
		}
		for _, name := range append(badNames(), "zz", "a", "f", "l") {
			testNoDo(t, s, rename("a", name, to), api.ErrNone)
		}
		testNoDo(t, s, rename("b", "k", to), api.ErrNone)
	}
	for _, to := range badNames() {
		testNoDo(t, s, rename("a", "k", to), api.ErrSyntax)
		testNoDo(t, s, rename("b", "f", to), api.ErrSyntax)
	}
	// One that it has itself: its own name, too.
	testNoDo(t, s, rename("a", "k", "m"), api.ErrClash)
	testNoDo(t, s, rename("a", "m", "k"), api.ErrClash)
	testNoDo(t, s, rename("a", "k", "k"), api.ErrClash)
	testNoDo(t, s, rename("c", "l", "l"), api.ErrClash)
	testNoDo(t, plan("kind a k:int m:int"), rename("a", "k", "m"), api.ErrClash)
}

// TestRenameKin: E1, to a name that its kin, or those under it, have: it may be that of the same field alone.
func TestRenameKin(t *testing.T) {
	s := plan("kind a k:int; kind b of a l:int; kind c of b m:int! n:int; kind d l:text")
	testDo(t, s, rename("b", "l", "k"), "kind a k:int; kind b of a k:int; kind c of b m:int! n:int; kind d l:text")
	testDo(t, s, rename("b", "l", "n"), "kind a k:int; kind b of a n:int; kind c of b m:int! n:int; kind d l:text")
	testDo(t, s, rename("a", "k", "n"), "kind a n:int; kind b of a l:int; kind c of b m:int! n:int; kind d l:text")
	testDo(t, s, rename("c", "n", "k"), "kind a k:int; kind b of a l:int; kind c of b k:int m:int!; kind d l:text")
	testDo(t, s, rename("d", "l", "k"), "kind a k:int; kind b of a l:int; kind c of b m:int! n:int; kind d k:text")
	testNoDo(t, s, rename("a", "k", "m"), api.ErrClash)
	testNoDo(t, s, rename("b", "l", "m"), api.ErrClash)
	testNoDo(t, s, rename("c", "m", "k"), api.ErrClash)
	testNoDo(t, s, rename("c", "m", "l"), api.ErrClash)
	// What was one field of both is two then.
	full := plan("kind a b:int d:int f:int h:int j:int l:int n:int p:int; kind b of a b:int")
	testNoDo(t, full, rename("b", "b", "z"), api.ErrFull)
	testNoDo(t, full, rename("a", "b", "z"), api.ErrFull)
	testNoDo(t, full, rename("b", "b", "P"), api.ErrSyntax)
	testDo(t, full, rename("b", "b", "p"), "kind a b:int d:int f:int h:int j:int l:int n:int p:int; kind b of a p:int")
	testDo(t, full, rename("a", "p", "z"), "kind a b:int d:int f:int h:int j:int l:int n:int z:int; kind b of a b:int")
}
