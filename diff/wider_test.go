package diff

import (
	"testing"

	"kinshape/api"
)

// TestWiderSame: D1, each Schema is as wide as it is itself, and every one is as wide as the empty one if no Bond of it asks for a tie.
func TestWiderSame(t *testing.T) {
	for _, s := range someSchemas() {
		testWider(t, s, s, true)
		testWider(t, s, api.Schema{}, len(s.Kinds) == 0)
		free := api.Schema{Kinds: s.Kinds}
		asks := false
		for _, b := range s.Bonds {
			asks = asks || b.Min > 0
		}
		testWider(t, api.Schema{}, s, !asks)
		testWider(t, free, s, !asks)
		testWider(t, s, free, len(s.Bonds) == 0)
	}
}

// TestWiderKept: D1, each rule kept, in its ordinary way, and at its bounds.
func TestWiderKept(t *testing.T) {
	for _, c := range [][2]string{
		// Kinds.
		{"", "kind a"}, {"", "kind a k:int*; kind b of a; bond p a b 0 1"}, {"kind a", "kind b; kind a"}, {"kind b", "kind a k:int!; kind b; kind c of b k:text*"},
		{"kind a; kind b; kind c of b,a", "kind b; kind d; kind a; kind c of b,a; kind e of c,d"},
		// Fields.
		{"kind a", "kind a k:int"}, {"kind a", "kind a k:int l:bool m:text"}, {"kind a l:int!", "kind a k:int l:int! m:int"},
		{"kind a k:int!", "kind a k:int"}, {"kind a k:text*", "kind a k:text!"}, {"kind a k:text*", "kind a k:text"},
		{"kind a k:int* l:int! m:int", "kind a k:int l:int m:int"}, {"kind a k:int* l:bool!", "kind a j:bool k:int! l:bool! m:text"},
		{"kind a k:int*; kind b of a", "kind a k:int; kind b of a l:int"}, {"kind a k:int!; kind b of a k:int!", "kind a k:int; kind b of a k:int"},
		// Bonds.
		{"kind a", "kind a; bond p a a 0 0"}, {"kind a", "kind a; bond p a a 0 any"}, {"kind a", "kind b; kind a; bond p a b 0 20"}, {"kind a; bond p a a 1 1", "kind a; bond q a a 0 0; bond p a a 1 1"},
		{"kind a; bond p a a 1 1", "kind a; bond p a a 0 1"}, {"kind a; bond p a a 20 20", "kind a; bond p a a 0 20"}, {"kind a; bond p a a 20 20", "kind a; bond p a a 19 20"},
		{"kind a; bond p a a 0 0", "kind a; bond p a a 0 1"}, {"kind a; bond p a a 0 1", "kind a; bond p a a 0 2"}, {"kind a; bond p a a 0 19", "kind a; bond p a a 0 20"},
		{"kind a; bond p a a 0 0", "kind a; bond p a a 0 any"}, {"kind a; bond p a a 0 20", "kind a; bond p a a 0 any"}, {"kind a; bond p a a 3 any", "kind a; bond p a a 2 any"}, {"kind a; bond p a a 3 5", "kind a; bond p a a 2 6"},
		{"kind a; bond p a a 0 1; bond q a a 0 2", "kind a; bond q a a 0 2; bond r a a 0 0; bond p a a 0 1"},
		// One name of a Kind, a Field and a Bond.
		{"kind a a:int!; bond a a a 1 1", "kind a a:int; bond a a a 0 1"},
	} {
		testWider(t, plan(c[0]), plan(c[1]), true)
	}
}

// broken is a pair of which the second one is not as wide, and a graph that conforms to the first one alone; empty: there is none, or none is asked.
type broken struct{ a, b, g string }

func testBroken(t *testing.T, l []broken) {
	t.Helper()
	for _, c := range l {
		a, b := plan(c.a), plan(c.b)
		testWider(t, a, b, false)
		if c.g != "" && (!conforms(a, web(c.g)) || conforms(b, web(c.g))) {
			t.Errorf("%s is no graph that conforms to %s and not to %s", c.g, c.a, c.b)
		}
	}
}

// TestWiderKinds: D1, a Kind that b lacks, or of which the Of is another one there.
func TestWiderKinds(t *testing.T) {
	testBroken(t, []broken{
		{"kind a", "", "1 a -"}, {"kind a; kind b; kind c", "kind a; kind c", "1 b -"}, {"kind a; kind b", "kind b", "1 a -"}, {"kind a; kind b", "kind a", "1 b -"},
		{"kind a", "kind aa; kind b; bond a b b 0 1", "1 a -"}, {"kind ab", "kind a; kind b", "1 ab -"},
		{"kind a; kind b of a; bond p a a 0 1", "kind a; kind b; bond p a a 0 1", "1 b -; p 1 1"}, {"kind a k:int; kind b of a", "kind a k:int; kind b", "1 b k=1"},
		{"kind a k:int!; kind b", "kind a k:int!; kind b of a", "1 b -"}, {"kind a; kind b; bond p a a 1 1", "kind a; kind b of a; bond p a a 1 1", "1 b -"},
		{"kind a; kind b", "kind a; kind b of a", ""}, {"kind a; kind b of a", "kind a; kind b", ""},
		{"kind a; kind b; kind c of a", "kind a; kind b; kind c of b", ""}, {"kind a; kind b; kind c of a", "kind a; kind b; kind c of a,b", ""}, {"kind a; kind b; kind c of a,b", "kind a; kind b; kind c of a", ""}, {"kind a; kind b; kind c of a,b", "kind a; kind b; kind c of b", ""},
		{"kind a; kind b; kind c of a,b", "kind a; kind b; kind c of b,a", ""},
		{"kind a; kind b of a; kind c of b", "kind a; kind b of a; kind c of b,a", ""},
	})
}

// TestWiderFields: D1, one of a Kind's own Fields that b lacks, has of another Type, or with Must or Key where it is not here; and one of b's own that a has not.
func TestWiderFields(t *testing.T) {
	testBroken(t, []broken{
		{"kind a k:int", "kind a", "1 a k=1"}, {"kind a k:int!", "kind a", "1 a k=1"}, {"kind a k:int*", "kind a", "1 a k=1"}, {"kind a k:int", "kind a l:int", "1 a k=1"}, {"kind a k:int", "kind a kk:int", "1 a k=1"},
		{"kind a k:int l:int m:int", "kind a k:int m:int", "1 a l=1"}, {"kind a k:int l:int m:int", "kind a l:int m:int", "1 a k=1"}, {"kind a k:int l:int m:int", "kind a k:int l:int", "1 a m=1"},
		{"kind a k:int", "kind a k:bool", "1 a k=1"}, {"kind a k:int", "kind a k:text", "1 a k=1"}, {"kind a k:bool", "kind a k:int", "1 a k=true"}, {"kind a k:bool", "kind a k:text", "1 a k=true"}, {"kind a k:text", "kind a k:int", "1 a k='1'"}, {"kind a k:text", "kind a k:bool", "1 a k='true'"}, {"kind a k:int*", "kind a k:text", "1 a k=1"}, {"kind a k:text!", "kind a k:bool!", "1 a k=''"},
		{"kind a k:int", "kind a k:int!", "1 a -"}, {"kind a k:int", "kind a k:int*", "1 a -"}, {"kind a k:int!", "kind a k:int*", "1 a k=1; 2 a k=1"}, {"kind a k:int! l:text m:bool", "kind a k:int! l:text m:bool!", "1 a k=1"}, {"kind a k:int! l:text m:bool", "kind a k:int* l:text m:bool", "1 a k=1; 2 a k=1"},
		{"kind a", "kind a k:int!", "1 a -"}, {"kind a", "kind a k:int*", "1 a -"}, {"kind a l:int!", "kind a k:int! l:int!", "1 a l=1"}, {"kind a k:int!", "kind a k:int! l:int*", "1 a k=1"}, {"kind a", "kind a k:int l:int m:int!", "1 a -"},
		// Kind by Kind: what one has does not stand for another one, nor what it comes of for itself.
		{"kind a k:int; kind b l:int", "kind a l:int; kind b k:int", "1 a k=1; 2 b l=2"}, {"kind a; kind b k:int!", "kind a k:int!; kind b k:int!", "1 a -"}, {"kind a k:int!; kind b", "kind a k:int!; kind b k:int!", "1 b -"},
		{"kind a; kind b of a k:int", "kind a k:int; kind b of a", ""}, {"kind a k:int!; kind b of a", "kind a k:int!; kind b of a k:int!", ""},
	})
}

// TestWiderBonds: D1, a Bond that b lacks, with another From or To there, a Min or Max that asks for more there, and one of b's that asks for a tie.
func TestWiderBonds(t *testing.T) {
	testBroken(t, []broken{
		{"kind a; bond p a a 0 1", "kind a", "1 a -; p 1 1"}, {"kind a; bond p a a 0 0", "kind a", ""}, {"kind a; bond p a a 0 1", "kind a; bond q a a 0 1", "1 a -; p 1 1"}, {"kind a; bond p a a 0 1; bond q a a 0 1", "kind a; bond p a a 0 1", "1 a -; q 1 1"}, {"kind a; bond p a a 0 1; bond q a a 0 1", "kind a; bond q a a 0 1", "1 a -; p 1 1"},
		{"kind a; kind b; bond p a a 0 1", "kind a; kind b; bond p b a 0 1", "1 a -; p 1 1"}, {"kind a; kind b; bond p a a 0 1", "kind a; kind b; bond p a b 0 1", "1 a -; p 1 1"}, {"kind a; kind b; bond p a b 0 1", "kind a; kind b; bond p b a 0 1", "1 a -; 2 b -; p 1 2"},
		{"kind a; kind b of a; bond p a a 0 1", "kind a; kind b of a; bond p b a 0 1", "1 a -; p 1 1"}, {"kind a; kind b of a; bond p b a 0 1", "kind a; kind b of a; bond p a a 0 1", ""}, {"kind a; kind b of a; bond p a b 0 1", "kind a; kind b of a; bond p a a 0 1", ""},
		{"kind a; bond p a a 0 1", "kind a; bond p a a 1 1", "1 a -"}, {"kind a; bond p a a 0 any", "kind a; bond p a a 20 any", "1 a -"}, {"kind a; bond p a a 19 any", "kind a; bond p a a 20 any", ""}, {"kind a; bond p a a 0 any", "kind a; bond p a a 1 any", "1 a -"}, {"kind a; bond p a a 1 2", "kind a; bond p a a 2 2", "1 a -; p 1 1"},
		{"kind a; bond p a a 0 any", "kind a; bond p a a 0 20", ""}, {"kind a; bond p a a 0 any", "kind a; bond p a a 0 0", "1 a -; p 1 1"}, {"kind a; bond p a a 0 1", "kind a; bond p a a 0 0", "1 a -; p 1 1"}, {"kind a; bond p a a 0 20", "kind a; bond p a a 0 19", ""}, {"kind a; bond p a a 0 2", "kind a; bond p a a 0 1", "1 a -; 2 a -; p 1 1; p 1 2"},
		{"kind a; bond p a a 3 5", "kind a; bond p a a 2 4", ""}, {"kind a; bond p a a 3 5", "kind a; bond p a a 4 6", ""},
		{"kind a", "kind a; bond p a a 1 any", "1 a -"}, {"kind a", "kind a; bond p a a 1 1", "1 a -"}, {"kind a", "kind a; bond p a a 20 20", "1 a -"}, {"kind a", "kind a; kind b; bond p b a 1 1", ""}, {"", "kind b; bond p b b 1 any", ""}, {"kind a; bond p a a 0 1", "kind a; bond p a a 0 1; bond q a a 0 1; bond r a a 1 1", "1 a -"},
		// Bond by Bond: what one asks for does not stand for another one.
		{"kind a; bond p a a 0 1; bond q a a 0 2", "kind a; bond p a a 0 2; bond q a a 0 1", "1 a -; 2 a -; q 1 1; q 1 2"}, {"kind a; kind b; bond p a b 0 1; bond q b a 0 1", "kind a; kind b; bond p b a 0 1; bond q a b 0 1", "1 a -; 2 b -; p 1 2"},
		{"kind a; kind p; bond p a a 0 1", "kind a; kind p", "1 a -; p 1 1"}, {"kind a; kind p; bond p a a 0 1", "kind a; bond p a a 0 1", "1 p -"},
	})
}

// TestWiderOneBond: D1, a Bond here and there, at every Min and Max that may be, and none of it.
func TestWiderOneBond(t *testing.T) {
	kinds := []api.Kind{{Name: "a"}}
	all := []api.Schema{{Kinds: kinds}}
	for least := range 21 {
		for most := -1; most <= 20; most++ {
			if most < 0 || most >= least {
				all = append(all, api.Schema{Kinds: kinds, Bonds: []api.Bond{bond("p a a", least, most)}})
			}
		}
	}
	for _, a := range all {
		for _, b := range all {
			checkPair(t, a, b)
		}
	}
}

// TestWiderTwoFields: D1, two Fields of a Kind here and there, each of any Type, with Must, with Key, with neither, or none of it.
func TestWiderTwoFields(t *testing.T) {
	ways := []string{"", ":int", ":int!", ":int*", ":bool", ":bool!", ":bool*", ":text", ":text!", ":text*"}
	var all []api.Schema
	for _, k := range ways {
		for _, l := range ways {
			text := "kind a"
			if k != "" {
				text += " k" + k
			}
			if l != "" {
				text += " l" + l
			}
			all = append(all, plan(text))
		}
	}
	for _, a := range all {
		for _, b := range all {
			checkPair(t, a, b)
		}
	}
}

// TestWiderOf: D1, a Kind that comes of up to three here and there, in each order, and Kinds in each order.
func TestWiderOf(t *testing.T) {
	var rows, kinds []api.Schema
	orders(nil, []string{"a", "b", "c"}, func(names []string) {
		of := api.Schema{Kinds: []api.Kind{{Name: "a"}, {Name: "b"}, {Name: "c"}, {Name: "d", Of: names}}}
		rows = append(rows, of)
		var s api.Schema
		for _, name := range names {
			s.Kinds = append(s.Kinds, api.Kind{Name: name})
			s.Bonds = append(s.Bonds, bond(name+" "+name+" "+name, 0, 1))
		}
		kinds = append(kinds, s, api.Schema{Kinds: s.Kinds})
	})
	for _, all := range [][]api.Schema{rows, kinds} {
		for _, a := range all {
			for _, b := range all {
				checkPair(t, a, b)
			}
		}
	}
}

// orders goes through all lists of some of the names, each once, behind those that stand.
func orders(stand, names []string, with func([]string)) {
	with(append([]string(nil), stand...))
	for i, name := range names {
		left := append(append([]string(nil), names[:i]...), names[i+1:]...)
		orders(append(append([]string(nil), stand...), name), left, with)
	}
}
