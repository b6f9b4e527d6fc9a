package diff

import (
	"testing"

	"kinshape/api"
)

// TestLosesSame: D1, of what b has just so nothing is told, whatever b has beside it, and where it stands there.
func TestLosesSame(t *testing.T) {
	for _, s := range someSchemas() {
		testLoses(t, s, s, "")
		testLoses(t, api.Schema{}, s, "")
	}
	for _, c := range [][2]string{
		{"kind a; bond p a a 0 1", "kind a; kind b of a; bond p a a 0 1; bond q a b 1 2"},
		{"kind a; kind b; bond p a a 0 1; bond q a b 1 2", "kind b; kind a; bond q a b 1 2; bond p a a 0 1"},
		{"kind c; kind d", "kind a k:int*; kind d; kind b of d; kind c; bond c a a 0 1"},
		{"kind a k:int! m:text; kind b of a", "kind c; kind a k:int! m:text; kind b of a; bond a c c 20 20"},
	} {
		testLoses(t, plan(c[0]), plan(c[1]), "")
	}
}

// TestLosesNone: D1, the names of what b has not, Kinds first, in a's order, and as a thing of that sort.
func TestLosesNone(t *testing.T) {
	for _, c := range [][3]string{
		{"kind a", "", "a"},
		{"kind a", "kind b", "a"},
		{"kind a; bond p a a 0 1", "", "a p"},
		{"kind a; bond p a a 0 1", "kind a", "p"},
		{"kind c; kind a; kind b; bond r a b 0 1; bond p a a 0 1; bond q a b 0 1", "", "c a b r p q"},
		{"kind c; kind a; kind b; bond r a b 0 1; bond p a a 0 1; bond q a b 0 1", "kind b; kind a; bond p a a 0 1", "c r q"},
		{"kind z; kind a of z; bond b a z 0 1; bond a z z 0 1", "kind z; bond a z z 0 1", "a b"},
		// A kind and a bond may have one name; the one is not told by the other.
		{"kind a; kind p; bond p a a 0 1", "kind a; kind p", "p"},
		{"kind a; kind p; bond p a a 0 1", "kind a; bond p a a 0 1", "p"},
		{"kind a; kind p; bond p a a 0 1; bond a p a 0 1", "kind p", "a p a"},
		// Of one name in both what begins so, or ends so, is another one.
		{"kind a; kind aa; kind ab", "kind aa; kind b", "a ab"},
		{"kind ab; bond pq ab ab 0 1", "kind ab; bond p ab ab 0 1; bond q ab ab 0 1; bond pqr ab ab 0 1", "pq"},
	} {
		testLoses(t, plan(c[0]), plan(c[1]), c[2])
	}
	full, names := fullSchema(), ""
	for _, k := range full.Kinds {
		names += " " + k.Name
	}
	testLoses(t, full, api.Schema{}, names+names)
	testLoses(t, full, plan("kind a; bond a a a 0 1"), names+names)
}

// TestLosesKind: D1, a Kind that b has, but not just so.
func TestLosesKind(t *testing.T) {
	for _, c := range [][2]string{
		{"", "of a"}, {"of a", "of b"}, {"of a", "of a,b"}, {"of a,b", "of b"}, {"of a,b", "of b,a"}, {"of a,b,c", "of a,c,b"}, {"of a,b,c", "of b,c,a"},
		{"", "k:int"}, {"k:int", "k:int l:int"}, {"l:int", "k:int l:int"}, {"k:int m:int", "k:int l:int m:int"}, {"k:int", "l:int"},
		{"k:int", "k:text"}, {"k:int", "k:bool"}, {"k:bool", "k:text"}, {"k:int", "k:int!"}, {"k:int!", "k:int*"}, {"k:int", "k:int*"},
		{"k:int l:int", "k:int l:int!"}, {"k:int l:int", "k:text l:int"}, {"of a k:int", "of b k:int"}, {"of a k:int", "of a"},
	} {
		const kinds, behind = "kind a; kind b; kind c; kind d ", "; kind e of d; bond p d e 0 1"
		one, other := plan(kinds+c[0]+behind), plan(kinds+c[1]+behind)
		testLoses(t, one, other, "d")
		testLoses(t, other, one, "d")
		testLoses(t, one, one, "")
		testLoses(t, other, other, "")
	}
	// Each for itself: one that is just so stays so where what it comes of is another one.
	testLoses(t, plan("kind a k:int; kind b of a; kind c of b m:text"), plan("kind a; kind b of a; kind c of b m:text!"), "a c")
	testLoses(t, plan("kind a k:int l:int; kind b of a"), plan("kind a; kind b of a k:int l:int"), "a b")
}

// TestLosesBond: D1, a Bond that b has, but not just so.
func TestLosesBond(t *testing.T) {
	for _, c := range [][2]string{
		{"a a 0 1", "b a 0 1"}, {"a a 0 1", "a b 0 1"}, {"a b 0 1", "b a 0 1"},
		{"a a 0 1", "a a 1 1"}, {"a a 0 1", "a a 0 2"}, {"a a 0 any", "a a 0 20"}, {"a a 0 any", "a a 0 0"}, {"a a 0 any", "a a 1 any"}, {"a a 19 20", "a a 20 20"},
	} {
		const kinds = "kind a; kind b; bond p b b 2 3; bond q "
		one, other := plan(kinds+c[0]), plan(kinds+c[1])
		testLoses(t, one, other, "q")
		testLoses(t, other, one, "q")
		testLoses(t, one, one, "")
		testLoses(t, other, other, "")
	}
	// What another bond has is not that one's.
	testLoses(t, plan("kind a; bond p a a 0 1; bond q a a 0 2"), plan("kind a; bond p a a 0 2; bond q a a 0 1"), "p q")
	testLoses(t, plan("kind a; kind b; bond p a b 0 1; bond q b a 0 1; bond r a a 0 1"), plan("kind a; kind b k:int; bond r a a 0 1; bond q b b 0 1; bond s a b 0 1"), "b p q")
}

// TestErrors: D1, chapter 4's Check of a, then of b, in Loses and in Wider.
func TestErrors(t *testing.T) {
	bad := badSchemas()
	for _, c := range bad {
		for _, s := range someSchemas() {
			testBad(t, c.s, s, c.want)
			testBad(t, s, c.s, c.want)
		}
		for _, other := range bad {
			testBad(t, c.s, other.s, c.want)
		}
	}
}
