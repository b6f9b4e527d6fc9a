package rows

import (
	"fmt"
	"math"
	"math/rand"
	"slices"
	"testing"

	"kinshape/api"
)

// TestPick: W1, of each row the record of the node at the place, of those names alone that it has.
func TestPick(t *testing.T) {
	for _, c := range []struct {
		rows  [][]int
		at    int
		names string
		want  []string
	}{
		{rowsOf(1), 0, "k", []string{"k=1"}},
		{rowsOf(1), 0, "m", []string{"m='u'"}},
		{rowsOf(1), 0, "k m", []string{"k=1,m='u'"}},
		{rowsOf(1), 0, "a k l m n z", []string{"k=1,m='u'"}},
		{rowsOf(1), 0, "a l z", []string{"-"}},
		{rowsOf(1), 0, "kk", []string{"-"}},
		{rowsOf(1), 0, "k kk", []string{"k=1"}},
		{rowsOf(1), 0, "j kk m", []string{"m='u'"}},
		{rowsOf(1), 0, "", []string{"-"}},
		{rowsOf(2), 0, "", []string{"-"}},
		{rowsOf(2), 0, "k m x", []string{"-"}},
		{rowsOf(4), 0, "k x", []string{"k=2,x=true"}},
		{rowsOf(4), 0, "m", []string{"m='it''s'"}},
		{rowsOf(7), 0, "a b c d e f g h", []string{"a=1,b=2,c=3,d=4,e=5,f=6,g=7,h=8"}},
		{rowsOf(7), 0, "a d h", []string{"a=1,d=4,h=8"}},
		{rowsOf(7), 0, "b i", []string{"b=2"}},
		{rowsOf(7), 0, "h i", []string{"h=8"}},
		{rowsOf(1000), 0, "x z", []string{"x=false,z=''"}},
		{rowsOf(1, 2, 4, 7, 9, 1000), 0, "k m", []string{"k=1,m='u'", "-", "k=2,m='it''s'", "-", "k='1'", "-"}},
		{rowsOf(1000, 9, 7, 4, 2, 1), 0, "h x", []string{"x=false", "-", "h=8", "x=true", "-", "-"}},
		{rowsOf(4, 1, 4, 4), 0, "k", []string{"k=2", "k=1", "k=2", "k=2"}},
		{rowsOf(2, 2, 2), 0, "k", []string{"-", "-", "-"}},
		{rowsOf(4, 1, 2), 0, "", []string{"-", "-", "-"}},
		{[][]int{{1, 4}, {4, 9}, {9, 1}}, 0, "k", []string{"k=1", "k=2", "k='1'"}},
		{[][]int{{1, 4}, {4, 9}, {9, 1}}, 1, "k", []string{"k=2", "k='1'", "k=1"}},
		{[][]int{{1, 4, 4, 9, 7, 2}}, 5, "k", []string{"-"}},
		{[][]int{{1, 4, 4, 9, 7, 2}}, 4, "e", []string{"e=5"}},
		{[][]int{{1}, {9, 4}, {4, 1, 2}}, 0, "k", []string{"k=1", "k='1'", "k=2"}},
		{[][]int{{0, 1, -5}, {math.MaxInt, 4}, {3, 9, 1001, math.MinInt}}, 1, "k", []string{"k=1", "k=2", "k='1'"}},
	} {
		testPick(t, someGraph(), c.rows, c.at, names(c.names), c.want...)
	}
	testPick(t, ids(60), rowsOf(60, 60), 0, names("k"), "-", "-")
}

// TestPickAll: W1, of each node each choice of its names, and of some that it has not.
func TestPickAll(t *testing.T) {
	asked := names("a b c d e f g h k m x z zz")
	for chosen := range 1 << len(asked) {
		var l []string
		for i, name := range asked {
			if chosen>>i&1 == 1 {
				l = append(l, name)
			}
		}
		rows := [][]int{{1, 7}, {7, 4}, {1000, 9}}
		for at := range 2 {
			want, _ := plainPick(someGraph(), rows, at, l)
			if got, err := Pick(someGraph(), rows, at, l); !same(got, want) || err != nil {
				t.Fatalf("Pick(%v, %d, %q): got %v, %v, want %v", rows, at, l, got, err, want)
			}
		}
	}
}

// TestPickManyNames: W1 sets no bound to names.
func TestPickManyNames(t *testing.T) {
	var l []string
	for a := 'a'; a <= 'z'; a++ {
		for b := 'a'; b <= 'z'; b++ {
			for c := 'a'; c <= 'z'; c++ {
				l = append(l, fmt.Sprintf("%c%c%c", a, b, c))
			}
		}
	}
	g := nodes(node(1, "a", "aaa=1,k=2,mmm=3,zz=4,zzy=5,zzz=6"))
	testPick(t, g, rowsOf(1), 0, l, "aaa=1,mmm=3,zzy=5,zzz=6")
	testPick(t, g, rowsOf(1), 0, append(l, "zzzz"), "aaa=1,mmm=3,zzy=5,zzz=6")
	testPick(t, g, rowsOf(1), 0, append([]string{"aa"}, l...), "aaa=1,mmm=3,zzy=5,zzz=6")
	testNoPick(t, g, rowsOf(1), 0, append(slices.Clone(l), "zzz"), api.ErrClash)
	testNoPick(t, g, rowsOf(1), 0, append(slices.Clone(l), "zzz0"), api.ErrSyntax)
}

// TestPickPlaces: W1, places below 0, at each end of a row and behind it, in rows of each length, empty ones, too.
func TestPickPlaces(t *testing.T) {
	row, of := []int{1, 4, 9, 2, 1, 1000}, []string{"k=1", "k=2", "k='1'", "-", "k=1", "-"}
	for n := range len(row) + 1 {
		for at := range n {
			testPick(t, someGraph(), [][]int{row[:n]}, at, names("k"), of[at])
			testPick(t, someGraph(), [][]int{row, row[:n], row}, at, names("k"), of[at], of[at], of[at])
		}
		for _, at := range []int{math.MinInt, -1000, -n - 1, -n, -2, -1, n, n + 1, n + 1000, math.MaxInt} {
			if 0 <= at && at < n {
				continue
			}
			testNoPick(t, someGraph(), [][]int{row[:n]}, at, names("k"), api.ErrRange)
			testNoPick(t, someGraph(), [][]int{row[:n], row[:n]}, at, nil, api.ErrRange)
		}
	}
	testNoPick(t, someGraph(), [][]int{nil}, 0, nil, api.ErrRange)
	testNoPick(t, api.Graph{}, [][]int{{}}, 0, nil, api.ErrRange)
}

// TestPickShort: W1, one row that is shorter than the others, the first, a middle and the last one, of few and of as many as may be.
func TestPickShort(t *testing.T) {
	for _, n := range []int{1, 2, 3, 5, 200} {
		for _, short := range []int{0, n / 2, n - 1} {
			rows := make([][]int, n)
			for i := range rows {
				rows[i] = []int{1, 4, 9}
			}
			rows[short] = rows[short][:2]
			for at := range 2 {
				want, _ := plainPick(someGraph(), rows, at, names("k m"))
				if got, err := Pick(someGraph(), rows, at, names("k m")); !same(got, want) || len(got) != n || err != nil {
					t.Errorf("Pick(%v, %d): got %v, %v, want %v", rows, at, got, err, want)
				}
			}
			testNoPick(t, someGraph(), rows, 2, names("k m"), api.ErrRange)
		}
	}
}

// TestPickNone: W1, an id that no node has, in the first, a middle and the last row; where it is not asked for, it is not told.
func TestPickNone(t *testing.T) {
	for _, id := range []int{0, -1, 3, 5, 8, 999, 1001, 1 << 32, 1<<32 + 1, math.MaxInt, math.MinInt} {
		for _, n := range []int{1, 2, 3, 7, 200} {
			for _, wrong := range []int{0, n / 2, n - 1} {
				rows := make([][]int, n)
				for i := range rows {
					rows[i] = []int{4, 1}
				}
				rows[wrong] = []int{9, id}
				testNoPick(t, someGraph(), rows, 1, names("k"), api.ErrNone)
				testNoPick(t, someGraph(), rows, 1, nil, api.ErrNone)
				if got, err := Pick(someGraph(), rows, 0, names("k")); len(got) != n || err != nil {
					t.Errorf("Pick(%v): got %v, %v", rows, got, err)
				}
			}
		}
		testNoPick(t, api.Graph{}, rowsOf(id), 0, nil, api.ErrNone)
	}
	testNoPick(t, api.Graph{Ties: []api.Tie{tie("p", 1, 1)}}, rowsOf(1), 0, nil, api.ErrNone)
}

// TestPickRowByRow: W1, of several rows with a fault the first one is told, whichever fault it has.
func TestPickRowByRow(t *testing.T) {
	right, none, short, both := []int{1, 4}, []int{1, 3}, []int{1}, []int{3}
	for _, c := range []struct {
		rows [][]int
		want api.Errno
	}{
		{[][]int{none, short}, api.ErrNone},
		{[][]int{short, none}, api.ErrRange},
		{[][]int{right, none, short}, api.ErrNone},
		{[][]int{right, short, none}, api.ErrRange},
		{[][]int{right, right, none, right, short, right}, api.ErrNone},
		{[][]int{right, right, short, right, none, right}, api.ErrRange},
		{[][]int{both, none}, api.ErrRange},
		{[][]int{none, both}, api.ErrNone},
		{[][]int{{}, none}, api.ErrRange},
	} {
		testNoPick(t, someGraph(), c.rows, 1, names("k"), c.want)
	}
}

// TestPickFull: W1, as many rows as may be, and more.
func TestPickFull(t *testing.T) {
	for n := 195; n <= 200; n++ {
		rows := slices.Repeat(rowsOf(4), n)
		want := slices.Repeat([]string{"k=2"}, n)
		testPick(t, someGraph(), rows, 0, names("k"), want...)
	}
	for _, n := range []int{201, 202, 400, 10_000} {
		testNoPick(t, someGraph(), slices.Repeat(rowsOf(4), n), 0, names("k"), api.ErrFull)
		testNoPick(t, someGraph(), make([][]int, n), 0, nil, api.ErrFull)
		testNoPick(t, api.Graph{}, make([][]int, n), 0, nil, api.ErrFull)
	}
	testNoPick(t, someGraph(), make([][]int, 200), 0, nil, api.ErrRange)
	// A row may have any number of places.
	long := slices.Repeat([]int{3}, 10_000)
	long[9_999] = 1
	testPick(t, someGraph(), [][]int{long}, 9_999, names("k"), "k=1")
}

// TestPickNoRows: W1, without rows there is no place that is missing, but names are asked still.
func TestPickNoRows(t *testing.T) {
	for _, rows := range [][][]int{nil, {}} {
		for _, g := range []api.Graph{{}, someGraph()} {
			for _, at := range []int{math.MinInt, -1, 0, 1, math.MaxInt} {
				testPick(t, g, rows, at, nil)
				testPick(t, g, rows, at, []string{})
				testPick(t, g, rows, at, names("k m"))
				testNoPick(t, g, rows, at, []string{"K"}, api.ErrSyntax)
				testNoPick(t, g, rows, at, names("m k"), api.ErrClash)
			}
		}
	}
}

// TestPickNames: W1, names that are none, at each place; names that are twice there, or fall; the first that has a fault is told.
func TestPickNames(t *testing.T) {
	for _, rows := range [][][]int{nil, rowsOf(1), rowsOf(2, 4)} {
		for _, bad := range badNames() {
			for _, l := range [][]string{{bad}, {bad, "k"}, {"k", bad}, {"a", bad, "z"}, {"a", "k", "z", bad}, {bad, bad}} {
				testNoPick(t, someGraph(), rows, 0, l, api.ErrSyntax)
			}
			testNoPick(t, someGraph(), rows, 0, []string{"k", "k", bad}, api.ErrClash)
			testNoPick(t, someGraph(), rows, 0, []string{"k", "a", bad, "k"}, api.ErrClash)
			testNoPick(t, someGraph(), rows, 0, []string{"k", bad, "k"}, api.ErrSyntax)
			testNoPick(t, someGraph(), rows, 0, []string{bad, "m", "k"}, api.ErrSyntax)
		}
		for _, l := range []string{"k k", "m k", "a k k", "a a k", "a b a", "k m k", "b aa", "ab a", "kk k", "z zz z", "zz z", "abcdefgh abcdefgh", "a b c d e f g i h", "k l m n o p q r s t u t"} {
			testNoPick(t, someGraph(), rows, 0, names(l), api.ErrClash)
		}
	}
	for _, l := range []string{"k", "k m", "a aa ab b", "k kk kkk", "abcdefgh", "abcdefgg abcdefgh", "a b c d e f g h i j k l m n o p q r s t u v w x y z"} {
		if got, err := Pick(someGraph(), rowsOf(2), 0, names(l)); len(got) != 1 || err != nil {
			t.Errorf("Pick of %q: got %v, %v", l, got, err)
		}
	}
}

// TestPickGraph: W1, each of chapter 5's errors, ahead of all others.
func TestPickGraph(t *testing.T) {
	for _, b := range badGraphs() {
		for _, rows := range [][][]int{nil, rowsOf(1), rowsOf(1, 77), {{}}, make([][]int, 201)} {
			for _, at := range []int{0, -1, 1} {
				for _, l := range [][]string{nil, {"k"}, {"K"}, {"m", "k"}} {
					testNoPick(t, b.g, rows, at, l, b.want)
				}
			}
		}
	}
}

// asked is what Pick is handed.
type asked struct {
	g     api.Graph
	rows  [][]int
	at    int
	names []string
}

// TestPickFirst: W1 and P3 of DOC.md, of two errors the one that is named first, and of rows and names the rows'.
func TestPickFirst(t *testing.T) {
	spoils := []struct {
		spoil func(x *asked)
		want  api.Errno
	}{
		{func(x *asked) { x.g.Nodes[0].Kind = "A" }, api.ErrSyntax},
		{func(x *asked) { x.g.Ties[0].From = 1001 }, api.ErrRange},
		{func(x *asked) { x.rows = append(x.rows, make([][]int, 200)...) }, api.ErrFull},
		{func(x *asked) { x.rows[0] = x.rows[0][:1] }, api.ErrRange},
		{func(x *asked) { x.rows[1][1] = 3 }, api.ErrNone},
		{func(x *asked) { x.rows[2] = nil }, api.ErrRange},
		{func(x *asked) { x.names[0] = "K" }, api.ErrSyntax},
		{func(x *asked) { x.names[1] = "a" }, api.ErrClash},
		{func(x *asked) { x.names[2] = "" }, api.ErrSyntax},
	}
	for first, a := range spoils {
		for _, b := range spoils[first:] {
			x := asked{someGraph(), [][]int{{1, 4}, {4, 1}, {9, 4}}, 1, names("k m x")}
			b.spoil(&x)
			a.spoil(&x)
			testNoPick(t, x.g, x.rows, x.at, x.names, a.want)
		}
	}
}

// TestPickMade: W1, graphs, rows and names that are put together from a fixed seed, right ones and wrong ones, against the plain telling.
func TestPickMade(t *testing.T) {
	random := rand.New(rand.NewSource(12))
	texts := []string{"-", "k=1", "k=1,m='u'", "a=1,x=true", "m='u'", "a='',k=false,m=0,x=-7"}
	counts := map[api.Errno]int{}
	for range 20_000 {
		var g api.Graph
		for id := 1; id <= 8; id++ {
			if random.Intn(8) > 0 {
				g.Nodes = append(g.Nodes, node(id, "a", texts[random.Intn(len(texts))]))
			}
		}
		if random.Intn(20) == 0 {
			g.Nodes = append(g.Nodes, node(random.Intn(10), "a", "-"))
		}
		rows := make([][]int, random.Intn(4))
		for i := range rows {
			for range 1 + random.Intn(4) {
				rows[i] = append(rows[i], 1+random.Intn(8))
			}
		}
		var l []string
		for _, name := range []string{"a", "k", "k", "kk", "K", "m", "b", "x"} {
			if random.Intn(4) == 0 {
				l = append(l, name)
			}
		}
		at := random.Intn(4) - 1 + random.Intn(2)
		want, wrong := plainPick(g, rows, at, l)
		counts[wrong]++
		if got, err := Pick(g, rows, at, l); !same(got, want) || told(err) != wrong {
			t.Fatalf("Pick(%v, %v, %d, %q): got %v, %v, want %v, %v", g, rows, at, l, got, err, want, wrong)
		}
	}
	for _, wrong := range []api.Errno{api.OK, api.ErrRange, api.ErrNone, api.ErrSyntax, api.ErrClash} {
		if counts[wrong] < 500 {
			t.Errorf("%v was met %d times", wrong, counts[wrong])
		}
	}
}
