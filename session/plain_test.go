package session

import (
	"fmt"
	"math/rand"
	"slices"
	"testing"

	"kinshape/api"
	"kinshape/check"
	"kinshape/delta"
)

// plainBase tells a base sentence by sentence: it keeps all sessions and all commits that there ever were, and works out anew what one sees.
type plainBase struct {
	schema   api.Schema
	graph    api.Graph
	sessions []plainSession // the number of each is one more than its place
	commits  [][]int        // what each one touched
}

type plainSession struct {
	open  bool
	since int // as many commits were ahead of its being opened
	start api.Graph
	ops   []api.Op
}

// get is the session of a number, if it is open.
func (b *plainBase) get(id int) *plainSession {
	if id < 1 || id > len(b.sessions) || !b.sessions[id-1].open {
		return nil
	}
	return &b.sessions[id-1]
}

func (b *plainBase) ids() (l []int) {
	for i, x := range b.sessions {
		if x.open {
			l = append(l, i+1)
		}
	}
	return l
}

func (b *plainBase) openOne() (int, api.Errno) {
	if len(b.ids()) == 4 {
		return 0, api.ErrFull
	}
	b.sessions = append(b.sessions, plainSession{open: true, since: len(b.commits), start: b.graph})
	return len(b.sessions), api.OK
}

func (b *plainBase) do(id int, o api.Op) api.Errno {
	x := b.get(id)
	if x == nil {
		return api.ErrNone
	}
	if len(x.ops) == 40 {
		return api.ErrFull
	}
	if _, wrong := plainAll(x.start, append(slices.Clone(x.ops), o)); wrong != api.OK {
		return wrong
	}
	x.ops = append(x.ops, o)
	return api.OK
}

func (b *plainBase) see(id int) (api.Graph, api.Errno) {
	x := b.get(id)
	if x == nil {
		return api.Graph{}, api.ErrNone
	}
	return plainAll(x.start, x.ops)
}

func (b *plainBase) abort(id int) api.Errno {
	x := b.get(id)
	if x == nil {
		return api.ErrNone
	}
	x.open = false
	return api.OK
}

func (b *plainBase) commit(id int) api.Errno {
	x := b.get(id)
	if x == nil {
		return api.ErrNone
	}
	touched := plainTouched(x.start, x.ops)
	for _, other := range b.commits[x.since:] {
		for _, n := range other {
			if slices.Contains(touched, n) {
				return api.ErrLate
			}
		}
	}
	done, wrong := plainAll(b.graph, x.ops)
	if wrong != api.OK {
		return wrong
	}
	if l, err := check.Faults(b.schema, done); len(l) > 0 || err != nil {
		return api.ErrBreak
	}
	b.graph, x.open = done, false
	b.commits = append(b.commits, touched)
	return api.OK
}

// plainAll does ops one by one.
func plainAll(g api.Graph, l []api.Op) (api.Graph, api.Errno) {
	for _, o := range l {
		next, err := delta.Do(g, o)
		if err != nil {
			return api.Graph{}, told(err)
		}
		g = next
	}
	return g, api.OK
}

// plainTouched goes over the ties as the ops change them, without chapter 9.
func plainTouched(g api.Graph, l []api.Op) (touched []int) {
	ties := slices.Clone(g.Ties)
	for _, o := range l {
		switch o.What {
		case api.New, api.Set, api.Unset:
			touched = append(touched, o.Node.Id)
		case api.Bind:
			touched = append(touched, o.Tie.From, o.Tie.To)
			ties = append(ties, o.Tie)
		case api.Loose:
			touched = append(touched, o.Tie.From, o.Tie.To)
			ties = slices.DeleteFunc(ties, func(t api.Tie) bool { return t == o.Tie })
		case api.Gone:
			touched = append(touched, o.Node.Id)
			var left []api.Tie
			for _, t := range ties {
				if t.From != o.Node.Id && t.To != o.Node.Id {
					left = append(left, t)
				} else {
					touched = append(touched, t.From, t.To)
				}
			}
			ties = left
		}
	}
	return touched
}

// both are a base and its plain telling, of which the same is asked.
type both struct {
	t     *testing.T
	b     *Base
	plain *plainBase
	calls string
}

func bothOf(t *testing.T, s api.Schema, g api.Graph) *both {
	t.Helper()
	return &both{t: t, b: base(t, s, g), plain: &plainBase{schema: s, graph: g}}
}

// same holds what a call answers against what is wanted, and gives the wanted back.
func (x *both) same(call string, got error, want api.Errno) api.Errno {
	x.t.Helper()
	x.calls += " " + call
	if told(got) != want {
		x.t.Fatalf("%s: got %v, want %v", x.calls, got, want)
	}
	return want
}

func (x *both) open() api.Errno {
	x.t.Helper()
	id, err := x.b.Open()
	want, wrong := x.plain.openOne()
	if id != want {
		x.t.Fatalf("%s Open: got %d, want %d", x.calls, id, want)
	}
	return x.same("Open", err, wrong)
}

func (x *both) do(id int, o api.Op) api.Errno {
	x.t.Helper()
	return x.same(fmt.Sprintf("Do(%d, %v)", id, o), x.b.Do(id, o), x.plain.do(id, o))
}

func (x *both) commit(id int) api.Errno {
	x.t.Helper()
	return x.same(fmt.Sprintf("Commit(%d)", id), x.b.Commit(id), x.plain.commit(id))
}

func (x *both) abort(id int) api.Errno {
	x.t.Helper()
	return x.same(fmt.Sprintf("Abort(%d)", id), x.b.Abort(id), x.plain.abort(id))
}

// testAll holds all that is there behind the calls against the plain telling, of sessions that are not open, too.
func (x *both) testAll() {
	x.t.Helper()
	if g := x.b.Graph(); !sameGraph(g, x.plain.graph) {
		x.t.Fatalf("%s: Graph: got %v, want %v", x.calls, g, x.plain.graph)
	}
	if age := x.b.Age(); age != len(x.plain.commits) {
		x.t.Fatalf("%s: Age: got %d, want %d", x.calls, age, len(x.plain.commits))
	}
	if l := x.b.Ids(); !slices.Equal(l, x.plain.ids()) {
		x.t.Fatalf("%s: Ids: got %v, want %v", x.calls, l, x.plain.ids())
	}
	for id := range len(x.plain.sessions) + 2 {
		want, wrong := x.plain.see(id)
		if g, err := x.b.See(id); !sameGraph(g, want) || told(err) != wrong {
			x.t.Fatalf("%s: See(%d): got %v, %v, want %v, %v", x.calls, id, g, err, want, wrong)
		}
	}
}

// shortCalls are asked of a base of two sessions that are open.
func shortCalls() []func(*both) api.Errno {
	return []func(*both) api.Errno{
		(*both).open,
		func(x *both) api.Errno { return x.do(1, set(1, "k", number(3))) },
		func(x *both) api.Errno { return x.do(1, gone(2)) },
		func(x *both) api.Errno { return x.do(2, newOp(node(3, "a", "k=3"))) },
		func(x *both) api.Errno { return x.do(2, bind("p", 2, 2)) },
		func(x *both) api.Errno { return x.commit(1) },
		func(x *both) api.Errno { return x.commit(2) },
		func(x *both) api.Errno { return x.abort(1) },
	}
}

// rowsUpTo has all rows of at most so many of n numbers, from 0.
func rowsUpTo(length, n int) [][]int {
	rows := [][]int{nil}
	for at := 0; len(rows[at]) < length; at++ {
		for i := range n {
			rows = append(rows, append(slices.Clone(rows[at]), i))
		}
	}
	return rows
}

// TestShort: B1 and B2, all rows of up to five of some calls, against the plain telling.
func TestShort(t *testing.T) {
	s, g := plan("kind a k:int*; bond p a a 0 1"), web("1 a k=1; 2 a k=2; p 1 2")
	calls := shortCalls()
	seen := map[api.Errno]int{}
	for _, row := range rowsUpTo(5, len(calls)) {
		x := bothOf(t, s, g)
		x.open()
		x.open()
		for _, i := range row {
			seen[calls[i](x)]++
		}
		x.testAll()
	}
	for _, e := range []api.Errno{api.OK, api.ErrNone, api.ErrFull, api.ErrClash, api.ErrLate, api.ErrBreak} {
		if seen[e] < 20 {
			t.Errorf("%v came %d times alone", e, seen[e])
		}
	}
}

// someOp is any op, of which most may be done.
func someOp(r *rand.Rand, g api.Graph) api.Op {
	id := func() int {
		if len(g.Nodes) > 0 && r.Intn(5) > 0 {
			return g.Nodes[r.Intn(len(g.Nodes))].Id
		}
		return 1 + r.Intn(20)
	}
	whats := []int{api.New, api.New, api.New, api.Gone, api.Set, api.Set, api.Unset, api.Bind, api.Bind, api.Loose, api.Loose, 0}
	o := api.Op{What: whats[r.Intn(len(whats))], Node: api.Node{Id: id()}, Tie: tie([]string{"p", "q"}[r.Intn(2)], id(), id())}
	o.Prop = prop([]string{"k", "m", "m"}[r.Intn(3)], number(r.Intn(60)))
	switch {
	case o.What == api.New:
		o.Node = node(1+r.Intn(20), []string{"a", "b", "b"}[r.Intn(3)], fmt.Sprint("k=", r.Intn(60)))
	case o.What == api.Loose && len(g.Ties) > 0:
		o.Tie = g.Ties[r.Intn(len(g.Ties))]
	}
	return o
}

// someCall asks for any call, and gives what it is and what comes of it.
func someCall(x *both, r *rand.Rand) (string, api.Errno) {
	id := len(x.plain.sessions) - r.Intn(3)
	if l := x.plain.ids(); len(l) > 0 && r.Intn(10) > 0 {
		id = l[r.Intn(len(l))]
	}
	switch n := r.Intn(30); {
	case n < 4:
		return "open", x.open()
	case n < 7:
		return "commit", x.commit(id)
	case n < 8:
		return "abort", x.abort(id)
	}
	g, _ := x.plain.see(id)
	return "do", x.do(id, someOp(r, g))
}

// TestLong: B1 and B2, long rows of calls from a fixed seed, against the plain telling; each call has each error that may come about so.
func TestLong(t *testing.T) {
	r := rand.New(rand.NewSource(15))
	s := plan("kind a k:int* m:int; kind b of a; bond p b a 0 2; bond q a a 0 any")
	type came struct {
		call string
		what api.Errno
	}
	seen := map[came]int{}
	for range 40 {
		x := bothOf(t, s, web("1 a k=1; 2 b k=2,m=7; 5 b k=3; p 2 1; q 5 2"))
		for range 150 {
			call, what := someCall(x, r)
			seen[came{call, what}]++
			x.testAll()
		}
	}
	for _, c := range []came{{"open", api.OK}, {"open", api.ErrFull}, {"do", api.OK}, {"do", api.ErrNone}, {"do", api.ErrRange}, {"do", api.ErrClash}, {"commit", api.OK}, {"commit", api.ErrNone}, {"commit", api.ErrLate}, {"commit", api.ErrBreak}, {"abort", api.OK}, {"abort", api.ErrNone}} {
		if seen[c] < 5 {
			t.Errorf("%s: %v came %d times alone", c.call, c.what, seen[c])
		}
	}
}
