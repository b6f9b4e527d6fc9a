package log

import (
	"fmt"
	"math"
	"math/rand"
	"slices"
	"testing"

	"kinshape/api"
	"kinshape/change"
	"kinshape/check"
	"kinshape/delta"
	"kinshape/move"
)

// plainState is what there is behind a record, and how many bytes there are then.
type plainState struct {
	schema api.Schema
	graph  api.Graph
	bytes  int
}

// plainLog tells a log sentence by sentence: it keeps what there was behind each record, and reads no bytes.
type plainLog struct {
	states  []plainState // the first one is that of New
	half    int          // bytes of a record behind them all
	safe    int          // of the states, the number of the last one that is
	fail    int          // the number of the step that stops; below 0: none
	stopped bool
}

func (p *plainLog) now() plainState { return p.states[len(p.states)-1] }

// next is what an entry makes of the state.
func (p *plainLog) next(e entry) (plainState, api.Errno) {
	now := p.now()
	if p.stopped {
		return plainState{}, api.ErrState
	}
	if e.alters {
		g, err := move.Graph(now.schema, e.change, now.graph)
		s, _ := change.Do(now.schema, e.change)
		return plainState{schema: s, graph: g}, told(err)
	}
	g, _, err := delta.All(now.graph, e.ops)
	if err != nil {
		return plainState{}, told(err)
	}
	if l, _ := check.Faults(now.schema, g); len(l) > 0 {
		return plainState{}, api.ErrBreak
	}
	return plainState{schema: now.schema, graph: g}, api.OK
}

// stop takes a step, and tells whether it stops.
func (p *plainLog) stop() bool {
	if p.fail == 0 {
		p.stopped = true
	}
	p.fail--
	return p.stopped
}

// do what an entry tells, of which the record has so many bytes.
func (p *plainLog) do(e entry, length int) api.Errno {
	next, wrong := p.next(e)
	if wrong != api.OK {
		return wrong
	}
	if p.stop() {
		p.half = (length - length%2) / 2
		return api.ErrState
	}
	next.bytes = p.now().bytes + length
	p.states = append(p.states, next)
	return api.OK
}

func (p *plainLog) sync() api.Errno {
	if p.stopped || p.stop() {
		return api.ErrState
	}
	p.safe = len(p.states) - 1
	return api.OK
}

func (p *plainLog) crash(keep int) {
	safe := p.states[p.safe].bytes
	for len(p.states)-1 > p.safe && p.now().bytes-safe > keep {
		p.states = p.states[:len(p.states)-1]
	}
	p.safe, p.half, p.fail, p.stopped = len(p.states)-1, 0, -1, false
}

// both are a log and its plain telling, of which the same is asked.
type both struct {
	t     *testing.T
	x     *Log
	plain *plainLog
	// The bytes of a record are free: how many they are is asked of a log that is told of no Fail, made anew by what is left when there was a Crash.
	measure *Log
	left    []entry
	calls   string
}

func bothOf(t *testing.T, s api.Schema) *both {
	t.Helper()
	return &both{t: t, x: made(t, s), measure: made(t, s), plain: &plainLog{states: []plainState{{schema: s}}, fail: -1}}
}

func doOn(x *Log, e entry) error {
	if e.alters {
		return x.Alter(e.change)
	}
	return x.Put(e.ops)
}

// same holds what a call answers against what is wanted, and gives the wanted back.
func (x *both) same(call string, got error, want api.Errno) api.Errno {
	x.t.Helper()
	x.calls += " " + call
	if told(got) != want {
		x.t.Fatalf("%s: got %v, want %v", x.calls, got, want)
	}
	x.testAll()
	return want
}

// testAll holds all that is there behind the calls against the plain telling.
func (x *both) testAll() {
	x.t.Helper()
	p := x.plain.now()
	want := all{p.schema, p.graph, p.bytes + x.plain.half, x.plain.states[x.plain.safe].bytes}
	if now := allOf(x.x); !now.same(want) {
		x.t.Fatalf("%s: got %v, want %v", x.calls, now, want)
	}
}

func (x *both) do(e entry) api.Errno {
	x.t.Helper()
	length := 0
	if _, wrong := x.plain.next(e); wrong == api.OK {
		before := x.measure.Bytes()
		if err := doOn(x.measure, e); err != nil {
			x.t.Fatalf("%s %v: got %v", x.calls, e, err)
		}
		length = x.measure.Bytes() - before
		x.left = append(x.left, e)
	}
	return x.same(fmt.Sprint(e), doOn(x.x, e), x.plain.do(e, length))
}

func (x *both) sync() api.Errno {
	x.t.Helper()
	return x.same("Sync", x.x.Sync(), x.plain.sync())
}

func (x *both) fail(n int) api.Errno {
	x.t.Helper()
	x.x.Fail(n)
	x.plain.fail = n
	return x.same(fmt.Sprintf("Fail(%d)", n), nil, api.OK)
}

func (x *both) crash(keep int) api.Errno {
	x.t.Helper()
	x.x.Crash(keep)
	x.plain.crash(keep)
	x.left = x.left[:len(x.plain.states)-1]
	x.measure = made(x.t, x.plain.states[0].schema)
	for _, e := range x.left {
		if err := doOn(x.measure, e); err != nil {
			x.t.Fatalf("%s %v: got %v", x.calls, e, err)
		}
	}
	return x.same(fmt.Sprintf("Crash(%d)", keep), nil, api.OK)
}

// shortCalls are asked of a log of one kind.
func shortCalls() []func(*both) api.Errno {
	puts := func(l ...api.Op) func(*both) api.Errno {
		return func(x *both) api.Errno { return x.do(entry{ops: l}) }
	}
	alters := func(c api.Change) func(*both) api.Errno {
		return func(x *both) api.Errno { return x.do(entry{alters: true, change: c}) }
	}
	fails := func(n int) func(*both) api.Errno { return func(x *both) api.Errno { return x.fail(n) } }
	crashes := func(keep int) func(*both) api.Errno { return func(x *both) api.Errno { return x.crash(keep) } }
	return []func(*both) api.Errno{
		(*both).sync, puts(), puts(newOp(node(1, "a", "-"))), puts(set(1, "k", number(1))), alters(addWith("a", field("k", api.Int), number(0))),
		fails(-1), fails(0), fails(1), crashes(0), crashes(1), crashes(30), crashes(math.MaxInt),
	}
}

// rowsUpTo has all rows of at most so many of n numbers, from 0.
func rowsUpTo(length, n int) [][]int {
	rows := [][]int{nil}
	for at := 0; len(rows[at]) < length; at++ {
		for i := range n {
			rows = append(rows, append(slices.Clone(rows[at]), i))
		}
	}
	return rows
}

// TestShort: L1 and L2, all rows of up to four of some calls, against the plain telling.
func TestShort(t *testing.T) {
	calls := shortCalls()
	seen := map[api.Errno]int{}
	for _, row := range rowsUpTo(4, len(calls)) {
		x := bothOf(t, plan("kind a"))
		for _, i := range row {
			seen[calls[i](x)]++
		}
	}
	for _, e := range []api.Errno{api.OK, api.ErrNone, api.ErrClash, api.ErrState, api.ErrBreak} {
		if seen[e] < 20 {
			t.Errorf("%v came %d times alone", e, seen[e])
		}
	}
}

func pick[T any](r *rand.Rand, l ...T) T { return l[r.Intn(len(l))] }

// someOp is any op, of which most may be done.
func someOp(r *rand.Rand, g api.Graph) api.Op {
	id := func() int {
		if len(g.Nodes) > 0 && r.Intn(5) > 0 {
			return pick(r, g.Nodes...).Id
		}
		return 1 + r.Intn(20)
	}
	name := pick(r, "k", "k", "l", "m")
	value := pick(r, number(r.Intn(60)), number(r.Intn(60)), words(pick(r, "", "u", "it's 5 ")))
	switch r.Intn(12) {
	case 0, 1, 2:
		return newOp(node(1+r.Intn(20), pick(r, "a", "b", "b", "c"), pick(r, "-", "-", fmt.Sprint("k=", r.Intn(60)))))
	case 3:
		return gone(id())
	case 4, 5, 6:
		return set(id(), name, value)
	case 7:
		return unset(id(), name)
	case 8, 9:
		return bind(pick(r, "p", "q"), id(), id())
	case 10:
		if len(g.Ties) > 0 {
			t := pick(r, g.Ties...)
			return loose(t.Bond, t.From, t.To)
		}
		return loose("p", id(), id())
	}
	return api.Op{What: pick(r, 0, 7)}
}

// someChange is any change, of which many may be done.
func someChange(r *rand.Rand) api.Change {
	kind, name := pick(r, "a", "a", "b", "c"), pick(r, "k", "l", "m")
	switch r.Intn(9) {
	case 0:
		return addKind(breed(pick(r, "b", "c", "c"), pick(r, "", "a", "a b"), field(name, api.Int)))
	case 1:
		return dropKind(pick(r, "b", "c", "c"))
	case 2:
		return addField(kind, field(name, pick(r, api.Int, api.Text)))
	case 3:
		return addWith(kind, must(field(name, api.Int)), number(r.Intn(60)))
	case 4:
		return dropField(kind, name)
	case 5:
		return addBond(bond(pick(r, "p a a", "q b a", "q a c"), pick(r, 0, 0, 1), pick(r, -1, 2)))
	case 6:
		return dropBond(pick(r, "p", "q"))
	case 7:
		return renameTo(kind, name, pick(r, "k", "l", "m"))
	}
	return setTo(pick(r, "p", "q"), pick(r, 0, 0, 1), pick(r, -1, 1, 3))
}

// someCall asks for any call, and gives what it is and what comes of it.
func someCall(x *both, r *rand.Rand) (string, api.Errno) {
	safe := x.plain.states[x.plain.safe].bytes
	switch n := r.Intn(40); {
	case n < 22:
		var l []api.Op
		g := x.plain.now().graph
		for range r.Intn(4) {
			o := someOp(r, g)
			to, err := delta.Do(g, o)
			if err == nil {
				l, g = append(l, o), to
			} else if r.Intn(10) == 0 {
				l = append(l, o)
			}
		}
		return "put", x.do(entry{ops: l})
	case n < 30:
		return "alter", x.do(entry{alters: true, change: someChange(r)})
	case n < 34:
		return "sync", x.sync()
	case n < 37:
		return "fail", x.fail(pick(r, -1, 0, 1, 2, 5, 10, math.MaxInt, math.MinInt))
	}
	return "crash", x.crash(pick(r, -1, 0, 1, r.Intn(x.x.Bytes()-safe+1), r.Intn(x.x.Bytes()-safe+1), math.MaxInt, math.MinInt))
}

// TestLong: L1 and L2, long rows of calls from a fixed seed, against the plain telling; each call has each error that may come about so.
func TestLong(t *testing.T) {
	r := rand.New(rand.NewSource(16))
	type came struct {
		call string
		what api.Errno
	}
	seen := map[came]int{}
	halves, lost := 0, 0
	for range 100 {
		x := bothOf(t, plan("kind a k:int; kind b of a; bond p a a 0 2"))
		for range 150 {
			records := len(x.plain.states)
			call, what := someCall(x, r)
			seen[came{call, what}]++
			if x.plain.half > 0 {
				halves++
			}
			lost += max(records-len(x.plain.states), 0)
		}
	}
	if halves < 100 || lost < 500 {
		t.Errorf("behind %d calls half a record stood, and %d records were lost", halves, lost)
	}
	for _, c := range []came{{"put", api.OK}, {"put", api.ErrRange}, {"put", api.ErrNone}, {"put", api.ErrClash}, {"put", api.ErrState}, {"put", api.ErrBreak}, {"alter", api.OK}, {"alter", api.ErrNone}, {"alter", api.ErrClash}, {"alter", api.ErrState}, {"alter", api.ErrBreak}, {"sync", api.OK}, {"sync", api.ErrState}} {
		if seen[c] < 20 {
			t.Errorf("%s: %v came %d times alone", c.call, c.what, seen[c])
		}
	}
}
