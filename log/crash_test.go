package log

import (
	"math"
	"testing"

	"kinshape/api"
)

// recordSteps are someSteps without Sync.
func recordSteps() (l []step) {
	for _, c := range someSteps() {
		if c.name != "Sync" {
			l = append(l, c)
		}
	}
	return l
}

// behindEach is what a log answers ahead of all steps, and behind each; nothing of it is safe.
func behindEach(t *testing.T, s api.Schema, l []step) []all {
	t.Helper()
	x := made(t, s)
	states := []all{allOf(x)}
	for _, c := range l {
		testGoes(t, x, c)
		states = append(states, allOf(x))
	}
	return states
}

// lastWithin is the last state of which the bytes are no more than there are.
func lastWithin(states []all, bytes int) (last all) {
	for _, y := range states {
		if y.bytes <= bytes {
			last = y
		}
	}
	return last
}

// keepsOf has each number of bytes that may be kept of so many, and some below and beyond.
func keepsOf(bytes int) []int {
	l := []int{math.MinInt, -bytes, -1, bytes + 1, bytes + 2, 2*bytes + 10, math.MaxInt - bytes, math.MaxInt - 1, math.MaxInt}
	for keep := range bytes + 1 {
		l = append(l, keep)
	}
	return l
}

// testGoesOn asks a log, behind a Crash that left so many steps, for those that come then.
func testGoesOn(t *testing.T, x *Log, states []all, l []step) {
	t.Helper()
	left := 0
	for x.Bytes() != states[left].bytes {
		left++
	}
	safe := x.Safe()
	for i := left; i < min(left+2, len(l)); i++ {
		testGoes(t, x, l[i])
		want := states[i+1]
		want.safe = safe
		testNow(t, x, want)
	}
}

// TestCrash: L2, behind a Sync of any of the first steps, and without one, each number of bytes is kept: what is safe, and what the first of the others make whole; it goes on from there.
func TestCrash(t *testing.T) {
	l := recordSteps()
	states := behindEach(t, someSchema(), l)
	for synced := range len(l) + 1 {
		safe := states[synced].bytes
		for _, keep := range keepsOf(states[len(l)].bytes - safe) {
			x := played(t, someSchema(), l[:synced]...)
			testGoes(t, x, sync())
			for _, c := range l[synced:] {
				testGoes(t, x, c)
			}
			want := lastWithin(states, min(safe+min(max(keep, 0), 1<<40), states[len(l)].bytes))
			testCrashes(t, x, keep, want)
			testGoesOn(t, x, states, l)
		}
	}
}

// TestCrashStopped: L2, behind a stop at each record, and each number of bytes kept: half a record is none; and behind a stop at a Sync, which made nothing safe.
func TestCrashStopped(t *testing.T) {
	l := recordSteps()
	states := behindEach(t, someSchema(), l)
	for at, stop := range l {
		half := (states[at+1].bytes - states[at].bytes) / 2
		for _, synced := range []int{0, at / 2, at} {
			safe := states[synced].bytes
			for _, keep := range keepsOf(states[at].bytes + half - safe) {
				x := played(t, someSchema(), l[:synced]...)
				testGoes(t, x, sync())
				for _, c := range l[synced:at] {
					testGoes(t, x, c)
				}
				// The step that stops is the next one, and all steps behind it are refused.
				x.Fail(0)
				if err := stop.call(x); told(err) != api.ErrState || x.Bytes() != states[at].bytes+half {
					t.Fatalf("%s: got %v, there are %d bytes", stop.name, err, x.Bytes())
				}
				testNo(t, x, sync(), api.ErrState)
				testCrashes(t, x, keep, lastWithin(states[:at+1], min(safe+min(max(keep, 0), 1<<40), states[at].bytes)))
				testGoesOn(t, x, states, l)
			}
		}
		x := played(t, someSchema(), l[:at]...)
		x.Fail(0)
		testStops(t, x, sync(), 0)
		testCrashes(t, x, states[at].bytes-1, lastWithin(states[:at+1], max(states[at].bytes-1, 0)))
	}
}

// TestCrashHalf: L2, of a record that stops short nothing comes, though all bytes are kept; what is done then stands in its place.
func TestCrashHalf(t *testing.T) {
	s := plan("kind a k:int")
	x := played(t, s, put(newOp(node(1, "a", "-"))))
	at := allOf(x)
	for i := range 10 {
		x.Fail(0)
		testStops(t, x, put(set(1, "k", number(1000+i))), halfOf(t, s, []step{put(newOp(node(1, "a", "-")))}, put(set(1, "k", number(1000+i)))))
		testCrashes(t, x, math.MaxInt, at)
		at.safe = at.bytes
	}
	testGoesTo(t, x, put(set(1, "k", number(7))), s, web("1 a k=7"))
	testCrashes(t, x, math.MaxInt, all{s, web("1 a k=7"), x.Bytes(), 0})
}

// TestCrashEmpty: L2, of a log without records nothing is another than before, however much is kept.
func TestCrashEmpty(t *testing.T) {
	for _, s := range []api.Schema{{}, someSchema()} {
		x := made(t, s)
		for _, keep := range keepsOf(3) {
			testCrashes(t, x, keep, all{schema: s})
		}
		x.Fail(0)
		testStops(t, x, sync(), 0)
		testCrashes(t, x, 5, all{schema: s})
		testGoes(t, x, alter(addKind(breed("e", ""))))
		testCrashes(t, x, 0, all{schema: s})
	}
}

// TestCrashTwice: L2, what a Crash left is safe: the next one, at once or behind other steps, loses none of it.
func TestCrashTwice(t *testing.T) {
	l := recordSteps()
	states := behindEach(t, someSchema(), l)
	end := states[len(l)].bytes
	for first := 0; first <= end+7; first += 7 {
		for second := 0; second <= end+20; second += 20 {
			x := played(t, someSchema(), l...)
			left := lastWithin(states, first)
			testCrashes(t, x, first, left)
			for _, keep := range []int{0, -1, second, math.MaxInt} {
				testCrashes(t, x, keep, left)
			}
			// The steps that were lost are done again.
			for at, c := range l {
				if states[at].bytes >= left.bytes {
					testGoes(t, x, c)
				}
			}
			testCrashes(t, x, second, lastWithin(states, left.bytes+second))
			testCrashes(t, x, 0, lastWithin(states, left.bytes+second))
		}
	}
}

// TestCrashSchema: L2, the schema that is left is the one that the records make that are left, by which what comes then is asked.
func TestCrashSchema(t *testing.T) {
	s := plan("kind a k:int")
	x := played(t, s, put(newOp(node(1, "a", "k=1"))), sync(), alter(dropField("a", "k")), put(newOp(node(2, "a", "-"))))
	testIs(t, x, plan("kind a"), web("1 a -; 2 a -"))
	testNo(t, x, put(set(2, "k", number(2))), api.ErrBreak)
	x.Crash(0)
	testIs(t, x, s, web("1 a k=1"))
	testNo(t, x, put(set(2, "k", number(2))), api.ErrNone)
	testGoesTo(t, x, put(set(1, "k", number(2))), s, web("1 a k=2"))
	testGoesTo(t, x, alter(renameTo("a", "k", "l")), plan("kind a l:int"), web("1 a l=2"))
	testNo(t, x, alter(dropField("a", "k")), api.ErrNone)
	testCrashes(t, x, math.MaxInt, all{plan("kind a l:int"), web("1 a l=2"), x.Bytes(), 0})
}

// TestCrashValues: L2, each value that a record may have, and each number and name, comes back as it was.
func TestCrashValues(t *testing.T) {
	s := plan("kind abcdefgh k:int m:text x:bool; bond abcdefgh abcdefgh abcdefgh 0 any")
	x := made(t, s)
	var texts []string
	for b := range 256 {
		texts = append(texts, string([]byte{byte(b)}), "u"+string([]byte{byte(b)})+"12 3 ")
	}
	goes := 0
	for _, text := range append(texts, "", " ", "  ", "0 ", "20 characters, that.", "'", "1000000") {
		n := api.Node{Id: 1000, Kind: "abcdefgh", Record: api.Record{prop("k", number(1_000_000)), prop("m", words(text)), prop("x", truth(1))}}
		if err := x.Put(ops(newOp(n), bind("abcdefgh", 1000, 1000))); err != nil {
			continue
		}
		goes++
		want := all{s, api.Graph{Nodes: []api.Node{n}, Ties: []api.Tie{tie("abcdefgh", 1000, 1000)}}, x.Bytes(), 0}
		testNow(t, x, all{want.schema, want.graph, x.Bytes(), x.Safe()})
		testCrashes(t, x, math.MaxInt, want)
		n.Record = api.Record{prop("k", number(-1_000_000)), prop("m", words(text)), prop("x", truth(0))}
		testGoes(t, x, put(set(1000, "k", number(-1_000_000)), set(1000, "x", truth(0)), loose("abcdefgh", 1000, 1000)))
		testCrashes(t, x, math.MaxInt, all{s, api.Graph{Nodes: []api.Node{n}}, x.Bytes(), 0})
		testGoes(t, x, put(gone(1000)))
	}
	if goes < 100 {
		t.Errorf("%d texts alone can be put", goes)
	}
	testCrashes(t, x, math.MaxInt, all{s, api.Graph{}, x.Bytes(), 0})
}
