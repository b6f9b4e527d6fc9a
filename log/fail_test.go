package log

import (
	"math"
	"slices"
	"strings"
	"testing"

	"kinshape/api"
)

// someSteps go one behind the other with someSchema, of all kinds.
func someSteps() []step {
	return []step{
		put(making(someGraph())...), sync(), put(), alter(addWith("a", field("l", api.Int), number(7))), put(set(1, "l", number(8)), gone(4)), sync(), sync(),
		alter(addKind(breed("e", "c"))), put(newOp(node(3, "e", "-"))), alter(dropBond("p")), put(unset(2, "m")), sync(), alter(renameTo("a", "k", "n")), put(set(5, "n", number(50))),
	}
}

// wrongSteps have errors at each place of someSteps.
func wrongSteps() []step {
	return []step{put(gone(500)), put(newOp(node(7, "zz", "-"))), put(make([]api.Op, 41)...), alter(api.Change{}), alter(dropKind("c")), alter(addBond(bond("w c c", 1, 1)))}
}

// wrongs are the errors of wrongSteps behind the first of someSteps.
func wrongs() []api.Errno {
	return []api.Errno{api.ErrNone, api.ErrBreak, api.ErrFull, api.ErrRange, api.ErrState, api.ErrBreak}
}

// testWrongs asks steps for their errors, behind which all is as it was.
func testWrongs(t *testing.T, x *Log) {
	t.Helper()
	for i, c := range wrongSteps() {
		testNo(t, x, c, wrongs()[i])
	}
}

// halfOf what a step brings: of a record half the bytes, rounded down, of a Sync none.
func halfOf(t *testing.T, s api.Schema, ahead []step, c step) int {
	t.Helper()
	if c.name == "Sync" {
		return 0
	}
	return lengthOf(t, s, ahead, c) / 2
}

// TestSync: L1, behind it all that is there is safe, and nothing else is another; also of nothing, and again.
func TestSync(t *testing.T) {
	x := made(t, someSchema())
	testGoes(t, x, sync())
	testSafe(t, x, 0)
	at := 0
	for _, c := range someSteps() {
		testGoes(t, x, c)
		if c.name != "Sync" && x.Safe() != at {
			t.Errorf("%s: %d bytes are safe, before %d", c.name, x.Safe(), at)
		}
		testGoes(t, x, sync())
		at = x.Bytes()
		testSafe(t, x, at)
		testGoes(t, x, sync())
		testSafe(t, x, at)
	}
}

// TestSyncStopped: L1, ErrState, when it has stopped, at a record or at a Sync.
func TestSyncStopped(t *testing.T) {
	for _, c := range []step{put(gone(1000)), alter(dropBond("p")), sync()} {
		x := filled(t)
		half := halfOf(t, someSchema(), []step{put(making(someGraph())...)}, c)
		x.Fail(0)
		testStops(t, x, c, half)
		testNo(t, x, sync(), api.ErrState)
		if x.Safe() != 0 {
			t.Errorf("%s: %d bytes are safe", c.name, x.Safe())
		}
	}
}

// TestFail: L1, it stops at the step that was told, the next one, and each behind it; what has an error is none.
func TestFail(t *testing.T) {
	steps := someSteps()
	for ahead := range steps {
		for n := range len(steps) - ahead {
			x := played(t, someSchema(), steps[:ahead]...)
			x.Fail(n)
			for _, c := range steps[ahead : ahead+n] {
				testGoes(t, x, c)
			}
			at := ahead + n
			testStops(t, x, steps[at], halfOf(t, someSchema(), steps[:at], steps[at]))
		}
	}
}

// TestFailWrong: L1, what has an error is no step: it is told as if nothing were to fail, also where the next step is to.
func TestFailWrong(t *testing.T) {
	steps := someSteps()
	for n := 1; n < len(steps); n++ {
		x := made(t, someSchema())
		x.Fail(n)
		for _, c := range steps[:n] {
			testGoes(t, x, c)
			testWrongs(t, x)
			testWrongs(t, x)
		}
		testStops(t, x, steps[n], halfOf(t, someSchema(), steps[:n], steps[n]))
	}
}

// TestFailNever: L1, below 0 it never stops; nor does it, if nothing is told.
func TestFailNever(t *testing.T) {
	for _, n := range []int{-1, -2, -14, math.MinInt, math.MinInt + 1} {
		x, other := made(t, someSchema()), played(t, someSchema(), someSteps()...)
		x.Fail(n)
		for _, c := range someSteps() {
			testGoes(t, x, c)
		}
		testNow(t, x, allOf(other))
		for range 100 {
			testGoes(t, x, put())
			testGoes(t, x, sync())
			testGoes(t, other, put())
			testGoes(t, other, sync())
		}
		testNow(t, x, allOf(other))
	}
	x := made(t, someSchema())
	x.Fail(math.MaxInt)
	for _, c := range someSteps() {
		testGoes(t, x, c)
	}
}

// TestFailMore: L1, a hundred steps ahead.
func TestFailMore(t *testing.T) {
	x := made(t, someSchema())
	x.Fail(100)
	for range 50 {
		testGoes(t, x, put())
		testGoes(t, x, sync())
	}
	testStops(t, x, put(), lengthOf(t, someSchema(), nil, put())/2)
}

// TestFailHalf: L1, of a record half the bytes, rounded down, are there: of records of even and of odd length, short and long ones.
func TestFailHalf(t *testing.T) {
	s := plan("kind a m:text; kind b of a; bond p a a 0 any")
	ahead := []step{put(newOp(node(1, "a", "-")), newOp(node(2, "b", "-")))}
	steps := []step{put(), alter(dropBond("p")), alter(dropField("a", "m")), alter(addKind(breed("c", "a b")))}
	for n := range api.MaxText + 1 {
		steps = append(steps, put(set(1, "m", words(strings.Repeat("u", n)))), put(slices.Repeat(ops(set(2, "m", words(strings.Repeat("v", n)))), n)...), alter(addWith("b", field("n", api.Text), words(strings.Repeat("w", n)))))
	}
	even, odd := 0, 0
	for _, c := range steps {
		length := lengthOf(t, s, ahead, c)
		if length%2 == 0 {
			even++
		} else {
			odd++
		}
		for _, safe := range []bool{false, true} {
			x := played(t, s, ahead...)
			if safe {
				testGoes(t, x, sync())
			}
			x.Fail(0)
			testStops(t, x, c, length/2)
		}
	}
	if even < 10 || odd < 10 {
		t.Errorf("%d records of even length, %d of odd length", even, odd)
	}
}

// TestFailAgain: L1, a new one takes the place of the one ahead, sooner or later than that, or never.
func TestFailAgain(t *testing.T) {
	s := someSchema()
	half := lengthOf(t, s, nil, put()) / 2
	for _, first := range []int{-1, 0, 1, 2, 5, math.MaxInt} {
		for _, next := range []int{-1, 0, 1, 2, 5} {
			for done := range min(first+1, 3) {
				x := made(t, s)
				x.Fail(first)
				for range done {
					testGoes(t, x, sync())
				}
				x.Fail(next)
				for range next {
					testGoes(t, x, put())
				}
				if next >= 0 {
					testStops(t, x, put(), half)
					continue
				}
				for range 10 {
					testGoes(t, x, put())
				}
			}
		}
	}
	x := made(t, s)
	for n := range 20 {
		x.Fail(n % 3)
	}
	x.Fail(1)
	testGoes(t, x, put())
	testStops(t, x, sync(), 0)
}

// TestFailStopped: L1, one that is told while it has stopped changes nothing: it goes on by Crash alone, which forgets that one, too.
func TestFailStopped(t *testing.T) {
	for _, c := range []step{put(gone(1000)), alter(dropBond("p")), sync()} {
		for _, l := range [][]int{{-1}, {0}, {1}, {5}, {math.MaxInt}, {math.MinInt}, {0, -1}, {-1, 0}, {3, 0, 1}} {
			x := filled(t)
			at := allOf(x)
			x.Fail(0)
			testStops(t, x, c, halfOf(t, someSchema(), []step{put(making(someGraph())...)}, c))
			for _, n := range l {
				x.Fail(n)
				testStopped(t, x)
			}
			testCrashes(t, x, math.MaxInt, at)
			for range 10 {
				testGoes(t, x, put())
			}
			testGoes(t, x, c)
		}
	}
}

// TestFailCrash: L2, what Fail said is forgotten, whether it stopped or not; one that is told then counts from there.
func TestFailCrash(t *testing.T) {
	for first := range 4 {
		for next := range 4 {
			x := made(t, someSchema())
			x.Fail(first)
			for i := range 3 {
				if err := x.Sync(); (err == nil) != (i < first) {
					t.Errorf("Fail(%d): Sync %d: got %v", first, i, err)
				}
			}
			testCrashes(t, x, 0, all{schema: someSchema()})
			for range 5 {
				testGoes(t, x, sync())
			}
			x.Fail(next)
			for range next {
				testGoes(t, x, sync())
			}
			testStops(t, x, sync(), 0)
		}
	}
}
