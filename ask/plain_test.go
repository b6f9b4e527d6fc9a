package ask

import (
	"slices"
	"strings"
	"testing"

	"kinshape/api"
)

// eightTests has as many tests as may be, with each How.
func eightTests() []api.Test {
	return []api.Test{is("k", number(-1_000_000)), isnt("k", number(0)), below("k", truth(1)), has("k"), is("m", words("")), isnt("m", words("u")), below("m", words(strings.Repeat("z", 20))), has("m")}
}

type badTest struct {
	t    api.Test
	want api.Errno
}

// badTests has each error of a test, by each How and ones that are none, and what is told of several.
func badTests() (l []badTest) {
	add := func(name string, how int, v api.Value, want api.Errno) {
		l = append(l, badTest{api.Test{Name: name, How: how, Value: v}, want})
	}
	hows := []int{api.Is, api.Isnt, api.Below}
	for _, how := range slices.Concat(hows, []int{api.Has}, noHows()) {
		for _, name := range noNames() {
			add(name, how, number(1), api.ErrSyntax)
			add(name, how, api.Value{}, api.ErrSyntax)
			add(name, how, number(1_000_001), api.ErrSyntax)
		}
	}
	for _, how := range noHows() {
		for _, v := range append(someValues(), api.Value{}) {
			add("k", how, v, api.ErrRange)
		}
		for _, b := range badValues() {
			add("k", how, b.v, api.ErrRange)
		}
	}
	for _, v := range someValues() {
		add("k", api.Has, v, api.ErrShape)
	}
	for _, b := range badValues() {
		for _, how := range hows {
			add("k", how, b.v, b.want)
		}
		if b.v != (api.Value{}) {
			add("k", api.Has, b.v, api.ErrShape)
		}
	}
	return l
}

type badStep struct {
	p    api.Step
	want api.Errno
}

// badSteps has each error of a step that comes from another one (first: from none) but those of a single test, and what is told of several.
func badSteps(isFirst bool) (l []badStep) {
	right := over("p", "a")
	if isFirst {
		right = first("a")
	}
	add := func(want api.Errno, spoil func(p *api.Step)) {
		p := right
		spoil(&p)
		l = append(l, badStep{p, want})
	}
	nine := append(eightTests(), has("x"))
	for _, name := range noNames() {
		add(api.ErrSyntax, func(p *api.Step) { p.Kind = name })
		add(api.ErrSyntax, func(p *api.Step) { p.Kind, p.Bond, p.Back, p.Tests = name, "P", true, nine })
		add(api.ErrSyntax, func(p *api.Step) { p.Kind, p.Tests = name, []api.Test{{Name: "k", How: 5}} })
		if isFirst && name != "" {
			add(api.ErrShape, func(p *api.Step) { p.Bond = name })
		}
		if !isFirst {
			add(api.ErrSyntax, func(p *api.Step) { p.Bond = name })
			add(api.ErrSyntax, func(p *api.Step) { p.Bond, p.Back = name, true })
			add(api.ErrSyntax, func(p *api.Step) { p.Bond, p.Tests = name, nine })
			add(api.ErrSyntax, func(p *api.Step) { p.Bond, p.Tests = name, []api.Test{{Name: "k", How: 5}} })
		}
	}
	if isFirst {
		add(api.ErrShape, func(p *api.Step) { p.Bond = "p" })
		add(api.ErrShape, func(p *api.Step) { p.Back = true })
		add(api.ErrShape, func(p *api.Step) { p.Bond, p.Back = "p", true })
		add(api.ErrShape, func(p *api.Step) { p.Bond, p.Tests = "p", nine })
		add(api.ErrShape, func(p *api.Step) { p.Back, p.Tests = true, []api.Test{has("K")} })
	}
	add(api.ErrFull, func(p *api.Step) { p.Tests = nine })
	for _, n := range []int{9, 10, 100} {
		add(api.ErrFull, func(p *api.Step) { p.Tests = make([]api.Test, n) })
	}
	add(api.ErrFull, func(p *api.Step) { p.Tests = append([]api.Test{has("K")}, eightTests()...) })
	return l
}

// TestPlainRight: A1, paths in which nothing is wrong: each length, each number of tests, each How with each value.
func TestPlainRight(t *testing.T) {
	for _, c := range goodPaths() {
		testPlain(t, c.l, api.OK)
	}
	for n := 1; n <= 6; n++ {
		testPlain(t, longWay(n), api.OK)
	}
	for n := range 9 {
		testPlain(t, steps(first("a", eightTests()[:n]...)), api.OK)
		testPlain(t, put(longWay(6), 3, back("p", "b", eightTests()[:n]...)), api.OK)
	}
	for _, v := range someValues() {
		testPlain(t, steps(first("a", is("k", v), isnt("k", v), below("k", v))), api.OK)
		testPlain(t, put(longWay(3), 2, over("p", "a", is("k", v), isnt("k", v), below("k", v))), api.OK)
	}
}

// TestPlainByItself: A1, a path is asked by itself: whether a schema has its kinds, bonds and fields, and whether they go together, is not told.
func TestPlainByItself(t *testing.T) {
	testPlain(t, steps(first("true"), over("of", "kind", has("any")), back("kind", "bond", is("bond", words("x")), is("bond", number(1)))), api.OK)
	testPlain(t, steps(first("zz", has("zz")), over("zz", "zz", has("zz"), has("zz"))), api.OK)
}

// TestPlainNone: A1, no steps.
func TestPlainNone(t *testing.T) {
	testPlain(t, nil, api.ErrNone)
	testPlain(t, []api.Step{}, api.ErrNone)
	testPlain(t, longWay(6)[:0], api.ErrNone)
}

// TestPlainFull: A1, more than MaxSteps, whatever else is wrong.
func TestPlainFull(t *testing.T) {
	for _, n := range []int{7, 8, 100} {
		testPlain(t, longWay(n), api.ErrFull)
		testPlain(t, make([]api.Step, n), api.ErrFull)
		for _, at := range []int{0, 3, n - 1} {
			testPlain(t, put(longWay(n), at, over("P", "A", make([]api.Test, 9)...)), api.ErrFull)
			testPlain(t, put(longWay(n), at, first("a", has("K"))), api.ErrFull)
		}
	}
}

// TestPlainStep: A1, each error of a step, at each place of paths of each length.
func TestPlainStep(t *testing.T) {
	for n := 1; n <= 6; n++ {
		for at := range n {
			for _, b := range badSteps(at == 0) {
				testPlain(t, put(longWay(n), at, b.p), b.want)
			}
		}
	}
}

// TestPlainNextWithoutBond: A1, a next step has a bond, whether it is Back or not.
func TestPlainNextWithoutBond(t *testing.T) {
	for at := 1; at < 6; at++ {
		testPlain(t, put(longWay(6), at, first("a")), api.ErrSyntax)
		testPlain(t, put(longWay(6), at, back("", "a")), api.ErrSyntax)
		testPlain(t, put(longWay(6), at, first("a", eightTests()...)), api.ErrSyntax)
	}
}

// TestPlainFirstOfSteps: A1, of several steps that are wrong the first one is told.
func TestPlainFirstOfSteps(t *testing.T) {
	firsts, nexts := badSteps(true), badSteps(false)
	for i, b := range nexts {
		other := nexts[(i*7+len(nexts)-2)%len(nexts)]
		for at := 1; at < 5; at++ {
			testPlain(t, put(put(longWay(6), 5, other.p), at, b.p), b.want)
			testPlain(t, put(put(longWay(6), at+1, other.p), at, b.p), b.want)
		}
		for _, ahead := range firsts {
			testPlain(t, steps(ahead.p, b.p), ahead.want)
		}
	}
	// A test of a step is told ahead of the next step's kind.
	testPlain(t, steps(first("a", is("k", number(1_000_001))), over("p", "A")), api.ErrRange)
	testPlain(t, steps(first("a", has("k"), is("k", truth(0)), is("k", api.Value{})), over("", "a")), api.ErrType)
	testPlain(t, steps(first("a", eightTests()...), over("p", "a", make([]api.Test, 9)...), over("p", "A")), api.ErrFull)
}

// TestPlainTest: A1, each error of a test, at the first, a middle and the last place, in the first, a middle and the last step.
func TestPlainTest(t *testing.T) {
	for i, b := range badTests() {
		all := eightTests()
		all[[]int{0, 3, 7}[i%3]] = b.t
		testPlain(t, steps(first("a", b.t)), b.want)
		testPlain(t, steps(first("a", all...)), b.want)
		testPlain(t, put(longWay(6), 0, first("a", b.t)), b.want)
		testPlain(t, put(longWay(6), 3, back("p", "a", has("m"), b.t, has("k"))), b.want)
		testPlain(t, put(longWay(6), 5, over("p", "a", all...)), b.want)
	}
}

// TestPlainFirstOfTests: A1, of several tests that are wrong the first one is told.
func TestPlainFirstOfTests(t *testing.T) {
	all := badTests()
	for i, b := range all {
		other := all[(i*41+17)%len(all)]
		testPlain(t, steps(first("a", b.t, other.t)), b.want)
		testPlain(t, steps(first("a"), back("p", "a", has("k"), b.t, other.t)), b.want)
		testPlain(t, steps(first("a", b.t), back("p", "a", other.t)), b.want)
	}
}
