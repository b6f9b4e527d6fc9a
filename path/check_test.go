package path

import (
	"slices"
	"strings"
	"testing"

	"kinshape/api"
)

// rightPath has n steps from a to a.
func rightPath(n int) []api.Step {
	l := steps(first("a"))
	for len(l) < n {
		l = append(l, over("u", "a"))
	}
	return l[:n]
}

// put has another step at a place.
func put(l []api.Step, at int, p api.Step) []api.Step {
	l = slices.Clone(l)
	l[at] = p
	return l
}

type badTest struct {
	t    api.Test
	want api.Errno
}

// badTests has each error of a test of the kind a, by each How, and one that is none.
func badTests() (l []badTest) {
	for _, how := range append(noHows(), api.Is, api.Isnt, api.Below, api.Has) {
		for _, name := range []string{"", "K", "k ", "k1", "abcdefghi", "k\x00"} {
			l = append(l, badTest{api.Test{Name: name, How: how, Value: number(1)}, api.ErrSyntax}, badTest{api.Test{Name: name, How: how}, api.ErrSyntax})
		}
		for _, name := range []string{"zz", "x", "y", "a", "kk", "abcdefgh"} {
			l = append(l, badTest{api.Test{Name: name, How: how, Value: number(1)}, api.ErrNone}, badTest{api.Test{Name: name, How: how}, api.ErrNone})
		}
	}
	for _, how := range noHows() {
		for _, v := range []api.Value{{}, number(1), words("u"), truth(2), {Type: 77, N: -1, S: "\n"}} {
			l = append(l, badTest{api.Test{Name: "k", How: how, Value: v}, api.ErrRange})
		}
	}
	for _, how := range []int{api.Is, api.Isnt, api.Below} {
		for _, w := range wrongValues() {
			l = append(l, badTest{api.Test{Name: "k", How: how, Value: w.v}, w.want}, badTest{api.Test{Name: "m", How: how, Value: w.v}, w.want})
		}
		for _, v := range []api.Value{truth(0), truth(1), words(""), words("1")} {
			l = append(l, badTest{api.Test{Name: "k", How: how, Value: v}, api.ErrType})
		}
		for _, v := range []api.Value{number(0), number(1), truth(0), truth(1)} {
			l = append(l, badTest{api.Test{Name: "m", How: how, Value: v}, api.ErrType})
		}
	}
	for _, v := range []api.Value{number(0), number(1), words(""), words("u"), truth(0), {N: 1}, {N: -1}, {S: "u"}, {Type: 4}, {Type: -1, N: 7, S: "\n"}, words(strings.Repeat("z", 21))} {
		l = append(l, badTest{api.Test{Name: "k", How: api.Has, Value: v}, api.ErrShape}, badTest{api.Test{Name: "m", How: api.Has, Value: v}, api.ErrShape})
	}
	return l
}

// rightTests has tests of the kind a, with each How and each field of it.
func rightTests() []api.Test {
	return []api.Test{is("k", number(-1_000_000)), isnt("k", number(0)), below("k", number(1_000_000)), has("k"), is("m", words("")), isnt("m", words("u")), below("m", words(strings.Repeat("z", 20))), has("m")}
}

type badStep struct {
	p    api.Step
	want api.Errno
}

// badTested has steps that are wrong by their tests alone: too many, and each error of one at the first, a middle and the last place.
func badTested(p api.Step) (l []badStep) {
	tested := func(t ...api.Test) api.Step {
		p.Tests = t
		return p
	}
	l = append(l, badStep{tested(append(rightTests(), has("k"))...), api.ErrFull}, badStep{tested(make([]api.Test, 9)...), api.ErrFull}, badStep{tested(make([]api.Test, 100)...), api.ErrFull})
	for i, b := range badTests() {
		all := rightTests()
		all[[]int{0, 3, 7}[i%3]] = b.t
		l = append(l, badStep{tested(b.t), b.want}, badStep{tested(has("m"), b.t, has("k")), b.want}, badStep{tested(all...), b.want})
	}
	return l
}

// badFirsts has each error of a first step.
func badFirsts() []badStep {
	l := []badStep{
		{first("zz"), api.ErrNone}, {first(""), api.ErrNone}, {first("A"), api.ErrNone}, {first("u"), api.ErrNone}, {first("abcdefghi"), api.ErrNone},
		{over("u", "a"), api.ErrShape}, {over("zz", "a"), api.ErrShape}, {over("\n", "a"), api.ErrShape}, {back("", "a"), api.ErrShape}, {back("u", "a"), api.ErrShape}, {back("zz", "a"), api.ErrShape},
	}
	return append(l, badTested(first("a"))...)
}

// badNexts has each error of a step behind one of the kind a.
func badNexts() []badStep {
	l := []badStep{
		{over("u", "zz"), api.ErrNone}, {over("u", ""), api.ErrNone}, {back("u", "A"), api.ErrNone}, {over("u", "p"), api.ErrNone},
		{over("zz", "a"), api.ErrNone}, {back("zz", "a"), api.ErrNone}, {first("a"), api.ErrNone}, {back("", "a"), api.ErrNone}, {over("U", "a"), api.ErrNone}, {over("a", "a"), api.ErrNone}, {back("abcdefghi", "a"), api.ErrNone},
		{over("q", "b"), api.ErrType}, {over("r", "d"), api.ErrType}, {back("p", "a"), api.ErrType}, {back("q", "b"), api.ErrType}, {back("r", "c"), api.ErrType},
		{over("u", "c"), api.ErrType}, {over("u", "e"), api.ErrType}, {over("p", "a"), api.ErrType}, {over("p", "b"), api.ErrType}, {back("u", "c"), api.ErrType}, {back("u", "e"), api.ErrType},
	}
	return slices.Concat(l, badTested(over("u", "a")), badTested(back("u", "a")))
}

// TestCheckSchemaFirst: P1, chapter 4's error at 0, whatever the path is.
func TestCheckSchemaFirst(t *testing.T) {
	for _, c := range badSchemas() {
		for _, l := range [][]api.Step{nil, {}, steps(first("a")), rightPath(6), rightPath(7), steps(first("zz")), steps(over("u", "a")), steps(first("a"), over("zz", "a")), make([]api.Step, 7), steps(first("a"), first("a", api.Test{}))} {
			testWrong(t, c.s, l, 0, c.want)
		}
	}
}

// TestCheckNoSteps: P1, ErrNone at 0, with the empty schema, too.
func TestCheckNoSteps(t *testing.T) {
	for _, s := range []api.Schema{{}, someSchema()} {
		testWrong(t, s, nil, 0, api.ErrNone)
		testWrong(t, s, []api.Step{}, 0, api.ErrNone)
	}
	testWrong(t, api.Schema{}, steps(first("a")), 0, api.ErrNone)
	testWrong(t, api.Schema{}, steps(first("")), 0, api.ErrNone)
}

// TestCheckMaxSteps: P1, as many steps as may be, and more, which is told at 0 and ahead of what is wrong with a step.
func TestCheckMaxSteps(t *testing.T) {
	s := someSchema()
	for n := 1; n <= 6; n++ {
		testRight(t, s, rightPath(n))
	}
	for _, n := range []int{7, 8, 100} {
		testWrong(t, s, rightPath(n), 0, api.ErrFull)
		testWrong(t, s, make([]api.Step, n), 0, api.ErrFull)
		testWrong(t, api.Schema{}, rightPath(n), 0, api.ErrFull)
		testWrong(t, s, put(rightPath(n), n-1, over("zz", "zz")), 0, api.ErrFull)
	}
}

// TestCheckStep: P1, each error of a step, at each place of paths of each length; of tests, of which there are many, all in short paths, and some in each longer one.
func TestCheckStep(t *testing.T) {
	s := someSchema()
	for n := 1; n <= 6; n++ {
		for i, b := range badFirsts() {
			if i < 20 || n == 1 || i%29 == n {
				testWrong(t, s, put(rightPath(n), 0, b.p), 0, b.want)
			}
		}
		for at := 1; at < n; at++ {
			for i, b := range badNexts() {
				if i < 30 || n == 2 || i%29 == at+n {
					testWrong(t, s, put(rightPath(n), at, b.p), at, b.want)
				}
			}
		}
	}
}

// TestCheckFirstOfSteps: P1, of several steps that are wrong the first one is told.
func TestCheckFirstOfSteps(t *testing.T) {
	s := someSchema()
	firsts, nexts := badFirsts(), badNexts()
	for i, b := range nexts[:40] {
		other := nexts[(i*37+11)%len(nexts)]
		for at := 1; at < 5; at++ {
			testWrong(t, s, put(put(rightPath(6), 5, other.p), at, b.p), at, b.want)
		}
		ahead := firsts[(i*53+5)%len(firsts)]
		testWrong(t, s, put(put(rightPath(6), 5, b.p), 0, ahead.p), 0, ahead.want)
	}
}

// part is a part of a step, and what is wrong with it.
type part struct {
	spoil func(p *api.Step)
	want  api.Errno
}

// firstWrong is that of the first part that is wrong.
func firstWrong(l ...part) api.Errno {
	for _, x := range l {
		if x.want != api.OK {
			return x.want
		}
	}
	return api.OK
}

// testParts asks for what is wrong with a step that is made of each choice of parts, in the order of the chapter.
func testParts(t *testing.T, p api.Step, kinds, ways, tests []part, at int) {
	t.Helper()
	s := someSchema()
	for _, kind := range kinds {
		for _, way := range ways {
			for _, test := range tests {
				one := p
				kind.spoil(&one)
				way.spoil(&one)
				test.spoil(&one)
				l := put(rightPath(at+1), at, one)
				if wrong := firstWrong(kind, way, test); wrong != api.OK {
					testWrong(t, s, l, at, wrong)
				} else {
					testRight(t, s, l)
				}
			}
		}
	}
}

// TestCheckOrder: P1, of several errors of one step the one that is named first is told: the kind, the way, how many tests, the tests.
func TestCheckOrder(t *testing.T) {
	kind := func(name string, want api.Errno) part { return part{func(p *api.Step) { p.Kind = name }, want} }
	way := func(bond string, back bool, want api.Errno) part {
		return part{func(p *api.Step) { p.Bond, p.Back = bond, back }, want}
	}
	test := func(want api.Errno, l ...api.Test) part { return part{func(p *api.Step) { p.Tests = l }, want} }
	kinds := []part{kind("a", api.OK), kind("b", api.OK), kind("zz", api.ErrNone), kind("", api.ErrNone)}
	tests := []part{test(api.OK), test(api.OK, rightTests()...), test(api.ErrFull, make([]api.Test, 9)...), test(api.ErrFull, append(rightTests(), has("zz"))...), test(api.ErrSyntax, is("K", number(1))), test(api.ErrRange, has("k"), is("k", number(1_000_001))), test(api.ErrShape, api.Test{Name: "k", How: api.Has, Value: number(1)}), test(api.ErrNone, has("y"), has("K")), test(api.ErrType, is("k", words("u")), has("zz"))}
	firsts := []part{way("", false, api.OK), way("u", false, api.ErrShape), way("", true, api.ErrShape), way("zz", true, api.ErrShape)}
	nexts := []part{way("u", false, api.OK), way("u", true, api.OK), way("zz", false, api.ErrNone), way("", true, api.ErrNone), way("q", false, api.ErrType), way("p", true, api.ErrType)}
	testParts(t, first("a"), kinds, firsts, tests, 0)
	for at := 1; at < 6; at++ {
		testParts(t, over("u", "a"), kinds, nexts, tests, at)
	}
	// A kind that is one, but not of the bond's end: behind the bond, and ahead of the tests.
	s := someSchema()
	testWrong(t, s, steps(first("a"), over("zz", "e", make([]api.Test, 9)...)), 1, api.ErrNone)
	testWrong(t, s, steps(first("a"), over("u", "e", make([]api.Test, 9)...)), 1, api.ErrType)
	testWrong(t, s, steps(first("a"), over("u", "e", has("K"))), 1, api.ErrType)
}

// under has the kinds of someSchema that are a kind, or come of it.
func under(kind string) string {
	switch kind {
	case "a":
		return "abd"
	case "b":
		return "bd"
	case "c":
		return "cd"
	}
	return kind
}

// TestCheckKin: P1, each bond, along it and back, between each two kinds: both are to be kin of its ends.
func TestCheckKin(t *testing.T) {
	s := someSchema()
	right := 0
	for _, b := range s.Bonds {
		for _, x := range "abcde" {
			for _, y := range "abcde" {
				ahead, own := string(x), string(y)
				along := strings.Contains(under(b.From), ahead) && strings.Contains(under(b.To), own)
				against := strings.Contains(under(b.To), ahead) && strings.Contains(under(b.From), own)
				for _, c := range []struct {
					p  api.Step
					is bool
				}{{over(b.Name, own), along}, {back(b.Name, own), against}} {
					if c.is {
						right++
						testRight(t, s, steps(first(ahead), c.p))
					} else {
						testWrong(t, s, steps(first(ahead), c.p), 1, api.ErrType)
					}
				}
			}
		}
	}
	// p: 3 by 2, q: 2 by 2, r: 2 by 1, u: 3 by 3, each both ways.
	if right != 2*(6+4+2+9) {
		t.Errorf("%d steps are right", right)
	}
}

// TestCheckAhead: P1, it is the kind of the step ahead that is asked, not another step's, and not what the bond ahead leads to.
func TestCheckAhead(t *testing.T) {
	s := someSchema()
	testRight(t, s, steps(first("a"), over("u", "b"), over("q", "d"), over("p", "c"), over("r", "d"), back("q", "b")))
	testRight(t, s, steps(first("d"), over("u", "a"), over("p", "d"), over("q", "b"), back("u", "d"), back("r", "c")))
	testRight(t, s, steps(first("c"), back("p", "b"), over("q", "b"), back("q", "d"), back("p", "a")))
	testWrong(t, s, steps(first("b"), over("u", "a"), over("q", "b")), 2, api.ErrType)
	testWrong(t, s, steps(first("a"), over("u", "b"), over("u", "a"), over("q", "b")), 3, api.ErrType)
	testWrong(t, s, steps(first("a"), over("q", "b"), over("q", "b")), 1, api.ErrType)
	testWrong(t, s, steps(first("d"), back("r", "c"), over("p", "c")), 2, api.ErrType)
	testWrong(t, s, steps(first("c"), over("r", "d"), over("r", "c")), 2, api.ErrType)
	testWrong(t, s, steps(first("e"), over("u", "a")), 1, api.ErrType)
}

// TestCheckTests: P1, as many tests as may be, of each field that a kind has, its kin's, too, and more than once; and those of a field that other kinds alone have.
func TestCheckTests(t *testing.T) {
	s := someSchema()
	testRight(t, s, steps(first("a", rightTests()...)))
	testRight(t, s, steps(first("a"), over("u", "a", rightTests()...), back("u", "b", rightTests()...)))
	many := slices.Repeat([]api.Test{is("k", number(1))}, 9)
	testRight(t, s, steps(first("a", many[:8]...)))
	testWrong(t, s, steps(first("a", many...)), 0, api.ErrFull)
	testRight(t, s, steps(first("d", has("k"), has("m"), has("x"), has("y"), is("y", number(3)), isnt("x", truth(0)), below("m", words("u")), below("x", truth(1)))))
	testRight(t, s, steps(first("b", has("x"), has("k"))))
	testWrong(t, s, steps(first("b", has("x"), has("y"))), 0, api.ErrNone)
	testWrong(t, s, steps(first("c", has("y"), has("k"))), 0, api.ErrNone)
	testWrong(t, s, steps(first("e", has("k"))), 0, api.ErrNone)
	// The fields are those of the step's own kind, not of the one ahead, nor of the bond's end.
	testRight(t, s, steps(first("a"), over("p", "d", has("x"), has("y"))))
	testWrong(t, s, steps(first("a"), over("p", "c", has("k"))), 1, api.ErrNone)
	testWrong(t, s, steps(first("b"), over("u", "a", has("x"))), 1, api.ErrNone)
	// Of one name in several kinds, each with a type of its own.
	other := plan("kind a k:int\nkind b k:text\nbond p a b 0 any\n")
	testRight(t, other, steps(first("a", is("k", number(1))), over("p", "b", is("k", words("1")))))
	testWrong(t, other, steps(first("a", is("k", number(1))), over("p", "b", is("k", number(1)))), 1, api.ErrType)
	testWrong(t, other, steps(first("a", is("k", words("1")))), 0, api.ErrType)
}

// TestCheckFirstOfTests: P1, of several tests that are wrong the first one is told.
func TestCheckFirstOfTests(t *testing.T) {
	s := someSchema()
	all := badTests()
	for i, b := range all {
		other := all[(i*41+17)%len(all)]
		testWrong(t, s, steps(first("a", b.t, other.t)), 0, b.want)
		testWrong(t, s, steps(first("a"), back("u", "a", has("k"), b.t, other.t)), 1, b.want)
	}
}

// TestType: P1, the kind of the last step, not of another one, nor the bond's.
func TestType(t *testing.T) {
	for _, c := range []struct {
		l    []api.Step
		want string
	}{
		{steps(first("a")), "a"},
		{steps(first("e")), "e"},
		{steps(first("d", has("y"))), "d"},
		{steps(first("a"), over("p", "c")), "c"},
		{steps(first("a"), over("p", "d")), "d"},
		{steps(first("c"), back("p", "b")), "b"},
		{steps(first("a"), over("u", "d"), back("r", "c")), "c"},
		{steps(first("a"), over("u", "b"), over("q", "d"), over("p", "c"), over("r", "d"), back("q", "b")), "b"},
	} {
		if got, err := Type(someSchema(), c.l); got != c.want || err != nil {
			t.Errorf("Type(%v): got %q, %v, want %q", c.l, got, err, c.want)
		}
	}
}

// someSteps has steps of each kind, over each bond, both ways, with some tests.
func someSteps(tests ...[]api.Test) (l []api.Step) {
	for _, kind := range []string{"a", "b", "c", "d", "e", "zz"} {
		for _, bond := range []string{"", "p", "q", "r", "u", "zz"} {
			for _, one := range tests {
				l = append(l, over(bond, kind, one...), back(bond, kind, one...))
			}
		}
	}
	return l
}

// TestCheckAll: P1, all of some first steps, pairs and threes of steps, against the plain telling.
func TestCheckAll(t *testing.T) {
	s := someSchema()
	few := someSteps(nil)
	many := someSteps(nil, []api.Test{is("k", number(1))}, []api.Test{has("x"), below("y", number(3))}, []api.Test{isnt("m", words("u")), {Name: "k", How: 5}}, make([]api.Test, 9))
	right := 0
	for _, one := range many {
		testCheckPlainly(t, s, steps(one))
	}
	for _, one := range few {
		for _, two := range many {
			l := steps(one, two)
			testCheckPlainly(t, s, l)
			if _, wrong := plainCheck(s, l); wrong != api.OK {
				continue
			}
			for _, three := range few {
				testCheckPlainly(t, s, append(l, three))
				if _, wrong := plainCheck(s, append(l, three)); wrong == api.OK {
					right++
				}
			}
		}
	}
	if right < 300 {
		t.Errorf("only %d threes of steps are right", right)
	}
}
