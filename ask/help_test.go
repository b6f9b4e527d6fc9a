package ask

import (
	"math"
	"regexp"
	"slices"
	"strings"
	"testing"

	"kinshape/api"
	"kinshape/plain"
	"kinshape/value"
)

func told(err error) api.Errno { return plain.Told(err) }

func number(n int) api.Value   { return api.Value{Type: api.Int, N: n} }
func truth(n int) api.Value    { return api.Value{Type: api.Bool, N: n} }
func words(s string) api.Value { return api.Value{Type: api.Text, S: s} }

func is(name string, v api.Value) api.Test    { return api.Test{Name: name, How: api.Is, Value: v} }
func isnt(name string, v api.Value) api.Test  { return api.Test{Name: name, How: api.Isnt, Value: v} }
func below(name string, v api.Value) api.Test { return api.Test{Name: name, How: api.Below, Value: v} }
func has(name string) api.Test                { return api.Test{Name: name, How: api.Has} }

func first(kind string, l ...api.Test) api.Step { return api.Step{Kind: kind, Tests: l} }

func over(bond, kind string, l ...api.Test) api.Step {
	return api.Step{Bond: bond, Kind: kind, Tests: l}
}

func back(bond, kind string, l ...api.Test) api.Step {
	return api.Step{Bond: bond, Back: true, Kind: kind, Tests: l}
}

func steps(l ...api.Step) []api.Step { return l }

// longWay has n steps, along a bond and back by turns.
func longWay(n int) []api.Step {
	l := steps(first("a"))
	for len(l) < n {
		l = append(l, api.Step{Bond: "p", Back: len(l)%2 == 0, Kind: "a"})
	}
	return l[:n]
}

// put has another step at a place.
func put(l []api.Step, at int, p api.Step) []api.Step {
	l = slices.Clone(l)
	l[at] = p
	return l
}

// noHows has numbers that are no How.
func noHows() []int { return []int{0, 5, -1, 6, 77, math.MaxInt, math.MinInt} }

// noNames has texts that are no names.
func noNames() []string {
	return []string{"", "A", "aB", "a1", "a ", " a", "a-b", "a\x00", "\xff", "ä", "a`", "a{", "a[", "a'", "abcdefghi", strings.Repeat("z", 1000)}
}

// someValues has values of each type, with the bounds of each, and texts of all signs that paths have, too.
func someValues() []api.Value {
	l := []api.Value{number(0), number(7), number(-7), number(1_000_000), number(-1_000_000), truth(0), truth(1)}
	for _, s := range []string{"", "v", "it's", "'", "''", "','", "']'", ",", "]", "[", "[]", "],", ",]", " ", "  a ", "]' -p-> b[x='", "a -p-> b[x=1]", "<-", "->", "=!<", "true", "7", "~\"\\", strings.Repeat("z", 20), strings.Repeat("'", 20), strings.Repeat("]", 20)} {
		l = append(l, words(s))
	}
	return l
}

type badValue struct {
	v    api.Value
	want api.Errno
}

// badValues has each error of chapter 1's Check, and what is told of several.
func badValues() []badValue {
	long := strings.Repeat("z", 21)
	return []badValue{
		{api.Value{}, api.ErrType}, {api.Value{Type: 4}, api.ErrType}, {api.Value{Type: -1, N: 2_000_000, S: "\n"}, api.ErrType}, {api.Value{N: 1}, api.ErrType}, {api.Value{S: "u"}, api.ErrType},
		{number(1_000_001), api.ErrRange}, {number(-1_000_001), api.ErrRange}, {number(math.MinInt), api.ErrRange}, {truth(2), api.ErrRange}, {truth(-1), api.ErrRange}, {api.Value{Type: api.Text, N: 1, S: long}, api.ErrRange},
		{words(long), api.ErrFull}, {words(long + "\n"), api.ErrFull},
		{words("\n"), api.ErrSyntax}, {words("a\x7f"), api.ErrSyntax}, {words("\xff"), api.ErrSyntax}, {api.Value{Type: api.Int, N: 1, S: "u"}, api.ErrSyntax}, {api.Value{Type: api.Bool, S: long}, api.ErrSyntax},
	}
}

type goodPath struct {
	l    []api.Step
	text string
}

// goodPaths has paths that are right, and their texts.
func goodPaths() []goodPath {
	eight := []api.Test{is("a", number(1)), isnt("b", truth(1)), below("c", words("x")), has("d"), is("e", words(",]")), isnt("f", number(-3)), below("g", truth(0)), has("h")}
	return []goodPath{
		{steps(first("a")), "a"},
		{steps(first("abcdefgh")), "abcdefgh"},
		{steps(first("az")), "az"},
		{steps(first("a", has("x"))), "a[x]"},
		{steps(first("a", has("abcdefgh"))), "a[abcdefgh]"},
		{steps(first("a", is("x", number(1)))), "a[x=1]"},
		{steps(first("a", isnt("x", number(1)))), "a[x!1]"},
		{steps(first("a", below("x", number(1)))), "a[x<1]"},
		{steps(first("a", below("x", number(-1)))), "a[x<-1]"},
		{steps(first("a", is("x", truth(1)))), "a[x=true]"},
		{steps(first("a", is("x", words("true")))), "a[x='true']"},
		{steps(first("a", is("x", words("it's")))), "a[x='it''s']"},
		{steps(first("a", is("x", words("]")))), "a[x=']']"},
		{steps(first("a", is("x", words("',y='")))), "a[x=''',y=''']"},
		{steps(first("a", has("x"), has("y"))), "a[x,y]"},
		{steps(first("a", has("x"), has("x"))), "a[x,x]"},
		{steps(first("b", isnt("m", words("")), is("m", number(0)))), "b[m!'',m=0]"},
		{steps(first("a", eight...)), "a[a=1,b!true,c<'x',d,e=',]',f!-3,g<false,h]"},
		{steps(first("a"), over("p", "b")), "a -p-> b"},
		{steps(first("a"), back("p", "b")), "a <-p- b"},
		{steps(first("a"), over("abcdefgh", "ijklmnop")), "a -abcdefgh-> ijklmnop"},
		{steps(first("a"), back("abcdefgh", "ijklmnop")), "a <-abcdefgh- ijklmnop"},
		{steps(first("a", has("x")), over("p", "b", has("y"))), "a[x] -p-> b[y]"},
		{steps(first("a"), over("p", "b", eight...)), "a -p-> b[a=1,b!true,c<'x',d,e=',]',f!-3,g<false,h]"},
		{steps(first("person", below("age", number(30))), over("knows", "person", is("name", words("Ann"))), back("owns", "firm")), "person[age<30] -knows-> person[name='Ann'] <-owns- firm"},
		{steps(first("a", is("x", words("] -p-> b[y='"))), over("q", "b", has("y"))), "a[x='] -p-> b[y='''] -q-> b[y]"},
		{longWay(6), "a -p-> a <-p- a -p-> a <-p- a -p-> a"},
		{steps(first("a", has("x")), back("p", "b", is("y", number(2))), back("q", "c"), over("r", "d", has("x"), has("y")), over("s", "e"), back("t", "f", isnt("z", words("u, v")))), "a[x] <-p- b[y=2] <-q- c -r-> d[x,y] -s-> e <-t- f[z!'u, v']"},
	}
}

// same tells whether two paths are: an empty list and nil are.
func same(a, b []api.Step) bool {
	return slices.EqualFunc(a, b, func(x, y api.Step) bool {
		return x.Bond == y.Bond && x.Back == y.Back && x.Kind == y.Kind && slices.Equal(x.Tests, y.Tests)
	})
}

// testPlain asks Plain for the error (OK: none), and Print for the same one.
func testPlain(t *testing.T, l []api.Step, want api.Errno) {
	t.Helper()
	if got := told(Plain(l)); got != want {
		t.Errorf("Plain(%v): got %v, want %v", l, got, want)
	}
	text, err := Print(l)
	if told(err) != want || (text == "") != (want != api.OK) {
		t.Errorf("Print(%v): got %q, %v, want %v", l, text, err, want)
	}
}

// testText asks Print for the text of a path, and Parse for the path of the text.
func testText(t *testing.T, l []api.Step, text string) {
	t.Helper()
	testPlain(t, l, api.OK)
	if got, err := Print(l); got != text || err != nil {
		t.Errorf("Print(%v): got %q, %v, want %q", l, got, err, text)
	}
	testRead(t, text, l)
}

// testRead asks Parse for the path of a text.
func testRead(t *testing.T, text string, want []api.Step) {
	t.Helper()
	if got, at, err := Parse(text); !same(got, want) || at != 0 || err != nil {
		t.Errorf("Parse(%.300q): got %v, %d, %v, want %v", text, got, at, err, want)
	}
}

// testNone asks Parse for what is wrong with a text, and where.
func testNone(t *testing.T, text string, at int, want api.Errno) {
	t.Helper()
	if got, n, err := Parse(text); len(got) != 0 || n != at || told(err) != want {
		t.Errorf("Parse(%.300q): got %v, %d, %v, want %d, %v", text, got, n, err, at, want)
	}
}

// testWrong asks Parse for ErrSyntax at a byte.
func testWrong(t *testing.T, text string, at int) {
	t.Helper()
	testNone(t, text, at, api.ErrSyntax)
}

// rule is what may stand next, and which rules may follow it.
type rule struct {
	form *regexp.Regexp
	next string
}

func form(s string) *regexp.Regexp { return regexp.MustCompile(`^(?s:` + s + `)`) }

// rules has by letters what may stand where: one more byte, a name, a value, or the end.
var rules = map[byte]rule{
	'k': {form(`[a-z]+`), "e[ "}, 'e': {form(`$`), ""}, ' ': {form(` `), "-<"},
	'-': {form(`-`), "b"}, 'b': {form(`[a-z]+`), "1"}, '1': {form(`-`), "2"}, '2': {form(`>`), "3"}, '3': {form(` `), "k"},
	'<': {form(`<`), "4"}, '4': {form(`-`), "c"}, 'c': {form(`[a-z]+`), "5"}, '5': {form(`-`), "3"},
	'[': {form(`\[`), "n"}, 'n': {form(`[a-z]+`), "=,]"}, '=': {form(`[=!<]`), "v"}, 'v': {form(`(?:[^,\]']|'[^']*(?:'|$))*`), ",]"},
	',': {form(`,`), "n"}, ']': {form(`\]`), "e "},
}

// nextRule has the first of the rules, by their letters, that a text begins by, and how many bytes it takes; 0: there is none.
func nextRule(may, text string) (letter byte, n int) {
	for i := range len(may) {
		where := rules[may[i]].form.FindStringIndex(text)
		if where == nil {
			continue
		}
		if _, err := value.Parse(text[:where[1]]); may[i] == 'v' && err != nil {
			continue
		}
		return may[i], where[1]
	}
	return 0, 0
}

// plainSyntax tells by the rules which byte of a text cannot stand there; below 0: it is one of a path, right or not.
func plainSyntax(text string) int {
	may := "k"
	for at := 0; ; {
		letter, n := nextRule(may, text[at:])
		if letter == 0 {
			return at
		}
		if letter == 'e' {
			return -1
		}
		may, at = rules[letter].next, at+n
	}
}

// plainOf tells what is wrong with the path of a text that is one, by its commas, blanks and signs: too many steps, or tests, or letters.
func plainOf(text string) api.Errno {
	var bare strings.Builder // without what is in quotes
	for i, piece := range strings.Split(text, "'") {
		if i%2 == 0 {
			bare.WriteString(piece)
		}
	}
	all := strings.Split(bare.String(), " ")
	if len(all) > 2*api.MaxSteps-1 {
		return api.ErrFull
	}
	for i := 0; i < len(all); i += 2 {
		kind, tests, _ := strings.Cut(strings.TrimSuffix(all[i], "]"), "[")
		if len(kind) > api.MaxName || i > 0 && len(strings.Trim(all[i-1], "<->")) > api.MaxName {
			return api.ErrSyntax
		}
		names := strings.Split(tests, ",")
		if len(names) > api.MaxProps {
			return api.ErrFull
		}
		for _, name := range names {
			if at := strings.IndexAny(name, "=!<"); at >= 0 {
				name = name[:at]
			}
			if len(name) > api.MaxName {
				return api.ErrSyntax
			}
		}
	}
	return api.OK
}

// testPlainly asks Parse for what is told of a text by the rules, and, if it is one of a path, Print for the text of that path. It tells whether it is one.
func testPlainly(t *testing.T, text string) bool {
	t.Helper()
	if at := plainSyntax(text); at >= 0 {
		testWrong(t, text, at)
		return false
	}
	if wrong := plainOf(text); wrong != api.OK {
		testNone(t, text, 0, wrong)
		return false
	}
	l, at, err := Parse(text)
	if at != 0 || err != nil {
		t.Errorf("Parse(%q): got %v, %d, %v", text, l, at, err)
		return true
	}
	if got, err := Print(l); got != text || err != nil {
		t.Errorf("Print(%v): got %q, %v, want %q", l, got, err, text)
	}
	return true
}
