package path

import (
	"slices"
	"strings"
	"testing"

	"kinshape/api"
)

// testPasses asks Passes.
func testPasses(t *testing.T, r api.Record, x api.Test, want bool) {
	t.Helper()
	if got, err := Passes(r, x); got != want || err != nil {
		t.Errorf("Passes(%v, %v): got %v, %v, want %v", r, x, got, err, want)
	}
}

// testFails asks Passes for an error, with which nothing else comes.
func testFails(t *testing.T, r api.Record, x api.Test, want api.Errno) {
	t.Helper()
	if got, err := Passes(r, x); got || told(err) != want {
		t.Errorf("Passes(%v, %v): got %v, %v, want %v", r, x, got, err, want)
	}
}

// hows has a name's tests: Is, Isnt, Below, in their order.
func hows(name string, v api.Value) []api.Test {
	return []api.Test{is(name, v), isnt(name, v), below(name, v)}
}

// TestPasses: P2, each How with a prop that is there, with a value that is the same, ahead and behind, and of another type; and with one that is not there.
func TestPasses(t *testing.T) {
	r := made("k=5,m='bb',x=true,y=false")
	for _, c := range []struct {
		name              string
		v                 api.Value
		same, other, less bool
	}{
		{"k", number(5), true, false, false},
		{"k", number(6), false, true, true},
		{"k", number(1_000_000), false, true, true},
		{"k", number(4), false, true, false},
		{"k", number(-5), false, true, false},
		{"k", words("5"), false, true, false},
		{"k", words("z"), false, true, false},
		{"k", words(""), false, true, false},
		{"k", truth(1), false, true, false},
		{"k", truth(0), false, true, false},
		{"m", words("bb"), true, false, false},
		{"m", words("c"), false, true, true},
		{"m", words("bbb"), false, true, true},
		{"m", words("b"), false, true, false},
		{"m", words("BB"), false, true, false},
		{"m", words(""), false, true, false},
		{"m", number(0), false, true, false},
		{"m", number(1_000_000), false, true, false},
		{"m", truth(1), false, true, false},
		{"x", truth(1), true, false, false},
		{"x", truth(0), false, true, false},
		{"x", number(1), false, true, false},
		{"x", number(2), false, true, false},
		{"x", words("true"), false, true, false},
		{"y", truth(0), true, false, false},
		{"y", truth(1), false, true, true},
		{"y", number(0), false, true, false},
		{"y", number(1), false, true, false},
		{"y", words(""), false, true, false},
		{"y", words("z"), false, true, false},
		{"a", number(5), false, false, false},
		{"kk", number(6), false, false, false},
		{"l", words("z"), false, false, false},
		{"z", truth(1), false, false, false},
	} {
		testPasses(t, r, is(c.name, c.v), c.same)
		testPasses(t, r, isnt(c.name, c.v), c.other)
		testPasses(t, r, below(c.name, c.v), c.less)
	}
}

// TestPassesHas: P2, whatever the value is, what is there has it, and what is not there has not.
func TestPassesHas(t *testing.T) {
	r := made("k=0,m='',x=false")
	for _, name := range []string{"k", "m", "x"} {
		testPasses(t, r, has(name), true)
	}
	for _, name := range []string{"a", "kk", "l", "z", "abcdefgh"} {
		testPasses(t, r, has(name), false)
	}
	full := made("a=1,b=2,c=3,d=4,e=5,f=6,g=7,h=8")
	for n, p := range full {
		testPasses(t, full, has(p.Name), true)
		testPasses(t, full, is(p.Name, number(n+1)), true)
		testPasses(t, full, is(p.Name, number(n+2)), false)
	}
	testPasses(t, full, has("i"), false)
	for _, empty := range []api.Record{nil, {}} {
		testPasses(t, empty, has("k"), false)
		for _, x := range hows("k", number(0)) {
			testPasses(t, empty, x, false)
		}
	}
}

// TestPassesAll: P2, each How, of each value that a prop has with each one that is asked for, against the plain telling.
func TestPassesAll(t *testing.T) {
	values := []api.Value{number(-1_000_000), number(-1), number(0), number(1), number(2), number(10), number(1_000_000), truth(0), truth(1), words(""), words(" "), words("'"), words("1"), words("10"), words("2"), words("A"), words("a"), words("aa"), words("ab"), words("b"), words("false"), words(strings.Repeat("z", 20)), words("~")}
	for _, v := range values {
		r := api.Record{prop("a", number(7)), prop("k", v), prop("z", words("z"))}
		for _, asked := range values {
			for _, name := range []string{"k", "a", "z", "b"} {
				for _, x := range hows(name, asked) {
					testPasses(t, r, x, plainPasses(r, x))
				}
			}
			testPasses(t, r, is("k", asked), v == asked)
			testPasses(t, r, isnt("k", asked), v != asked)
		}
		for i, asked := range values[:7] {
			testPasses(t, r, below("k", asked), slices.Contains(values[:i], v))
		}
		for i, asked := range values[9:] {
			testPasses(t, r, below("k", asked), slices.Contains(values[9:9+i], v))
		}
	}
}

// TestPassesErrors: P2, each error: the record's, the name's, How, and the value's by each How; and which one comes first.
func TestPassesErrors(t *testing.T) {
	right := []api.Record{nil, made("k=1"), made("m='u',x=true")}
	allHows := append(noHows(), api.Is, api.Isnt, api.Below, api.Has)
	values := []api.Value{{}, number(1), words("u"), truth(2), {Type: 9, N: 9, S: "\n"}}
	for _, how := range allHows {
		for _, v := range values {
			for _, name := range []string{"k", "zz", "", "K"} {
				for _, b := range badRecords() {
					testFails(t, b.r, api.Test{Name: name, How: how, Value: v}, b.want)
				}
			}
			for _, name := range []string{"", "K", "abcdefghi", "k=", "k\n", "é"} {
				for _, r := range right {
					testFails(t, r, api.Test{Name: name, How: how, Value: v}, api.ErrSyntax)
				}
			}
		}
	}
	for _, name := range []string{"k", "zz"} {
		for _, r := range right {
			testFailsBehindName(t, r, name, values)
		}
	}
}

// testFailsBehindName asks for what is wrong with How and the value, of a prop that is there or not.
func testFailsBehindName(t *testing.T, r api.Record, name string, values []api.Value) {
	t.Helper()
	for _, how := range noHows() {
		for _, v := range values {
			testFails(t, r, api.Test{Name: name, How: how, Value: v}, api.ErrRange)
		}
	}
	for _, w := range wrongValues() {
		for _, x := range hows(name, w.v) {
			testFails(t, r, x, w.want)
		}
	}
	for _, v := range []api.Value{number(0), number(1), truth(0), words(""), words("u"), {N: 1}, {N: -1}, {S: "u"}, {Type: 4}, {Type: -1}, words(strings.Repeat("z", 21))} {
		testFails(t, r, api.Test{Name: name, How: api.Has, Value: v}, api.ErrShape)
	}
}
