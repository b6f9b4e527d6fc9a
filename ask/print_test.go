package ask

import (
	"strings"
	"testing"

	"kinshape/api"
	"kinshape/value"
)

// TestPrint: A2, texts by hand, there and back.
func TestPrint(t *testing.T) {
	for _, c := range goodPaths() {
		testText(t, c.l, c.text)
	}
}

// TestPrintSteps: A2, each length, along a bond and back at each place.
func TestPrintSteps(t *testing.T) {
	for n := 1; n <= 6; n++ {
		for ways := range 1 << (n - 1) {
			l, text := steps(first("a")), "a"
			for at := 1; at < n; at++ {
				bond, kind := string(rune('p'+at)), string(rune('a'+at))
				if ways>>(at-1)&1 == 0 {
					l, text = append(l, over(bond, kind)), text+" -"+bond+"-> "+kind
				} else {
					l, text = append(l, back(bond, kind)), text+" <-"+bond+"- "+kind
				}
			}
			testText(t, l, text)
		}
	}
}

// TestPrintTests: A2, no tests, one, and up to MaxProps, in each step of a path.
func TestPrintTests(t *testing.T) {
	all := "[k=-1000000,k!0,k<true,k,m='',m!'u',m<'zzzzzzzzzzzzzzzzzzzz',m]"
	for n := range 9 {
		text := ""
		if n > 0 {
			text = strings.Join(strings.Split(strings.TrimSuffix(all, "]"), ",")[:n], ",") + "]"
		}
		tests := eightTests()[:n]
		testText(t, steps(first("a", tests...)), "a"+text)
		testText(t, steps(first("a"), back("p", "b", tests...)), "a <-p- b"+text)
		testText(t, steps(first("a", tests...), over("p", "b", tests...), over("q", "c"), back("r", "d", tests...)), "a"+text+" -p-> b"+text+" -q-> c <-r- d"+text)
	}
}

// TestPrintValues: A2, each How with values of each type, which stand as chapter 1 prints them.
func TestPrintValues(t *testing.T) {
	for _, v := range someValues() {
		text, err := value.Print(v)
		if err != nil {
			t.Fatalf("Print(%v): %v", v, err)
		}
		testText(t, steps(first("a", is("x", v))), "a[x="+text+"]")
		testText(t, steps(first("a", isnt("x", v))), "a[x!"+text+"]")
		testText(t, steps(first("a", below("x", v))), "a[x<"+text+"]")
		testText(t, steps(first("a", has("x"), is("y", v), isnt("z", v)), back("p", "b", below("x", v), has("y"))), "a[x,y="+text+",z!"+text+"] <-p- b[x<"+text+",y]")
	}
}

// TestPrintSigns: A2, each byte that a text may have, alone and beside others that mean something in a path.
func TestPrintSigns(t *testing.T) {
	for c := 32; c <= 126; c++ {
		sign := string(rune(c))
		written := strings.ReplaceAll(sign, "'", "''")
		testText(t, steps(first("a", is("x", words(sign)))), "a[x='"+written+"']")
		testText(t, steps(first("a", is("x", words(sign+",]"+sign)), has("y"))), "a[x='"+written+",]"+written+"',y]")
		testText(t, steps(first("a", isnt("x", words("'"+sign+"'"))), over("p", "b")), "a[x!'''"+written+"'''] -p-> b")
	}
}

// TestThereAndBack: A2, paths of each choice of some parts: what is printed is read as it was.
func TestThereAndBack(t *testing.T) {
	var tests [][]api.Test
	for i, v := range someValues() {
		tests = append(tests, eightTests()[:i%9], []api.Test{is("x", v)}, []api.Test{has("y"), below("zz", v), isnt("y", v)})
	}
	seen := map[string]bool{}
	n := 0
	for i, one := range tests {
		for j, two := range tests {
			l := steps(first("ab", one...), api.Step{Bond: "p", Back: i%2 == 0, Kind: "c", Tests: two}, api.Step{Bond: "qrs", Back: j%2 == 0, Kind: "abcdefgh", Tests: tests[(i+j)%len(tests)]})
			text, err := Print(l[:1+(i+j)%3])
			if err != nil {
				t.Fatalf("Print(%v): %v", l, err)
			}
			testRead(t, text, l[:1+(i+j)%3])
			testPlainly(t, text)
			seen[text] = true
			n++
		}
	}
	if len(seen) < n/2 {
		t.Errorf("of %d paths, %d texts are different", n, len(seen))
	}
}
