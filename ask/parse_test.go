package ask

import (
	"math/rand"
	"strings"
	"testing"

	"kinshape/api"
)

// TestParse: A2, the path of each text that Print has, and the text again.
func TestParse(t *testing.T) {
	for _, c := range goodPaths() {
		testRead(t, c.text, c.l)
		if !testPlainly(t, c.text) {
			t.Errorf("%q is none of a path by the rules", c.text)
		}
	}
}

// TestParseEmpty: A2, the empty text is none of a path, and ends too early.
func TestParseEmpty(t *testing.T) {
	testWrong(t, "", 0)
}

// TestParseBeginnings: A2, each beginning of a text by hand: a path, or how many bytes it has, or the first byte of a value that cannot be read yet.
func TestParseBeginnings(t *testing.T) {
	const right = -1
	for _, c := range []struct {
		text string
		at   []int
	}{
		{"ab -pq-> c", []int{0, right, right, 3, 4, 5, 6, 7, 8, 9, right}},
		{"ab <-pq- c", []int{0, right, right, 3, 4, 5, 6, 7, 8, 9, right}},
		{"a[x,yz]", []int{0, right, 2, 3, 4, 5, 6, right}},
		{"a[x=12] -p-> b", []int{0, right, 2, 3, 4, 5, 6, right, 8, 9, 10, 11, 12, 13, right}},
		// -, and letters of true that are not all, are no values.
		{"a[x<-1,y]", []int{0, right, 2, 3, 4, 4, 6, 7, 8, right}},
		{"a[x!true]", []int{0, right, 2, 3, 4, 4, 4, 4, 8, right}},
		// A quote that has not ended is in no value; one that has ended may be doubled yet.
		{"a[x='']", []int{0, right, 2, 3, 4, 4, 6, right}},
		{"a[x='b']", []int{0, right, 2, 3, 4, 4, 4, 7, right}},
		{"a[x='b''c']", []int{0, right, 2, 3, 4, 4, 4, 7, 4, 4, 10, right}},
		{"a[x='],',y=']']", []int{0, right, 2, 3, 4, 4, 4, 4, 8, 9, 10, 11, 11, 11, 14, right}},
	} {
		if len(c.at) != len(c.text)+1 {
			t.Fatalf("%q: %d numbers", c.text, len(c.at))
		}
		for n, at := range c.at {
			if at == right {
				if l, at, err := Parse(c.text[:n]); len(l) == 0 || at != 0 || err != nil {
					t.Errorf("Parse(%q): got %v, %d, %v", c.text[:n], l, at, err)
				}
			} else {
				testWrong(t, c.text[:n], at)
			}
			testPlainly(t, c.text[:n])
		}
	}
	for _, c := range goodPaths() {
		for n := range len(c.text) {
			testPlainly(t, c.text[:n])
		}
	}
}

// TestParseLeftOut: A2, texts with each byte left out, doubled, or with each other one in its place, or ahead of it, against the rules.
func TestParseLeftOut(t *testing.T) {
	right, wrong := 0, 0
	count := func(text string) {
		if testPlainly(t, text) {
			right++
		} else {
			wrong++
		}
	}
	for _, c := range goodPaths() {
		for at := range len(c.text) {
			ahead, behind := c.text[:at], c.text[at+1:]
			count(ahead + behind)
			count(ahead + c.text[at:at+1] + c.text[at:])
			for other := range 256 {
				count(ahead + string([]byte{byte(other)}) + behind)
				count(ahead + string([]byte{byte(other)}) + c.text[at:])
			}
		}
		for other := range 256 {
			count(c.text + string([]byte{byte(other)}))
		}
	}
	if right < 10_000 || wrong < 100_000 {
		t.Errorf("%d are right, %d wrong", right, wrong)
	}
}

// TestParseByHand: A2, each place of a text, and a byte that cannot stand there.
func TestParseByHand(t *testing.T) {
	for _, c := range []struct {
		text string
		at   int
	}{
		// Where a kind is to stand.
		{" ", 0}, {" a", 0}, {"A", 0}, {"1", 0}, {"[", 0}, {"[x]", 0}, {"-p-> a", 0}, {"<-p- a", 0}, {"\n", 0}, {"\x00", 0}, {"\xff", 0}, {"ä", 0}, {"`", 0}, {"{", 0}, {"'a'", 0},
		{"a -p->  b", 7}, {"a -p-> B", 7}, {"a -p-> [x]", 7}, {"a -p-> -q-> b", 7}, {"a <-p-  b", 7}, {"a <-p- <-q- b", 7}, {"a -p-> \n", 7},
		// Behind a kind.
		{"aB", 1}, {"a1", 1}, {"ab\n", 2}, {"a,b", 1}, {"a]", 1}, {"a=1", 1}, {"a-p-> b", 1}, {"a<-p- b", 1}, {"a'", 1}, {"a\x00", 1}, {"a`", 1}, {"a{", 1}, {"aä", 1}, {"a -p-> b]", 8}, {"a -p-> b-", 8},
		// Behind a blank.
		{"a ", 2}, {"a  ", 2}, {"a b", 2}, {"a  -p-> b", 2}, {"a [x]", 2}, {"a >-p- b", 2}, {"a =", 2}, {"a -p-> b ", 9}, {"a -p-> b c", 9},
		// In an arrow.
		{"a --> b", 3}, {"a ->", 3}, {"a - p-> b", 3}, {"a -P-> b", 3}, {"a -1-> b", 3}, {"a <p- b", 3}, {"a <--", 4}, {"a <- p- b", 4}, {"a <-P- b", 4}, {"a <<-p- b", 3},
		{"a -p b", 4}, {"a -p> b", 4}, {"a -pQ-> b", 4}, {"a -p--> b", 5}, {"a -p- b", 5}, {"a -p-b", 5}, {"a -p->b", 6}, {"a -p->> b", 6}, {"a -p->", 6}, {"a -p->\tb", 6},
		{"a <-p b", 5}, {"a <-p> b", 5}, {"a <-p-> b", 6}, {"a <-p-b", 6}, {"a <-p-- b", 6}, {"a <-p-", 6},
		// Where a test's name is to stand.
		{"a[]", 2}, {"a[,x]", 2}, {"a[=1]", 2}, {"a[ x]", 2}, {"a[X]", 2}, {"a[1]", 2}, {"a['x']", 2}, {"a[[x]]", 2}, {"a[x,]", 4}, {"a[x,,y]", 4}, {"a[x, y]", 4}, {"a[x=1,]", 6}, {"a[x=1,Y]", 6}, {"a[x='',=1]", 7},
		// Behind it.
		{"a[x ]", 3}, {"a[xY]", 3}, {"a[x1]", 3}, {"a[x>1]", 3}, {"a[x'']", 3}, {"a[x:1]", 3}, {"a[x[", 3}, {"a[x -p-> b", 3}, {"a[x=1,y ]", 7},
		// Behind the tests.
		{"a[x]]", 4}, {"a[x][y]", 4}, {"a[x]b", 4}, {"a[x],", 4}, {"a[x]-p-> b", 4}, {"a[x] ", 5}, {"a[x]  ", 5}, {"a[x]\n", 4}, {"a[x=1]]", 6}, {"a[x=']']']", 8},
	} {
		testWrong(t, c.text, c.at)
		testPlainly(t, c.text)
		// The same, with more of a path ahead.
		if !strings.HasPrefix(c.text, "a") {
			continue
		}
		ahead := "c[y='] -p-> a',z] <-q- "
		testWrong(t, ahead+c.text, len(ahead)+c.at)
	}
}

// TestParseNames: A2, a name has as many letters as there are: too many are told by Plain, at 0.
func TestParseNames(t *testing.T) {
	for _, name := range []string{"abcdefghi", "abcdefghijklmnopqrstuvwxyz", strings.Repeat("z", 1000)} {
		for _, text := range []string{name, "a[" + name + "]", "a[x," + name + "=1]", "a -" + name + "-> b", "a <-" + name + "- b", "a -p-> " + name, "a -p-> " + name + "[x]", "a -p-> b[" + name + "!'']", "a[x] -p-> b <-q- c[y," + name + "]"} {
			testNone(t, text, 0, api.ErrSyntax)
			// What cannot stand there is told ahead of that.
			testWrong(t, text+" ", len(text)+1)
			testWrong(t, text+"?", len(text))
			testWrong(t, text+" -p-> b[x=]", len(text)+10)
			testPlainly(t, text)
		}
	}
	testRead(t, "abcdefgh -abcdefgh-> abcdefgh[abcdefgh]", steps(first("abcdefgh"), over("abcdefgh", "abcdefgh", has("abcdefgh"))))
	for _, c := range []byte("az") {
		name := string([]byte{c})
		testRead(t, name+"["+name+"] <-"+name+"- "+name, steps(first(name, has(name)), back(name, name)))
	}
}

// unreadable has words that chapter 1 cannot read, without a comma or a bracket that would end them.
func unreadable() []string {
	return []string{"", " ", "-", "--1", "+1", "01", "-0", "-01", "00", "1 ", " 1", "1.", "1e3", "0x1", "1_0", "1000001", "-1000001", "999999999", "1000000000", "-9999999999999999999999", "tru", "True", "truefalse", "true ", "FALSE", "x", "[", "[x", "=1", "!1", "<1", "=", "\n", "\x00", "\xff", "\"x\"",
		"x'a'", "'a'b", "'a' ", " 'a'", "'a'b'c'", "'a''b'c", "''a", "'" + strings.Repeat("z", 21) + "'", "'" + strings.Repeat("'", 42) + "'", "'a\n'", "'\x7f'", "'\xff'", "'ä'", "',]' ", "=',]'", "' ] -p-> b'c"}
}

// TestParseValues: A2, a value that chapter 1 cannot read, whatever error it has, is told by its first byte, by each How and at each place.
func TestParseValues(t *testing.T) {
	for _, word := range unreadable() {
		for _, sign := range []string{"=", "!", "<"} {
			for _, ahead := range []string{"a[x", "a[x,y", "a[x='],',y", "a -p-> b[x", "a[x=1] <-p- b[y!true,z<'',x"} {
				for _, behind := range []string{"", "]", ",y]", ",", "]]", ",y='] -p-> c", ",Y]", "] -p-> c"} {
					testWrong(t, ahead+sign+word+behind, len(ahead)+1)
				}
			}
		}
		testPlainly(t, "a[x="+word+"]")
		testPlainly(t, "a[x="+word)
	}
}

// TestParseOpenQuotes: A2, quotes that do not end take all that is behind them into the value: it is its first byte that is told.
func TestParseOpenQuotes(t *testing.T) {
	for _, word := range []string{"'", "'v", "'v''", "'''", "'v]", "'v,y]", "',", "']", "']]", "',y=1]", "'] -p-> b", "'v''] -p-> b[x=1]", "''''']", "'a'b'", "1'", "1']", "true',y]"} {
		for _, ahead := range []string{"a[x=", "a[x!", "a[x<", "a[y,x=", "a[y='v',x=", "a -p-> b[x="} {
			text := ahead + word
			testWrong(t, text, len(ahead))
			testPlainly(t, text)
		}
	}
}

// TestParseCuts: A2, `,` and `]` end a value but in quotes, wherever these begin.
func TestParseCuts(t *testing.T) {
	testRead(t, "a[x=1,y]", steps(first("a", is("x", number(1)), has("y"))))
	testRead(t, "a[x='1,y']", steps(first("a", is("x", words("1,y")))))
	testRead(t, "a[x='1]',y]", steps(first("a", is("x", words("1]")), has("y"))))
	testRead(t, "a[x='''],''',y=']']", steps(first("a", is("x", words("'],'")), is("y", words("]")))))
	testRead(t, "a[x='1''],']", steps(first("a", is("x", words("1'],")))))
	testRead(t, "a[x=''] -p-> b[y='']", steps(first("a", is("x", words(""))), over("p", "b", is("y", words("")))))
	testRead(t, "a[x='] -p-> b[y=']", steps(first("a", is("x", words("] -p-> b[y=")))))
	testRead(t, "a[x!']',y<','] <-p- b[z]", steps(first("a", isnt("x", words("]")), below("y", words(","))), back("p", "b", has("z"))))
	testWrong(t, "a[x=1],y]", 6)
	testWrong(t, "a[x='1'],y]", 8)
	testWrong(t, "a[x='1',']", 8)
	testWrong(t, "a[x=1',']", 4)
	testWrong(t, "a[x=1']'2]", 4)
	testWrong(t, "a[x='1'],']", 8)
	testWrong(t, "a[x=,]", 4)
	testWrong(t, "a[x=]", 4)
	testWrong(t, "a[x=]]", 4)
	// A quote where no value is begins nothing.
	testWrong(t, "a[x,'y']", 4)
	testWrong(t, "a'[x]'", 1)
}

// manySteps has a text of n steps, each with a text of tests.
func manySteps(n int, tests string) string {
	return strings.TrimSuffix(strings.Repeat("a"+tests+" -p-> ", n), " -p-> ")
}

// manyTests has a text of n tests.
func manyTests(n int) string {
	return "[" + strings.TrimSuffix(strings.Repeat("x=1,", n), ",") + "]"
}

// TestParseTooMany: A2, more than MaxSteps steps, and more than MaxProps tests, are told by Plain, at 0, but behind what cannot stand there.
func TestParseTooMany(t *testing.T) {
	for _, n := range []int{1, 5, 6, 7, 8, 13, 1000} {
		text, tested := manySteps(n, ""), manySteps(n, manyTests(8))
		if n <= 6 {
			testPlainly(t, text)
			testPlainly(t, tested)
			if l, _, _ := Parse(tested); len(l) != n || len(l[n-1].Tests) != 8 {
				t.Errorf("Parse(%q): got %v", tested, l)
			}
		} else {
			testNone(t, text, 0, api.ErrFull)
			testNone(t, tested, 0, api.ErrFull)
			// Ahead of what is wrong with a step.
			testNone(t, text+" -abcdefghi-> a", 0, api.ErrFull)
			testNone(t, "abcdefghi -p-> "+text, 0, api.ErrFull)
			testNone(t, "a[abcdefghi]"+text[1:], 0, api.ErrFull)
		}
		testWrong(t, text+" ", len(text)+1)
		testWrong(t, text+" -p-> ", len(text)+6)
		testWrong(t, text+"[x=]", len(text)+3)
		testWrong(t, text+"[x=1'", len(text)+3)
	}
	for _, n := range []int{9, 10, 17, 1000} {
		text := manyTests(n)
		testNone(t, "a"+text, 0, api.ErrFull)
		testNone(t, "a -p-> a"+text, 0, api.ErrFull)
		testNone(t, manySteps(6, text), 0, api.ErrFull)
		testNone(t, manySteps(5, "")+" <-p- b"+text, 0, api.ErrFull)
		testWrong(t, "a"+text+"]", 1+len(text))
		testWrong(t, "a"+text[:len(text)-1], len(text))
		testWrong(t, "a"+text[:len(text)-1]+",y=']", 4+len(text)-1)
	}
}

// TestParseSeveral: A2 and A1, of several things that are wrong with a text: the first byte that cannot stand there, wherever it is; else what Plain names first.
func TestParseSeveral(t *testing.T) {
	nine, long := manyTests(9), "abcdefghi"
	for _, c := range []struct {
		text string
		want api.Errno
	}{
		{long + nine, api.ErrSyntax}, {"a" + nine + " -" + long + "-> a", api.ErrFull}, {"a -" + long + "-> a" + nine, api.ErrSyntax}, {"a[" + long + ",x] -p-> a" + nine, api.ErrSyntax},
		{"a[" + long + "," + nine[1:], api.ErrFull}, {"a" + nine + " -p-> " + long, api.ErrFull}, {"a -p-> " + long + " -p-> a" + nine, api.ErrSyntax},
		{long + nine + " -p-> " + manySteps(6, nine), api.ErrFull}, {manySteps(6, nine) + " -p-> " + long, api.ErrFull},
	} {
		testNone(t, c.text, 0, c.want)
		testPlainly(t, c.text)
		testWrong(t, c.text+"!", len(c.text))
		testWrong(t, c.text+" <-p- a[x=1000001,y='] -p-> a", len(c.text)+10)
		testWrong(t, "A"+c.text, 0)
	}
	testWrong(t, "a[x=1000001,Y=2] b", 4)
	testWrong(t, "a[X=1000001] b", 2)
	testWrong(t, "a b[x=']", 2)
	testWrong(t, "a[x='] b", 4)
	testWrong(t, "a[x=-] -p-> b ", 4)
}

// TestParseLong: P1 of DOC.md, long texts of one thing end, and are told as short ones are.
func TestParseLong(t *testing.T) {
	const n = 1_000_000
	testNone(t, strings.Repeat("a", n), 0, api.ErrSyntax)
	testWrong(t, strings.Repeat("a", n)+"A", n)
	testWrong(t, strings.Repeat(" ", n), 0)
	testWrong(t, "a"+strings.Repeat(" ", n), 2)
	testWrong(t, "a"+strings.Repeat("[", n), 2)
	testWrong(t, "a["+strings.Repeat("x,", n), 2+2*n)
	testNone(t, "a["+strings.Repeat("x,", n)+"x]", 0, api.ErrFull)
	testWrong(t, "a[x="+strings.Repeat("'", n+1), 4)
	testWrong(t, "a[x="+strings.Repeat("'", n)+"]", 4)
	testWrong(t, "a[x="+strings.Repeat("1", n)+"]", 4)
	testNone(t, manySteps(n, ""), 0, api.ErrFull)
	testWrong(t, manySteps(n, "")+" ", 7*n-5)
}

// TestParseMade: A2, texts that are put together of pieces from a fixed seed, against the rules.
func TestParseMade(t *testing.T) {
	pieces := []string{"a", "b", "abcdefghi", " ", " -p-> ", " <-p- ", "-", "<", ">", "[", "]", ",", "x", "=", "!", "=1", "<-3", "!true", "='", "'", "''", "=''", "='v'", "=']'", ",y", "]", "[x", "[x=", "=1000001", "A", "\n", "\xff"}
	random := rand.New(rand.NewSource(11))
	right := 0
	for range 200_000 {
		var text strings.Builder
		text.WriteString([]string{"a", "a[x", "a -p-> b", ""}[random.Intn(4)])
		for range random.Intn(8) {
			text.WriteString(pieces[random.Intn(len(pieces))])
		}
		if testPlainly(t, text.String()) {
			right++
		}
	}
	if right < 10_000 {
		t.Errorf("only %d are right", right)
	}
}

// TestParseShort: A2, all texts of up to 7 bytes of some, and arrows with bytes of them left out or moved, against the rules.
func TestParseShort(t *testing.T) {
	right := 0
	var all func(text string)
	all = func(text string) {
		if testPlainly(t, text) {
			right++
		}
		if len(text) < 7 {
			for _, c := range "a[]=',1" {
				all(text + string(c))
			}
		}
	}
	all("")
	for _, middle := range []string{"-", "<-", " -", " <-", "a -", "a <-"} {
		for _, end := range []string{"", "-", "->", "p-", "p->", "p- ", "p-> ", "p- b", "p-> b", "p-b", "p->b", "-> b", "- b", "p-> b ", "p- b ", " p-> b", "p -> b"} {
			testPlainly(t, middle+end)
		}
	}
	// A kind alone 7; with a name 1, 2, 3 and 4 (of 4 to 7 bytes), with two of them 1 and 3, with a value 1 and 4.
	if right != 7+10+4+5 {
		t.Errorf("%d are right", right)
	}
}
