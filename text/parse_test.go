package text

import (
	"fmt"
	"strconv"
	"strings"
	"testing"

	"kinshape/api"
)

// badWords has lines that are none for their words, without their ends.
func badWords() []string {
	return []string{
		// Neither of the two words.
		"x", "x 1 a -", "nod 1 a -", "nodes 1 a -", "Node 1 a -", "NODE 1 a -", "ode 1 a -", "n 1 a -", "1 a -", "a 1 node -", "1 node a -", "node1 a -", "node\t1 a -", "#", "# node 1 a -",
		"ti p 1 1", "ties p 1 1", "Tie p 1 1", "TIE p 1 1", "ie p 1 1", "p 1 1", "tiep 1 1", "tie\tp 1 1", "p tie 1 1",
		"node p 1 1", "tie 1 a -", "kind a", "bond p 1 1", "\x00node 1 a -", "node\x00 1 a -", "\xffnode 1 a -",
		// Words too few, or too many.
		"node", "node 1", "node 1 a", "node 1 -", "node a -", "node 1 x=1", "node x=1",
		"tie", "tie p", "tie p 1", "tie 1 1", "tie p 1 1 1", "tie p 1 1 -", "tie p 1 1 1 1 1", "tie p q 1 1", "tie 1 p 1 1",
		"node 1 a b -", "node 1 2 a -", "node node 1 a -", "tie tie p 1 1",
		// No word between two blanks, and a blank at the beginning or at the end.
		"", " ", "  ", "   ", "    ", "node ", "node  ", "node   ", "node    ", "tie ", "tie   ", "tie    ",
		" node 1 a -", "  node 1 a -", "node  1 a -", "node 1  a -", "node 1  -", "node 1 a  -", "node 1 a - ", "node  a -", "node 1 a ", "node 1 a  ", " 1 a -",
		" tie p 1 1", "  tie p 1 1", "tie  p 1 1", "tie p  1 1", "tie p 1  1", "tie p 1 1 ", "tie  1 1", "tie p  1", "tie p 1 ", "tie p 1  ", " p 1 1",
		// Other blanks are none.
		"node 1\ta -", "node 1 a\t-", "node 1 a -\t", "node 1 a -\r", "tie p\t1 1", "tie p 1\t1", "tie p 1 1\t", "tie p 1 1\r", "tie p 1 1\x00",
	}
}

// badNumbers has words that are no numbers.
func badNumbers() []string {
	return []string{"", "-1", "+1", "-0", "+0", "--1", "-", "+", "00", "01", "001", "0001", "0000", "00001", "10000", "12345", "99999", "01000", "1000000000000000000000", strings.Repeat("0", 100), "a", "x", "1a", "a1", "0x1", "1e1", "1_0", "1.", "1.0", ".1", "1,", "'1'", "1-", "1\t", "١", "\xff", "\x00", "1\x00", "one", "-1000"}
}

// badRecords has texts of which chapter 2's Parse has an error, of its form, of its values and of its Check.
func badRecords() []string {
	return []string{
		"", "x", "=", "x=", "=1", "x==1", "x=1,", ",x=1", "x=1,,y=1", "x=1, y=1", "x=1 ,y=1", "x =1", "x= 1", " x=1", "x=1 ", "x:1", "--", "- ", "-,", "-,x=1", "x=1,-", "- -", "X=1", "x1=1", "abcdefghi=1",
		"x=-", "x=+1", "x=01", "x=-0", "x=1.0", "x=a", "x=True", "x=truee", "x='", "x='a", "x=a'", "x='a'b'", "x='a'b", "x='a' ", "x='\t'", "x='\xff'", "x='\x7f'", "x=\"a\"", "x='a''",
		// Of the form but for how great, long or many, and names that do not rise.
		"x=1000001", "x=-1000001", "x=1000000000", "x='" + strings.Repeat("z", 21) + "'", "a=1,b=1,c=1,d=1,e=1,f=1,g=1,h=1,i=1", "x=1,x=1", "y=1,x=1", "a=1,c=1,b=1",
		// With more behind it.
		"- x=1", "x=1 y=2", "x=1 -", "x='a' y='b'", "x='a'y='b'", "x=1 node 2 b -", "-x", "-\x00", "x=1\x00", "x=1;y=2",
	}
}

// badLines has all lines that are none, wherever they stand, without their ends.
func badLines() (l []string) {
	l = badWords()
	for _, n := range badNumbers() {
		l = append(l, "node "+n+" a -", "node "+n+" a x='a b'", "tie p "+n+" 1", "tie p 1 "+n, "tie p "+n+" "+n)
	}
	for _, r := range badRecords() {
		l = append(l, "node 7 a "+r, "node 0 A "+r)
	}
	return l
}

// TestParseBadLine: T1, the first line that is none, first, behind some and last; what a line that is one means is not asked.
func TestParseBadLine(t *testing.T) {
	aheads := []string{"", "node 1 a -\n", "node 1 a x=' '\nnode 2 b -\n", nodeLines(60), "node 1 a -\ntie p 1 1\n", "tie p 1 1\ntie q 1 1\n", "node 5 a -\nnode 5 A -\n", "tie P 0 9999\n"}
	for _, bad := range badLines() {
		for _, ahead := range aheads {
			at := numberOf(ahead)
			for _, behind := range []string{"\n", "\nnode 9 z -\n", "\ntie z 1 1\n", "\n\n", "\n!", "\n" + bad + "\n"} {
				testNoLine(t, ahead+bad+behind, at)
			}
			if bad != "" {
				testNoLine(t, ahead+bad, at)
			}
		}
	}
}

// TestParseEnd: T1, each beginning of a text: a line that does not end is none, even if nothing else is wrong with it.
func TestParseEnd(t *testing.T) {
	const text = "node 1 a x=1,y='it''s'\nnode 2 b -\nnode 30 c x=' , '\ntie p 1 2\ntie p 1 30\ntie q 30 1\n"
	for i := range len(text) + 1 {
		part := text[:i]
		if part != "" && part[i-1] != '\n' {
			testNoLine(t, part, numberOf(part))
			continue
		}
		g, at, err := Parse(part)
		if back, bad := Print(g); at != 0 || err != nil || back != part || bad != nil {
			t.Errorf("Parse(%q): got %v, %d, %v, which is printed as %q, %v", part, g, at, err, back, bad)
		}
	}
	for _, l := range []string{"node 1 a -", "node 1 a x=1", "node 1 a x='a b'", "tie p 1 1", "tie p 1 1000"} {
		testNoLine(t, l, 0)
		testNoLine(t, "node 1 a -\n"+l, 1)
		testNoLine(t, "tie p 1 1\n"+l, 1)
	}
}

// TestParseOrder: T1, a Node behind a Tie is no line.
func TestParseOrder(t *testing.T) {
	cases := []struct {
		text string
		at   int
	}{
		{"tie p 1 1\nnode 1 a -\n", 1},
		{"node 1 a -\ntie p 1 1\nnode 2 a -\n", 2},
		{"node 1 a -\ntie p 1 1\ntie q 1 1\nnode 2 a -\nnode 3 a -\n", 3},
		{"node 1 a -\ntie p 1 1\nnode 2 a -\ntie q 1 1\n", 2},
		{"tie P 0 0\nnode 0 A -\n!\n", 1},
		{tieLines(120) + "node 1 a -\n", 120},
		{strings.Repeat(tieLines(1), 200) + "node 1 a -\n", 200},
	}
	for _, c := range cases {
		testNoLine(t, c.text, c.at)
	}
}

// TestParseWords: T1, KIND and BOND are any words without a blank: only Check tells whether they are names.
func TestParseWords(t *testing.T) {
	for _, word := range noNames() {
		for _, text := range []string{"node 1 " + word + " -\n", "node 1 a -\nnode 2 " + word + " x='a b'\n", "node 1 a -\ntie " + word + " 1 1\n", "tie a 1 1\ntie " + word + " 1 1\n"} {
			testBad(t, text, 0, api.ErrSyntax)
		}
	}
	for c := range 256 {
		word := string([]byte{byte(c)})
		for _, w := range []string{word, "a" + word, word + "a"} {
			for _, line := range []string{"node 2 " + w + " -\n", "tie " + w + " 1 1\n"} {
				text := "node 1 a -\n" + line
				g, at, err := Parse(text)
				switch {
				case 'a' <= c && c <= 'z':
					if back, bad := Print(g); at != 0 || err != nil || back != text || bad != nil {
						t.Errorf("Parse(%q): got %v, %d, %v", text, g, at, err)
					}
				case c == ' ' || c == '\n':
					testNoLine(t, text, 1)
				default:
					testBad(t, text, 0, api.ErrSyntax)
				}
			}
		}
	}
}

// TestParseNumbers: T1, each number of up to four digits, with a sign or needless 0s ahead, too, and up to 10100, as ID, FROM and TO.
func TestParseNumbers(t *testing.T) {
	for n := range 10_101 {
		for _, word := range digits(n) {
			value, _ := strconv.Atoi(word)
			isNumber := len(word) <= 4 && word == strconv.Itoa(value) && value >= 0
			for _, line := range []string{"node " + word + " a -\n", "tie p " + word + " 1\n", "tie p 1 " + word + "\n"} {
				switch {
				case !isNumber:
					testNoLine(t, line, 0)
				case value < 1 || value > 1000:
					testBad(t, line, 0, api.ErrRange)
				default:
					if g, at, err := Parse(line); len(g.Nodes)+len(g.Ties) != 1 || at != 0 || err != nil {
						t.Errorf("Parse(%q): got %v, %d, %v", line, g, at, err)
					}
				}
			}
		}
	}
}

type badText struct {
	text string
	want api.Errno
}

// badTexts has texts of lines alone whose graph has an error, and which comes first.
func badTexts() (l []badText) {
	cases := []struct {
		want  api.Errno
		texts []string
	}{
		{api.ErrFull, []string{nodeLines(61), nodeLines(62), nodeLines(1000), tieLines(121), tieLines(122), tieLines(1000), nodeLines(61) + tieLines(121), nodeLines(60) + tieLines(121), nodeLines(61) + tieLines(120), nodeLines(61) + "tie P 0 0\n", "node 0 A -\n" + tieLines(121), strings.Repeat("node 0 A -\n", 61), strings.Repeat("tie P 0 0\n", 121)}},
		{api.ErrRange, []string{"node 0 a -\n", "node 1001 a -\n", "node 9999 a -\n", "node 1 a -\nnode 0 a -\n", "node 1 a -\nnode 1001 b x=1\n", "node 0 A -\n", "node 0 a -\nnode 0 a -\n", "node 0 a -\ntie P 1 1\n", "tie p 0 1\n", "tie p 1 0\n", "tie p 1001 1\n", "tie p 1 1001\n", "tie p 9999 9999\n", "node 1 a -\ntie p 1 1\ntie p 1 1001\n", "tie q 1 1\ntie p 1 0\n", "node 5 a -\nnode 0 A -\nnode 5 a -\n"}},
		{api.ErrClash, []string{"node 1 a -\nnode 1 a -\n", "node 2 a -\nnode 1 a -\n", "node 1 a -\nnode 2 a -\nnode 2 b x=1\n", "node 2 a -\nnode 1 A -\n", "node 2 a -\nnode 1 a -\nnode 0 a -\n", "node 2 a -\nnode 1 a -\ntie P 1 1\n", "node 9 a -\nnode 10 a -\nnode 9 a -\n", "tie p 1 1\ntie p 1 1\n", "tie p 1 2\ntie p 1 1\n", "tie p 2 1\ntie p 1 2\n", "tie q 1 1\ntie p 2 2\n", "node 1 a -\ntie p 1 1\ntie p 1 1\ntie p 0 1\n", "tie pa 1 1\ntie p 1 1\n", "tie p 10 1\ntie p 9 1\n"}},
		{api.ErrSyntax, []string{"node 1 A -\n", "node 1 abcdefghi -\n", "node 1 a -\nnode 2 b! -\n", "node 1 A -\nnode 1 a -\n", "node 1 A -\ntie p 0 1\n", "node 1 x=1 x=1\n", "node 1 'a' -\n", "node 1 1 -\n", "node 1 - -\n", "tie P 1 1\n", "tie P 0 1\n", "tie p 1 1\ntie P 1 1\n", "tie abcdefghi 1 1\n", "tie 1 1 1\n", "tie - 1 1\n", "node 1 a -\ntie p 1 1\ntie P 1 1\ntie p 1 1\n"}},
	}
	for _, c := range cases {
		for _, text := range c.texts {
			l = append(l, badText{text, c.want})
		}
	}
	return l
}

// TestParseCheck: T1, a text of lines alone whose graph has an error has 0 and that one; a line that is none comes ahead of it, wherever it stands.
func TestParseCheck(t *testing.T) {
	for _, b := range badTexts() {
		testBad(t, b.text, 0, b.want)
		testNoLine(t, "\n"+b.text, 0)
		testNoLine(t, "node 01 a -\n"+b.text, 0)
		testNoLine(t, b.text+"\n", numberOf(b.text))
		testNoLine(t, b.text+"tie p 1 1", numberOf(b.text))
		testNoLine(t, b.text+"tie p 1\n", numberOf(b.text))
		first, rest, _ := strings.Cut(b.text, "\n")
		testNoLine(t, first+"\nnode 1 a x=1,\n"+rest, 1)
	}
}

// TestParseMany: T1, as many nodes and ties as may be, and some more.
func TestParseMany(t *testing.T) {
	for _, n := range []int{0, 1, 59, 60, 61, 62, 100, 1000} {
		for _, m := range []int{0, 1, 119, 120, 121, 122, 1000} {
			text := nodeLines(n) + tieLines(m)
			if n > 60 || m > 120 {
				testBad(t, text, 0, api.ErrFull)
				continue
			}
			testBoth(t, both(someNodes(n), someTies(m)), text)
		}
	}
}

// TestParseLong: P1, texts of many lines, and lines of many bytes.
func TestParseLong(t *testing.T) {
	const n = 100_000
	cases := []struct {
		text string
		at   int
		want api.Errno
	}{
		{strings.Repeat("node 1 a -\n", n), 0, api.ErrFull},
		{strings.Repeat("node 1 a -\n", n) + "node", n, api.ErrSyntax},
		{strings.Repeat("node 1 a -\n", n) + strings.Repeat("tie p 1 1\n", n) + "node 1 a -\n", 2 * n, api.ErrSyntax},
		{strings.Repeat("\n", n), 0, api.ErrSyntax},
		{strings.Repeat("node ", n), 0, api.ErrSyntax},
		{"node 1 " + strings.Repeat("a", n) + " -\n", 0, api.ErrSyntax},
		{"node 1 a -\nnode 2 a" + strings.Repeat(" ", n) + "\n", 1, api.ErrSyntax},
		{"node 1 a -\nnode 2 a x='" + strings.Repeat(" ", n) + "'\n", 1, api.ErrSyntax},
		{"node 1 a -\nnode 2 a x=1" + strings.Repeat(",x=1", n) + "\n", 1, api.ErrSyntax},
		{"node 1 a -\nnode " + strings.Repeat("1", n) + " a -\n", 1, api.ErrSyntax},
		{"node 1 a -\ntie p 1 1" + strings.Repeat(" 1", n) + "\n", 1, api.ErrSyntax},
		{"tie p 1 1\ntie p 1 " + strings.Repeat("0", n) + "\n", 1, api.ErrSyntax},
	}
	for i, c := range cases {
		if g, at, err := Parse(c.text); !isEmpty(g) || at != c.at || told(err) != c.want {
			t.Errorf("text %d: got %v, %d, %v, want %d, %v", i, g, at, err, c.at, c.want)
		}
	}
}

// TestParseRecords: T1, the Record is what stands up to the end of the line.
func TestParseRecords(t *testing.T) {
	cases := []struct {
		text string
		r    api.Record
	}{
		{"-", nil},
		{"x=' '", api.Record{prop("x", words(" "))}},
		{"x=' node 2 b - '", api.Record{prop("x", words(" node 2 b - "))}},
		{"x='a b',y='c, d',z='  '", api.Record{prop("x", words("a b")), prop("y", words("c, d")), prop("z", words("  "))}},
		{"x='' ''", nil},
		{"x=''' '''", api.Record{prop("x", words("' '"))}},
	}
	for _, c := range cases {
		text := fmt.Sprintf("node 1 a -\nnode 2 b %s\n", c.text)
		if c.text != "-" && c.r == nil {
			testNoLine(t, text, 1)
			continue
		}
		testBoth(t, nodes(node(1, "a"), node(2, "b", c.r...)), text)
	}
}
