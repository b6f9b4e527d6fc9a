package schema

import (
	"regexp"
	"slices"
	"strconv"
	"strings"
	"testing"

	"kinshape/api"
)

// same tells whether two schemas are, an empty list and nil being the same.
func same(a, b api.Schema) bool {
	return slices.Equal(a.Bonds, b.Bonds) && slices.EqualFunc(a.Kinds, b.Kinds, func(a, b api.Kind) bool {
		return a.Name == b.Name && slices.Equal(a.Of, b.Of) && slices.Equal(a.Fields, b.Fields)
	})
}

// empty tells whether nothing is in a schema.
func empty(s api.Schema) bool { return len(s.Kinds) == 0 && len(s.Bonds) == 0 }

// The form of S2's lines, said another way than the program says it.
var (
	kindForm = regexp.MustCompile(`(?s)^kind ([^ ,:\n]+)(?: of ([^ ,:\n]+(?:,[^ ,:\n]+)*))?((?: [^ ,:\n]+:(?:int|bool|text)[!*]?)*)\n$`)
	bondForm = regexp.MustCompile(`(?s)^bond ([^ ,:\n]+) ([^ ,:\n]+) ([^ ,:\n]+) (0|[1-9][0-9]?) (any|0|[1-9][0-9]?)\n$`)
)

// readByForms reads a text by these forms: the schema, or the first line that is none such; below 0: all are.
func readByForms(text string) (s api.Schema, at int) {
	for i, line := range strings.SplitAfter(text, "\n") {
		k, b := kindForm.FindStringSubmatch(line), bondForm.FindStringSubmatch(line)
		switch {
		case line == "": // what is behind the last end
		case b != nil:
			s.Bonds = append(s.Bonds, bondOf(b))
		case k != nil && len(s.Bonds) == 0:
			s.Kinds = append(s.Kinds, kindOf(k))
		default:
			return api.Schema{}, i
		}
	}
	return s, -1
}

func kindOf(parts []string) api.Kind {
	k := api.Kind{Name: parts[1], Of: strings.FieldsFunc(parts[2], func(c rune) bool { return c == ',' })}
	for _, word := range strings.Split(parts[3], " ")[1:] {
		name, rest, _ := strings.Cut(word, ":")
		f := api.Field{Name: name, Type: map[byte]int{'i': api.Int, 'b': api.Bool, 't': api.Text}[rest[0]]}
		f.Key = rest[len(rest)-1] == '*'
		f.Must = f.Key || rest[len(rest)-1] == '!'
		k.Fields = append(k.Fields, f)
	}
	return k
}

func bondOf(parts []string) api.Bond {
	least, _ := strconv.Atoi(parts[4])
	most, err := strconv.Atoi(parts[5])
	if err != nil {
		most = -1
	}
	return api.Bond{Name: parts[1], From: parts[2], To: parts[3], Min: least, Max: most}
}

// checkParse holds what Parse answers against the forms, and what is read against what is printed.
func checkParse(t *testing.T, text string) {
	t.Helper()
	want, at := readByForms(text)
	code := api.ErrSyntax
	if at < 0 {
		_, err := Check(want)
		at, code = 0, told(err)
	}
	if code != api.OK {
		want = api.Schema{}
	}
	s, n, err := Parse(text)
	if !same(s, want) || n != at || told(err) != code {
		t.Fatalf("Parse(%q): got %v, %d, %v, want %v, %d, %v", text, s, n, err, want, at, code)
	}
	if back, bad := Print(s); err == nil && (back != text || bad != nil) {
		t.Fatalf("Parse(%q): %v, which is printed as %q, %v", text, s, back, bad)
	}
}

// TestPrintParse: S2, schemas and their texts, there and back.
func TestPrintParse(t *testing.T) {
	cases := []struct {
		s    api.Schema
		text string
	}{
		{api.Schema{}, ""},
		{schema(kinds(2)), "kind a\nkind b\n"},
		{schema([]api.Kind{someKind("b", ""), someKind("a", "b")}), "kind b\nkind a of b\n"},
		{schema([]api.Kind{someKind("a", ""), someKind("b", ""), someKind("c", "b a")}), "kind a\nkind b\nkind c of b,a\n"},
		{schema([]api.Kind{someKind("a", "", field("i", api.Int), field("j", api.Bool), field("k", api.Text))}), "kind a i:int j:bool k:text\n"},
		{schema([]api.Kind{someKind("a", "", must(field("i", api.Int)), must(field("j", api.Bool)), must(field("k", api.Text)))}), "kind a i:int! j:bool! k:text!\n"},
		{schema([]api.Kind{someKind("a", "", key(field("i", api.Int)), key(field("j", api.Bool)), key(field("k", api.Text)))}), "kind a i:int* j:bool* k:text*\n"},
		{schema([]api.Kind{someKind("a", ""), someKind("b", "a", key(field("x", api.Int)), field("y", api.Text))}), "kind a\nkind b of a x:int* y:text\n"},
		{schema(kinds(2), bond("q b a", 0, -1), bond("p a a", 0, 0), bond("r a b", 10, 20), bond("s a b", 20, -1)), "kind a\nkind b\nbond q b a 0 any\nbond p a a 0 0\nbond r a b 10 20\nbond s a b 20 any\n"},
		{schema([]api.Kind{someKind("of", ""), someKind("kind", "of", field("of", api.Int)), someKind("bond", "of kind", field("any", api.Text))}, loose("of of kind"), loose("bond bond of"), loose("any kind bond")), "kind of\nkind kind of of of:int\nkind bond of of,kind any:text\nbond of of kind 0 any\nbond bond bond of 0 any\nbond any kind bond 0 any\n"},
	}
	for _, c := range cases {
		if got, err := Print(c.s); got != c.text || err != nil {
			t.Errorf("Print(%v): got %q, %v, want %q", c.s, got, err, c.text)
		}
		if got, n, err := Parse(c.text); !same(got, c.s) || n != 0 || err != nil {
			t.Errorf("Parse(%q): got %v, %d, %v, want %v", c.text, got, n, err, c.s)
		}
	}
	for _, s := range goodSchemas() {
		text, err := Print(s)
		if got, n, bad := Parse(text); err != nil || !same(got, s) || n != 0 || bad != nil {
			t.Errorf("Print(%v): %q, %v, which is read as %v, %d, %v", s, text, err, got, n, bad)
		}
	}
}

// badLines has lines that are none, wherever they stand, without their ends.
func badLines() []string {
	return []string{
		"", " ", "kind", "kind ", "kin", "kinda", "Kind a", "KIND a", " kind x", "kind  x", "kind x ", "kind x  y:int", "kind\tx", "x", "of x", "x:int", "#", "kind x\v ", "kinds x",
		// Names.
		"kind ,", "kind :", "kind a,b", "kind a:b", "kind x:int", "kind x of a,", "kind x of ,a", "kind x of a,,a", "kind x of ,", "kind x of a:b", "kind x of :",
		// What a kind comes of.
		"kind x of", "kind x of ", "kind x of  a", "kind x of a b", "kind x of a, b", "kind x of a ,b", "kind x of a of b", "kind x y:int of a", "kind x Of a", "kind x a", "kind x of y:int", "kind x, of a", "kind of a", "kind of of",
		// Fields.
		"kind x y", "kind x y:", "kind x :int", "kind x y:in", "kind x y:inty", "kind x y:Int", "kind x y:1", "kind x y:!", "kind x y:*", "kind x y:int!!", "kind x y:int**", "kind x y:int!*", "kind x y:int*!", "kind x y:int !", "kind x y:!int", "kind x y: int", "kind x y :int", "kind x y:int,z:int", "kind x y,z:int", "kind x y:int:int", "kind x y::int", "kind x y:int z", "kind x y:int  z:int", "kind x !", "kind x *", "kind x y:int bond", "kind x y:float", "kind x y:any",
		// Bonds.
		"bond", "bond p", "bond p a a", "bond p a a 0", "bond p a a any", "bond p a a 0 1 ", "bond p a a 0 1 2", " bond p a a 0 1", "bond  p a a 0 1", "bond p  a a 0 1", "bond p a  a 0 1", "bond p a a  0 1", "bond p a a 0  1", "bonds p a a 0 1", "Bond p a a 0 1", "bond p, a a 0 1", "bond p: a a 0 1", "bond p a,b a 0 1", "bond p a a: 0 1", "bond , a a 0 1", "bond p : a 0 1", "bond  a a 0 1", "bond a a 0 1", "kind p a a 0 1", "bond p a a 0 1 x:int",
		// Numbers.
		"bond p a a 0 -1", "bond p a a -1 1", "bond p a a -0 1", "bond p a a +1 1", "bond p a a 0 +1", "bond p a a 00 1", "bond p a a 0 00", "bond p a a 01 1", "bond p a a 0 01", "bond p a a 000 1", "bond p a a 0 100", "bond p a a 100 any", "bond p a a 0 020", "bond p a a 0 1000000000000000000000", "bond p a a 0 -9", "bond p a a any 1", "bond p a a any any", "bond p a a 0 Any", "bond p a a 0 an", "bond p a a 0 anyy", "bond p a a 0 any!", "bond p a a 0 1!", "bond p a a 0* 1", "bond p a a 0x1 1", "bond p a a 1_0 11", "bond p a a 0 1.", "bond p a a 0 ١", "bond p a a x 1", "bond p a a 0 x", "bond p a a 0 -",
	}
}

// TestParseBadLine: S2, the first line that is none, behind none, few or many that are.
func TestParseBadLine(t *testing.T) {
	many, _ := Print(schema(kinds(12)))
	for _, bad := range badLines() {
		for _, ahead := range []string{"", "kind a\n", "kind a\nkind b of a z:int*\n", many, "kind a\nbond q a a 0 any\n", "kind A\nkind A of zz\n", "kind k\nbond k zz zz 99 0\n"} {
			at := strings.Count(ahead, "\n")
			for _, behind := range []string{"\n", "\nkind z\n", "\nbond z a a 0 1\n", "\n\n", "\n!", "\n" + bad + "\n"} {
				if s, n, err := Parse(ahead + bad + behind); !empty(s) || n != at || told(err) != api.ErrSyntax {
					t.Errorf("Parse(%q): got %v, %d, %v, want %d, ErrSyntax", ahead+bad+behind, s, n, err, at)
				}
			}
			if bad == "" {
				continue
			}
			if s, n, err := Parse(ahead + bad); !empty(s) || n != at || told(err) != api.ErrSyntax {
				t.Errorf("Parse(%q): got %v, %d, %v, want %d, ErrSyntax", ahead+bad, s, n, err, at)
			}
		}
	}
}

// TestParseEnd: S2, each beginning of a text: a line that does not end is none; what stands ahead of it is no fault.
func TestParseEnd(t *testing.T) {
	const text = "kind a x:int! y:text\nkind b\nkind c of a,b\nbond p a b 0 any\nbond q c c 10 20\n"
	for i := range len(text) + 1 {
		part := text[:i]
		s, n, err := Parse(part)
		if part == "" || part[i-1] == '\n' {
			if back, _ := Print(s); n != 0 || err != nil || back != part {
				t.Errorf("Parse(%q): got %v, %d, %v", part, s, n, err)
			}
			continue
		}
		if !empty(s) || n != strings.Count(part, "\n") || told(err) != api.ErrSyntax {
			t.Errorf("Parse(%q): got %v, %d, %v, want ErrSyntax at its last line", part, s, n, err)
		}
	}
}

// TestParseOrder: S2, kinds stand ahead of bonds.
func TestParseOrder(t *testing.T) {
	cases := []struct {
		text string
		at   int
	}{
		{"bond p a a 0 1\nkind a\n", 1},
		{"kind a\nbond p a a 0 1\nkind b\n", 2},
		{"kind a\nbond p a a 0 1\nbond q a a 0 1\nkind b\nkind c\n", 3},
		{"kind a\nbond p a a 0 1\nkind b\nbond q a a 0 1\n", 2},
		{"kind a\nbond p a a 0 1\nkind a\n!\n", 2},
	}
	for _, c := range cases {
		if s, n, err := Parse(c.text); !empty(s) || n != c.at || told(err) != api.ErrSyntax {
			t.Errorf("Parse(%q): got %v, %d, %v, want %d, ErrSyntax", c.text, s, n, err, c.at)
		}
	}
}

// TestParseCheck: S2, a text of the form is told Check's error, at 0, whichever line it is of.
func TestParseCheck(t *testing.T) {
	cases := []struct {
		want  api.Errno
		texts []string
	}{
		{api.ErrSyntax, []string{"kind A\n", "kind a\nkind b\nkind c!\n", "kind abcdefghi\n", "kind a\nkind \xff\n", "kind a\r\n", "kind a\tb\n", "kind a\nkind 'b' of a\n", "kind a A:int\n", "kind a\nkind b x!:int!\n", "kind a *:int\n", "kind a\nbond P a a 0 1\n", "kind a\nbond 1 zz a 0 1\n", "kind a!\nkind b of zz\n", "kind ä\n", "kind \x00\n"}},
		{api.ErrClash, []string{"kind a\nkind a\n", "kind a\nkind b\nkind c of b,b\n", "kind a x:int x:int\n", "kind a y:int x:int\n", "kind a x:int\nkind b of a x:text\n", "kind a\nbond p a a 0 1\nbond p a a 0 1\n"}},
		{api.ErrNone, []string{"kind a of b\n", "kind a\nkind b of c\nkind c\n", "kind a\nkind b of a,B\n", "kind a\nbond p b a 0 1\n", "kind a\nbond p a b 0 1\n", "bond p a a 0 1\n", "kind a\nbond p a a! 0 1\n", "kind a\nbond p a b 99 0\n"}},
		{api.ErrRange, []string{"kind a\nbond p a a 21 any\n", "kind a\nbond p a a 0 21\n", "kind a\nbond p a a 1 0\n", "kind a\nbond p a a 99 99\n", "kind a\nbond q a a 0 1\nbond p a a 20 10\n"}},
		{api.ErrFull, []string{strings.Repeat("kind a\n", 13), strings.Repeat("kind A\n", 13), strings.Repeat("kind a\n", 1000), "kind a\n" + strings.Repeat("bond p a a 0 1\n", 13), "kind a\n" + strings.Repeat("bond P a a 0 1\n", 1000), strings.Repeat("kind a\n", 1000) + strings.Repeat("bond P a a 0 1\n", 1000), "kind a\nkind b of a,a,a,a,a\n", "kind a a:int b:int c:int d:int e:int f:int g:int h:int i:int\n", "kind a" + strings.Repeat(" A:int", 1000) + "\n", "kind a of " + strings.Repeat("A,", 1000) + "A\n"}},
	}
	for _, c := range cases {
		for _, text := range c.texts {
			if s, n, err := Parse(text); !empty(s) || n != 0 || told(err) != c.want {
				t.Errorf("Parse(%q): got %v, %d, %v, want 0, %v", text, s, n, err, c.want)
			}
			// The form is asked of all lines first.
			at := strings.Count(text, "\n")
			if s, n, err := Parse(text + "\n"); !empty(s) || n != at || told(err) != api.ErrSyntax {
				t.Errorf("Parse(%q): got %v, %d, %v, want %d, ErrSyntax", text+"\n", s, n, err, at)
			}
		}
	}
}

// TestParseMany: S2, as many kinds and bonds as may be, and one more.
func TestParseMany(t *testing.T) {
	for n := range 15 {
		for m := range 15 {
			var text strings.Builder
			for _, k := range kinds(n) {
				text.WriteString("kind " + k.Name + "\n")
			}
			for _, b := range bonds(m) {
				text.WriteString("bond " + b.Name + " a a 0 any\n")
			}
			checkParse(t, text.String())
		}
	}
}

// TestParseNumbers: S2 and P4, each number of up to three digits, with a 0 or a sign ahead, too, as Min and as Max.
func TestParseNumbers(t *testing.T) {
	for n := range 1000 {
		digits := strconv.Itoa(n)
		for _, word := range []string{digits, "0" + digits, "00" + digits, "-" + digits, "+" + digits, digits + "0"} {
			value, _ := strconv.Atoi(word)
			isNumber := len(word) <= 2 && strconv.Itoa(value) == word && value >= 0
			code := api.OK
			if !isNumber {
				code = api.ErrSyntax
			} else if value > 20 {
				code = api.ErrRange
			}
			at := 0
			if code == api.ErrSyntax {
				at = 1
			}
			for _, tail := range []string{word + " any\n", "0 " + word + "\n"} {
				text := "kind a\nbond p a a " + tail
				if _, got, err := Parse(text); got != at || told(err) != code {
					t.Errorf("Parse(%q): got %d, %v, want %d, %v", text, got, err, at, code)
				}
				checkParse(t, text)
			}
		}
	}
}

// TestParseBytes: S2, every byte in place of, and behind, each byte of a text.
func TestParseBytes(t *testing.T) {
	const text = "kind a x:int! y:text*\nkind b of a\nkind c of a,b z:bool\nbond p a b 0 any\nbond q c c 1 20\n"
	for i := range len(text) {
		checkParse(t, text[:i]+text[i+1:])
		for c := range 256 {
			other := string([]byte{byte(c)})
			checkParse(t, text[:i]+other+text[i+1:])
			checkParse(t, text[:i]+other+text[i:])
		}
	}
}

// TestParseMixed: S2, a text into which a piece of another one is put, or of which one is taken, anywhere.
func TestParseMixed(t *testing.T) {
	texts := []string{
		"kind a k:int\nkind b of a m:bool!\nbond p a b 0 2\n",
		"kind of\nkind a of of of:text*\nbond of a of 10 any\nbond p of a 0 0\n",
	}
	pieces := []string{"\n", "  ", " of a", "of ", " of", "of a", "kind ", "kind b\n", "bond p a a 0 any\n", "bond", "any", " any", ":int", " x:int", "x:int ", "!", "*", ",a", "a,", "0", "1", "-1", "\n\n", "\r\n", "\x00", "ä"}
	for _, text := range texts {
		for i := range len(text) + 1 {
			for _, piece := range pieces {
				checkParse(t, text[:i]+piece+text[i:])
			}
			for j := i; j <= len(text); j++ {
				checkParse(t, text[:i]+text[j:])
			}
		}
	}
}

// TestParseWords: S2, all lines of a few words of which a kind's is made, and all of a bond's.
func TestParseWords(t *testing.T) {
	var all func(line string, words []string, left int)
	all = func(line string, words []string, left int) {
		checkParse(t, "kind a\nkind of\n"+line+"\n")
		for _, w := range words {
			if left > 0 {
				all(line+" "+w, words, left-1)
			}
		}
	}
	all("kind", []string{"", "b", "of", "a", "a,of", "of,", ",", "x:int", "of:text*", "y:bool!", "y:", ":", "z:int!*", "B"}, 4)
	all("bond", []string{"p", "of", "any", "0", "10", "00"}, 6)
	all("", []string{"", "kind", "bond", "a"}, 3)
}

// TestParseLong: P1, a text of many lines, and one of a long line.
func TestParseLong(t *testing.T) {
	const n = 100_000
	cases := []struct {
		text string
		at   int
		want api.Errno
	}{
		{strings.Repeat("kind a\n", n), 0, api.ErrFull},
		{strings.Repeat("kind a\n", n) + "kind", n, api.ErrSyntax},
		{strings.Repeat("kind a\n", n) + strings.Repeat("bond p a a 0 1\n", n) + "kind a\n", 2 * n, api.ErrSyntax},
		{strings.Repeat("\n", n), 0, api.ErrSyntax},
		{strings.Repeat("k", n), 0, api.ErrSyntax},
		{"kind " + strings.Repeat("a", n) + "\n", 0, api.ErrSyntax},
		{"kind a\nkind b" + strings.Repeat(" ", n) + "\n", 1, api.ErrSyntax},
		{"kind a\nkind b of a" + strings.Repeat(",a", n) + "\n", 0, api.ErrFull},
	}
	for i, c := range cases {
		if s, at, err := Parse(c.text); !empty(s) || at != c.at || told(err) != c.want {
			t.Errorf("text %d: got %v, %d, %v, want %d, %v", i, s, at, err, c.at, c.want)
		}
	}
}
