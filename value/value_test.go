package value

import (
	"math"
	"strconv"
	"strings"
	"testing"

	"kinshape/api"
	"kinshape/plain"
)

func number(n int) api.Value    { return api.Value{Type: api.Int, N: n} }
func truth(n int) api.Value     { return api.Value{Type: api.Bool, N: n} }
func words(s string) api.Value  { return api.Value{Type: api.Text, S: s} }
func letters(n int) string      { return strings.Repeat("z", n) }
func told(err error) api.Errno  { return plain.Told(err) }
func both(a, b string) []string { return []string{a, b} }

// TestCheck: V1, each bound from both sides, and each error.
func TestCheck(t *testing.T) {
	cases := []struct {
		v    api.Value
		want api.Errno
	}{
		{number(0), api.OK},
		{number(-7), api.OK},
		{number(1000000), api.OK},
		{number(-1000000), api.OK},
		{number(1000001), api.ErrRange},
		{number(-1000001), api.ErrRange},
		{number(math.MaxInt), api.ErrRange},
		{number(math.MinInt), api.ErrRange},
		{truth(0), api.OK},
		{truth(1), api.OK},
		{truth(2), api.ErrRange},
		{truth(-1), api.ErrRange},
		{words(""), api.OK},
		{words("it's"), api.OK},
		{words(letters(19)), api.OK},
		{words(letters(20)), api.OK},
		{words(letters(21)), api.ErrFull},
		{words(letters(10000)), api.ErrFull},
		{words(strings.Repeat("'", 20)), api.OK},
		{words(" "), api.OK},
		{words("~"), api.OK},
		{words("a\x1f"), api.ErrSyntax},
		{words("a\x7f"), api.ErrSyntax},
		{words("\x00"), api.ErrSyntax},
		{words("\n"), api.ErrSyntax},
		{words("\xff"), api.ErrSyntax},
		{words("ä"), api.ErrSyntax},
		{api.Value{Type: api.Text, N: 1}, api.ErrRange},
		{api.Value{Type: api.Text, N: -1}, api.ErrRange},
		{api.Value{Type: api.Int, S: "a"}, api.ErrSyntax},
		{api.Value{Type: api.Bool, N: 1, S: " "}, api.ErrSyntax},
		{api.Value{}, api.ErrType},
		{api.Value{Type: 4}, api.ErrType},
		{api.Value{Type: -1}, api.ErrType},
		{api.Value{Type: math.MaxInt}, api.ErrType},
		{api.Value{Type: math.MinInt}, api.ErrType},
	}
	for _, c := range cases {
		if got := told(Check(c.v)); got != c.want {
			t.Errorf("Check(%v): got %v, want %v", c.v, got, c.want)
		}
	}
}

// TestCheckFirst: V1 and P3, of several errors the one that is named first.
func TestCheckFirst(t *testing.T) {
	long := letters(20) + "\n"
	cases := []struct {
		v    api.Value
		want api.Errno
	}{
		{api.Value{Type: 0, N: 2000000, S: long}, api.ErrType},
		{api.Value{Type: 4, N: 2000000}, api.ErrType},
		{api.Value{Type: 4, S: "\n"}, api.ErrType},
		{api.Value{Type: api.Text, N: 1, S: long}, api.ErrRange},
		{api.Value{Type: api.Text, N: 1, S: "\n"}, api.ErrRange},
		{api.Value{Type: api.Int, N: 1000001, S: "a"}, api.ErrRange},
		{api.Value{Type: api.Bool, N: 2, S: long}, api.ErrRange},
		{api.Value{Type: api.Text, S: long}, api.ErrFull},
		{api.Value{Type: api.Int, N: -1000001, S: letters(21)}, api.ErrRange},
	}
	for _, c := range cases {
		if got := told(Check(c.v)); got != c.want {
			t.Errorf("Check(%v): got %v, want %v", c.v, got, c.want)
		}
	}
}

// TestCheckOthers: V1 and V2, an Int or a Bool with an S of any length and of any byte is ErrSyntax, in each call that checks it.
func TestCheckOthers(t *testing.T) {
	for _, valueType := range []int{api.Int, api.Bool} {
		for _, n := range []int{0, 1} {
			for _, long := range []int{1, 2, 19, 20, 21, 22, 40, 1000} {
				for _, c := range []string{"z", " ", "'", "0", "\n", "\x00", "\xff"} {
					checkOther(t, api.Value{Type: valueType, N: n, S: strings.Repeat(c, long)})
				}
			}
		}
	}
}

func checkOther(t *testing.T, v api.Value) {
	t.Helper()
	good := api.Value{Type: v.Type, N: v.N}
	if got := told(Check(v)); got != api.ErrSyntax {
		t.Errorf("Check(%v): got %v, want ErrSyntax", v, got)
	}
	if got, err := Print(v); got != "" || told(err) != api.ErrSyntax {
		t.Errorf("Print(%v): got %q, %v, want ErrSyntax", v, got, err)
	}
	for _, pair := range [][2]api.Value{{v, v}, {v, good}, {good, v}} {
		if got, err := Compare(pair[0], pair[1]); got != 0 || told(err) != api.ErrSyntax {
			t.Errorf("Compare(%v, %v): got %d, %v, want 0, ErrSyntax", pair[0], pair[1], got, err)
		}
	}
}

// TestCheckBytes: V1, every byte there is, at the beginning and at the end.
func TestCheckBytes(t *testing.T) {
	for c := range 256 {
		want := api.ErrSyntax
		if 32 <= c && c <= 126 {
			want = api.OK
		}
		for _, s := range both("ab"+string([]byte{byte(c)}), string([]byte{byte(c)})+"ab") {
			if got := told(Check(words(s))); got != want {
				t.Errorf("Check of %q: got %v, want %v", s, got, want)
			}
		}
	}
}

// TestCompare: V1, values of one type in their order, each against each.
func TestCompare(t *testing.T) {
	orders := [][]api.Value{
		{number(-1000000), number(-10), number(-9), number(0), number(9), number(10), number(1000000)},
		{truth(0), truth(1)},
		{words(""), words(" "), words("'"), words("10"), words("9"), words("Z"), words("a"), words("a "), words("aa"), words("b"), words("~")},
	}
	for _, l := range orders {
		for i, a := range l {
			for j, b := range l {
				want := 0
				if i < j {
					want = -1
				} else if i > j {
					want = 1
				}
				if got, err := Compare(a, b); got != want || err != nil {
					t.Errorf("Compare(%v, %v): got %d, %v, want %d", a, b, got, err, want)
				}
			}
		}
	}
}

// TestCompareErrors: V1, P1 and P3: a's error, then b's, then that of both.
func TestCompareErrors(t *testing.T) {
	cases := []struct {
		a, b api.Value
		want api.Errno
	}{
		{number(0), truth(0), api.ErrType},
		{truth(1), words(""), api.ErrType},
		{words("1"), number(1), api.ErrType},
		{number(1000001), words("\n"), api.ErrRange},
		{words("\n"), number(1000001), api.ErrSyntax},
		{words(letters(21)), api.Value{}, api.ErrFull},
		{number(1), words("\n"), api.ErrSyntax},
		{number(1), truth(2), api.ErrRange},
		{number(1), words(letters(21)), api.ErrFull},
		{api.Value{}, api.Value{}, api.ErrType},
		{api.Value{}, number(1000001), api.ErrType},
		{number(2000000), number(1000001), api.ErrRange},
	}
	for _, c := range cases {
		if got, err := Compare(c.a, c.b); got != 0 || told(err) != c.want {
			t.Errorf("Compare(%v, %v): got %d, %v, want 0, %v", c.a, c.b, got, err, c.want)
		}
	}
}

// TestName: V1, how long a name is, and of which bytes.
func TestName(t *testing.T) {
	for _, s := range []string{"a", "z", "name", "abcdefgh", "zzzzzzzz"} {
		if err := Name(s); err != nil {
			t.Errorf("Name(%q): %v", s, err)
		}
	}
	for _, s := range []string{"", "abcdefghi", letters(10000), "A", "aB", "a1", "a b", " a", "a ", "ä", "a\n", "\x00", "-"} {
		if told(Name(s)) != api.ErrSyntax {
			t.Errorf("Name(%q): got %v, want ErrSyntax", s, Name(s))
		}
	}
	for c := range 256 {
		want := api.ErrSyntax
		if 'a' <= c && c <= 'z' {
			want = api.OK
		}
		for _, s := range both("a"+string([]byte{byte(c)}), string([]byte{byte(c)})+"a") {
			if got := told(Name(s)); got != want {
				t.Errorf("Name(%q): got %v, want %v", s, got, want)
			}
		}
	}
}

// TestPrintParse: V2, values and their texts, there and back.
func TestPrintParse(t *testing.T) {
	cases := []struct {
		v    api.Value
		text string
	}{
		{number(0), "0"},
		{number(7), "7"},
		{number(-7), "-7"},
		{number(100), "100"},
		{number(1000000), "1000000"},
		{number(-1000000), "-1000000"},
		{truth(0), "false"},
		{truth(1), "true"},
		{words(""), "''"},
		{words("'"), "''''"},
		{words("''"), "''''''"},
		{words("it's"), "'it''s'"},
		{words("a,b]"), "'a,b]'"},
		{words("true"), "'true'"},
		{words("\\\""), "'\\\"'"},
		{words(" ~"), "' ~'"},
		{words(letters(20)), "'" + letters(20) + "'"},
		{words(strings.Repeat("'", 20)), strings.Repeat("'", 42)},
	}
	for _, c := range cases {
		if got, err := Print(c.v); got != c.text || err != nil {
			t.Errorf("Print(%v): got %q, %v, want %q", c.v, got, err, c.text)
		}
		if got, err := Parse(c.text); got != c.v || err != nil {
			t.Errorf("Parse(%q): got %v, %v, want %v", c.text, got, err, c.v)
		}
	}
}

// TestPrintErrors: V2 and P1, Check's error, and no text.
func TestPrintErrors(t *testing.T) {
	bad := []api.Value{{}, {Type: 4}, number(1000001), truth(2), words(letters(21)), words("\n"), {Type: api.Int, S: "a"}, {Type: api.Text, N: 1}, {Type: api.Text, S: letters(20) + "\n"}}
	for _, v := range bad {
		if got, err := Print(v); got != "" || err == nil || told(err) != told(Check(v)) {
			t.Errorf("Print(%v): got %q, %v, want %v", v, got, err, Check(v))
		}
	}
}

// TestParseErrors: V2 and P1, each error, and the empty value with it.
func TestParseErrors(t *testing.T) {
	cases := []struct {
		want  api.Errno
		texts []string
	}{
		{api.ErrSyntax, []string{"", " ", "-", "--1", "+1", "1-", "-0", "00", "01", "-01", "1 ", " 1", "1.0", "1e3", "0x1", "1_0", "\xff", "١"}},
		{api.ErrSyntax, []string{"True", "TRUE", "false ", " true", "tru", "truee", "name", "nil"}},
		{api.ErrSyntax, []string{"'", "'''", "'''''", "'a", "a'", "'a'b'", "'a''", "''a'", "'a'b", "'a' ", " 'a'", "\"a\"", "'a'''b'", "'a' 'b'"}},
		{api.ErrSyntax, []string{"'\n'", "'\x1f'", "'\x7f'", "'\x00'", "'ä'", "'a\xff'", "'a'\n"}},
		{api.ErrSyntax, []string{"1000000000", "-1000000000", "0000000001", strings.Repeat("9", 400), "-" + strings.Repeat("9", 400)}},
		{api.ErrRange, []string{"1000001", "-1000001", "999999999", "-999999999", "100000000"}},
		{api.ErrFull, []string{"'" + letters(21) + "'", strings.Repeat("'", 44), "'" + letters(10000) + "'"}},
		{api.ErrSyntax, []string{"'" + letters(21) + "\n'", "'" + letters(21), "'" + letters(21) + "'a'", "'\x7f" + letters(21) + "'", strings.Repeat("'", 45)}},
	}
	for _, c := range cases {
		for _, s := range c.texts {
			if got, err := Parse(s); got != (api.Value{}) || told(err) != c.want {
				t.Errorf("Parse(%q): got %v, %v, want %v", s, got, err, c.want)
			}
		}
	}
}

// TestParseBytes: V2, every byte in a text, behind a digit, and alone.
func TestParseBytes(t *testing.T) {
	for c := range 256 {
		s := string([]byte{byte(c)})
		if v, err := Parse("'a" + s + "b'"); (err == nil) != (32 <= c && c <= 126 && c != '\'') || err == nil && v != words("a"+s+"b") {
			t.Errorf("Parse of a text with byte %d: got %v, %v", c, v, err)
		}
		for _, ahead := range both("", "1") {
			if v, err := Parse(ahead + s); (err == nil) != ('0' <= c && c <= '9') || err == nil && v.Type != api.Int {
				t.Errorf("Parse(%q): got %v, %v", ahead+s, v, err)
			}
		}
	}
}

// TestParseJustSuch: V2 and P1, of all short texts of some bytes those that Parse takes are those that Print makes.
func TestParseJustSuch(t *testing.T) {
	const letter = "'-01a\x1f"
	var all func(s string, left int)
	all = func(s string, left int) {
		v, err := Parse(s)
		if err == nil {
			if back, bad := Print(v); back != s || bad != nil {
				t.Errorf("Parse(%q): %v, which is printed as %q, %v", s, v, back, bad)
			}
		} else if v != (api.Value{}) || told(err) != api.ErrSyntax {
			t.Errorf("Parse(%q): got %v, %v", s, v, err)
		}
		for i := 0; left > 0 && i < len(letter); i++ {
			all(s+letter[i:i+1], left-1)
		}
	}
	all("", 6)
}

// TestParseNumbers: V2, numbers on both sides of each length and bound.
func TestParseNumbers(t *testing.T) {
	for power := 1; power <= 1_000_000_000_000; power *= 10 {
		for _, n := range []int{power - 1, power, power + 1, 1 - power, -power, -power - 1} {
			s := strconv.Itoa(n)
			size := max(n, -n)
			want := api.OK
			if size >= 1_000_000_000 {
				want = api.ErrSyntax
			} else if size > 1_000_000 {
				want = api.ErrRange
			}
			v, err := Parse(s)
			if told(err) != want || err == nil && v != number(n) {
				t.Errorf("Parse(%q): got %v, %v, want %v", s, v, err, want)
			}
		}
	}
}

// TestLengths: V1 and V2, texts of each length, of plain letters and of quotes.
func TestLengths(t *testing.T) {
	for n := range 50 {
		for _, s := range both(letters(n), strings.Repeat("'", n)) {
			want := api.OK
			if n > 20 {
				want = api.ErrFull
			}
			text := "'" + strings.ReplaceAll(s, "'", "''") + "'"
			v, err := Parse(text)
			if told(err) != want || err == nil && v != words(s) {
				t.Errorf("Parse(%q): got %v, %v, want %v", text, v, err, want)
			}
			if got, err := Print(words(s)); told(err) != want || err == nil && got != text {
				t.Errorf("Print of %q: got %q, %v, want %v", s, got, err, want)
			}
		}
	}
}
