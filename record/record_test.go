package record

import (
	"math"
	"slices"
	"strings"
	"testing"

	"kinshape/api"
	"kinshape/plain"
	"kinshape/value"
)

func number(n int) api.Value              { return api.Value{Type: api.Int, N: n} }
func truth(n int) api.Value               { return api.Value{Type: api.Bool, N: n} }
func words(s string) api.Value            { return api.Value{Type: api.Text, S: s} }
func told(err error) api.Errno            { return plain.Told(err) }
func prop(n string, v api.Value) api.Prop { return api.Prop{Name: n, Value: v} }

// of makes a record of props in the order in which they stand.
func of(l ...api.Prop) api.Record { return l }

// named makes a record with a property of each name, with different numbers as values.
func named(names ...string) (r api.Record) {
	for i, n := range names {
		r = append(r, prop(n, number(i)))
	}
	return r
}

// letters makes a record of n properties: a, b, c and so on.
func letters(n int) api.Record {
	return named(strings.Split("abcdefghijklmnopqrst", "")[:n]...)
}

// badRecords has records that are none, and which error is told of each: R1's errors, and their order.
func badRecords() []struct {
	r    api.Record
	want api.Errno
} {
	ok, long := number(1), words(strings.Repeat("z", 21))
	return []struct {
		r    api.Record
		want api.Errno
	}{
		// ErrFull: more than MaxProps, whatever else is wrong.
		{letters(9), api.ErrFull},
		{letters(10), api.ErrFull},
		{letters(20), api.ErrFull},
		{make(api.Record, 9), api.ErrFull},
		{make(api.Record, 1000), api.ErrFull},
		{append(of(prop("B", api.Value{}), prop("A", ok)), letters(8)...), api.ErrFull},
		{named("b", "a", "c", "d", "e", "f", "g", "h", "i"), api.ErrFull},
		// Name.
		{named(""), api.ErrSyntax},
		{named("A"), api.ErrSyntax},
		{named("a1"), api.ErrSyntax},
		{named("a b"), api.ErrSyntax},
		{named("a="), api.ErrSyntax},
		{named("a\x00"), api.ErrSyntax},
		{named("ä"), api.ErrSyntax},
		{named("abcdefghi"), api.ErrSyntax},
		{named("a", "b", "c", "d", "e", "f", "g", "H"), api.ErrSyntax},
		{of(prop("", api.Value{})), api.ErrSyntax},
		{of(prop("A", number(1000001))), api.ErrSyntax},
		{of(prop("abcdefghi", long)), api.ErrSyntax},
		// Check of its value.
		{of(prop("a", api.Value{})), api.ErrType},
		{of(prop("a", api.Value{Type: 4})), api.ErrType},
		{of(prop("a", api.Value{Type: -1})), api.ErrType},
		{of(prop("a", number(1000001))), api.ErrRange},
		{of(prop("a", number(math.MinInt))), api.ErrRange},
		{of(prop("a", truth(2))), api.ErrRange},
		{of(prop("a", api.Value{Type: api.Text, N: 1})), api.ErrRange},
		{of(prop("a", long)), api.ErrFull},
		{of(prop("a", words("\n"))), api.ErrSyntax},
		{of(prop("a", api.Value{Type: api.Int, S: "a"})), api.ErrSyntax},
		{of(prop("a", api.Value{Type: api.Bool, S: long.S})), api.ErrSyntax},
		{append(letters(7), prop("h", truth(-1))), api.ErrRange},
		// ErrClash.
		{named("a", "a"), api.ErrClash},
		{named("b", "a"), api.ErrClash},
		{named("ab", "a"), api.ErrClash},
		{named("b", "ab"), api.ErrClash},
		{named("a", "c", "b"), api.ErrClash},
		{named("a", "b", "a"), api.ErrClash},
		{named("a", "b", "c", "d", "e", "f", "g", "g"), api.ErrClash},
		{of(prop("a", ok), prop("a", ok)), api.ErrClash},
		{of(prop("a", ok), prop("a", words("x"))), api.ErrClash},
		// One by one: the first that has a fault; of it Name, then Check, then ErrClash.
		{of(prop("a", api.Value{}), prop("B", ok)), api.ErrType},
		{of(prop("A", ok), prop("b", api.Value{})), api.ErrSyntax},
		{of(prop("a", number(1000001)), prop("b", api.Value{})), api.ErrRange},
		{of(prop("a", api.Value{}), prop("b", number(1000001))), api.ErrType},
		{of(prop("a", long), prop("b", api.Value{}), prop("C", ok)), api.ErrFull},
		{of(prop("b", ok), prop("a", api.Value{})), api.ErrType},
		{of(prop("b", ok), prop("B", ok)), api.ErrSyntax},
		{of(prop("b", ok), prop("", api.Value{})), api.ErrSyntax},
		{of(prop("b", ok), prop("a", long)), api.ErrFull},
		{of(prop("b", truth(2)), prop("a", ok)), api.ErrRange},
		{of(prop("b", ok), prop("a", ok), prop("c", api.Value{})), api.ErrClash},
		{of(prop("b", ok), prop("b", ok), prop("C", ok)), api.ErrClash},
		{of(prop("a", ok), prop("b", api.Value{}), prop("a", ok)), api.ErrType},
	}
}

// goodRecords has records, and the text of each.
func goodRecords() []struct {
	r    api.Record
	text string
} {
	return []struct {
		r    api.Record
		text string
	}{
		{nil, "-"},
		{api.Record{}, "-"},
		{of(prop("a", number(0))), "a=0"},
		{of(prop("a", number(-1000000))), "a=-1000000"},
		{of(prop("abcdefgh", number(1000000))), "abcdefgh=1000000"},
		{of(prop("true", truth(0)), prop("z", truth(1))), "true=false,z=true"},
		{of(prop("a", words(""))), "a=''"},
		{of(prop("a", words("")), prop("b", words(""))), "a='',b=''"},
		{of(prop("a", words(","))), "a=','"},
		{of(prop("a", words(",")), prop("b", number(1))), "a=',',b=1"},
		{of(prop("a", words("','")), prop("b", words("'"))), "a=''',''',b=''''"},
		{of(prop("a", words("',")), prop("b", words(",'"))), "a=''',',b=','''"},
		{of(prop("a", words("x',b='y"))), "a='x'',b=''y'"},
		{of(prop("a", words("b=1,c=2")), prop("b", words("="))), "a='b=1,c=2',b='='"},
		{of(prop("a", words("-")), prop("b", words("- "))), "a='-',b='- '"},
		{of(prop("a", words(strings.Repeat(",", 20))), prop("b", words(strings.Repeat("'", 20)))), "a='" + strings.Repeat(",", 20) + "',b=" + strings.Repeat("'", 42)},
		{of(prop("a", number(1)), prop("aa", number(2)), prop("ab", number(3)), prop("b", number(4))), "a=1,aa=2,ab=3,b=4"},
		{letters(7), "a=0,b=1,c=2,d=3,e=4,f=5,g=6"},
		{letters(8), "a=0,b=1,c=2,d=3,e=4,f=5,g=6,h=7"},
	}
}

// TestCheck: R1.
func TestCheck(t *testing.T) {
	for _, c := range goodRecords() {
		if err := Check(c.r); err != nil {
			t.Errorf("Check(%v): %v", c.r, err)
		}
	}
	for _, c := range badRecords() {
		if got := told(Check(c.r)); got != c.want {
			t.Errorf("Check(%v): got %v, want %v", c.r, got, c.want)
		}
	}
}

// TestCheckFirst: R1 and P3, each call tells Check's error ahead of its own ones, and answers nothing else.
func TestCheckFirst(t *testing.T) {
	full, bad := letters(8), prop("A", api.Value{})
	for _, c := range badRecords() {
		for _, name := range []string{"a", "zz", "", "A"} {
			if v, err := Get(c.r, name); v != (api.Value{}) || told(err) != c.want {
				t.Errorf("Get(%v, %q): got %v, %v, want %v", c.r, name, v, err, c.want)
			}
			if r, err := Unset(c.r, name); len(r) != 0 || told(err) != c.want {
				t.Errorf("Unset(%v, %q): got %v, %v, want %v", c.r, name, r, err, c.want)
			}
		}
		for _, p := range []api.Prop{prop("zz", number(1)), prop("zz", api.Value{}), bad, {}} {
			if r, err := Set(c.r, p); len(r) != 0 || told(err) != c.want {
				t.Errorf("Set(%v, %v): got %v, %v, want %v", c.r, p, r, err, c.want)
			}
		}
		for _, b := range []api.Record{nil, full, letters(9), of(bad), c.r} {
			if r, err := Join(c.r, b); len(r) != 0 || told(err) != c.want {
				t.Errorf("Join(%v, %v): got %v, %v, want %v", c.r, b, r, err, c.want)
			}
		}
		for _, a := range []api.Record{nil, full, named("zz")} {
			if r, err := Join(a, c.r); len(r) != 0 || told(err) != c.want {
				t.Errorf("Join(%v, %v): got %v, %v, want %v", a, c.r, r, err, c.want)
			}
		}
		if s, err := Print(c.r); s != "" || told(err) != c.want {
			t.Errorf("Print(%v): got %q, %v, want %v", c.r, s, err, c.want)
		}
	}
}

// TestGet: R1, each property of each record, and names that it has not.
func TestGet(t *testing.T) {
	for _, c := range goodRecords() {
		for _, p := range c.r {
			if v, err := Get(c.r, p.Name); v != p.Value || err != nil {
				t.Errorf("Get(%v, %q): got %v, %v, want %v", c.r, p.Name, v, err, p.Value)
			}
		}
		for _, name := range []string{"zz", "aaa", "", "A", "a ", "abcdefghi", "\xff", "-"} {
			if v, err := Get(c.r, name); v != (api.Value{}) || told(err) != api.ErrNone {
				t.Errorf("Get(%v, %q): got %v, %v, want ErrNone", c.r, name, v, err)
			}
		}
	}
}

// TestSet: R1, a new property ahead, between, behind, and in the place of another one.
func TestSet(t *testing.T) {
	r := of(prop("b", number(1)), prop("d", words("x")))
	cases := []struct {
		r    api.Record
		p    api.Prop
		want api.Record
	}{
		{nil, prop("a", truth(1)), of(prop("a", truth(1)))},
		{api.Record{}, prop("a", words("")), of(prop("a", words("")))},
		{r, prop("a", number(2)), of(prop("a", number(2)), r[0], r[1])},
		{r, prop("c", number(2)), of(r[0], prop("c", number(2)), r[1])},
		{r, prop("bb", number(2)), of(r[0], prop("bb", number(2)), r[1])},
		{r, prop("e", number(2)), of(r[0], r[1], prop("e", number(2)))},
		{r, prop("b", truth(0)), of(prop("b", truth(0)), r[1])},
		{r, prop("d", number(2)), of(r[0], prop("d", number(2)))},
		{r, r[1], r},
		{letters(7), prop("h", number(7)), letters(8)},
	}
	for _, c := range cases {
		if got, err := Set(c.r, c.p); !slices.Equal(got, c.want) || err != nil {
			t.Errorf("Set(%v, %v): got %v, %v, want %v", c.r, c.p, got, err, c.want)
		}
	}
	for i := range 8 {
		want := letters(8)
		want[i].Value = words("new")
		if got, err := Set(letters(8), want[i]); !slices.Equal(got, want) || err != nil {
			t.Errorf("Set of %q in a full record: got %v, %v", want[i].Name, got, err)
		}
	}
}

// TestSetErrors: R1 and P3: Name, then Check, then ErrFull.
func TestSetErrors(t *testing.T) {
	long := words(strings.Repeat("z", 21))
	cases := []struct {
		n    int
		p    api.Prop
		want api.Errno
	}{
		{0, prop("", number(1)), api.ErrSyntax},
		{2, prop("A", number(1)), api.ErrSyntax},
		{2, prop("abcdefghi", number(1)), api.ErrSyntax},
		{2, prop("A", api.Value{}), api.ErrSyntax},
		{2, prop("A", long), api.ErrSyntax},
		{2, prop("a", api.Value{}), api.ErrType},
		{2, prop("c", api.Value{Type: 4}), api.ErrType},
		{2, prop("c", number(-1000001)), api.ErrRange},
		{2, prop("c", long), api.ErrFull},
		{2, prop("c", words("\x7f")), api.ErrSyntax},
		{2, prop("c", api.Value{Type: api.Bool, S: long.S}), api.ErrSyntax},
		{7, prop("aa", api.Value{}), api.ErrType},
		{8, prop("i", number(1)), api.ErrFull},
		{8, prop("aa", number(1)), api.ErrFull},
		{8, prop("I", number(1)), api.ErrSyntax},
		{8, prop("i", api.Value{}), api.ErrType},
		{8, prop("i", truth(2)), api.ErrRange},
		{8, prop("i", words("\n")), api.ErrSyntax},
		{8, prop("a", truth(2)), api.ErrRange},
	}
	for _, c := range cases {
		if got, err := Set(letters(c.n), c.p); len(got) != 0 || told(err) != c.want {
			t.Errorf("Set(%v, %v): got %v, %v, want %v", letters(c.n), c.p, got, err, c.want)
		}
	}
}

// TestUnset: R1, each property of each record, and names that it has not.
func TestUnset(t *testing.T) {
	for _, c := range goodRecords() {
		for i, p := range c.r {
			want := slices.Delete(slices.Clone(c.r), i, i+1)
			if got, err := Unset(c.r, p.Name); !slices.Equal(got, want) || err != nil {
				t.Errorf("Unset(%v, %q): got %v, %v, want %v", c.r, p.Name, got, err, want)
			}
		}
		for _, name := range []string{"zz", "aaa", "", "A", "abcdefghi", "\xff"} {
			if got, err := Unset(c.r, name); len(got) != 0 || told(err) != api.ErrNone {
				t.Errorf("Unset(%v, %q): got %v, %v, want ErrNone", c.r, name, got, err)
			}
		}
	}
}

// TestJoin: R1.
func TestJoin(t *testing.T) {
	a := of(prop("b", number(1)), prop("d", words("x")))
	cases := []struct{ a, b, want api.Record }{
		{nil, nil, nil},
		{a, nil, a},
		{nil, a, a},
		{api.Record{}, a, a},
		{a, a, a},
		{a, of(prop("b", number(2))), of(prop("b", number(2)), a[1])},
		{a, of(prop("d", number(2))), of(a[0], prop("d", number(2)))},
		{of(prop("d", number(2))), a, a},
		{a, of(prop("a", number(2)), prop("c", number(3)), prop("e", number(4))), of(prop("a", number(2)), a[0], prop("c", number(3)), a[1], prop("e", number(4)))},
		{named("a", "b"), named("c", "d"), of(prop("a", number(0)), prop("b", number(1)), prop("c", number(0)), prop("d", number(1)))},
		{named("c", "d"), named("a", "b"), of(prop("a", number(0)), prop("b", number(1)), prop("c", number(0)), prop("d", number(1)))},
		{letters(8), letters(8), letters(8)},
		{letters(4), letters(8), letters(8)},
		{letters(8), letters(4), letters(8)},
		{letters(8)[:5], letters(8)[3:], letters(8)},
		{letters(8)[4:], letters(8)[:4], letters(8)},
	}
	for _, c := range cases {
		if got, err := Join(c.a, c.b); !slices.Equal(got, c.want) || err != nil {
			t.Errorf("Join(%v, %v): got %v, %v, want %v", c.a, c.b, got, err, c.want)
		}
	}
}

// TestJoinErrors: R1 and P3: a's error, then b's, then ErrFull.
func TestJoinErrors(t *testing.T) {
	typed, ranged := of(prop("a", api.Value{})), of(prop("a", truth(2)))
	cases := []struct {
		a, b api.Record
		want api.Errno
	}{
		{typed, ranged, api.ErrType},
		{ranged, typed, api.ErrRange},
		{ranged, letters(9), api.ErrRange},
		{letters(9), ranged, api.ErrFull},
		{letters(8), typed, api.ErrType},
		{letters(8), named("z", "y"), api.ErrClash},
		{letters(8), named("i"), api.ErrFull},
		{named("i"), letters(8), api.ErrFull},
		{letters(8), named("aa"), api.ErrFull},
		{letters(16)[:8], letters(16)[8:], api.ErrFull},
		{letters(9)[:5], letters(9)[3:], api.ErrFull},
	}
	for _, c := range cases {
		if got, err := Join(c.a, c.b); len(got) != 0 || told(err) != c.want {
			t.Errorf("Join(%v, %v): got %v, %v, want %v", c.a, c.b, got, err, c.want)
		}
	}
}

// TestJoinAll: R1, all pairs of records of the names a to d: each name's value is b's, else a's.
func TestJoinAll(t *testing.T) {
	some := func(bits, worth int) (r api.Record) {
		for i, n := range []string{"a", "b", "c", "d"} {
			if bits>>i&1 == 1 {
				r = append(r, prop(n, number(worth)))
			}
		}
		return r
	}
	for i := range 16 {
		for j := range 16 {
			var want api.Record
			for k, n := range []string{"a", "b", "c", "d"} {
				if j>>k&1 == 1 {
					want = append(want, prop(n, number(2)))
				} else if i>>k&1 == 1 {
					want = append(want, prop(n, number(1)))
				}
			}
			if got, err := Join(some(i, 1), some(j, 2)); !slices.Equal(got, want) || err != nil {
				t.Errorf("Join(%v, %v): got %v, %v, want %v", some(i, 1), some(j, 2), got, err, want)
			}
		}
	}
}

// TestPrintParse: R2, records and their texts, there and back.
func TestPrintParse(t *testing.T) {
	for _, c := range goodRecords() {
		if got, err := Print(c.r); got != c.text || err != nil {
			t.Errorf("Print(%v): got %q, %v, want %q", c.r, got, err, c.text)
		}
		if got, err := Parse(c.text); !slices.Equal(got, c.r) || err != nil {
			t.Errorf("Parse(%q): got %v, %v, want %v", c.text, got, err, c.r)
		}
	}
}

// TestParseErrors: R2, P1 and P3: ErrSyntax of anything in the text ahead of Check's errors, and no record.
func TestParseErrors(t *testing.T) {
	const eight = "a=0,b=1,c=2,d=3,e=4,f=5,g=6,h=7"
	long := strings.Repeat("z", 21)
	cases := []struct {
		want  api.Errno
		texts []string
	}{
		// No such form.
		{api.ErrSyntax, []string{"", " ", "--", "- ", " -", "-,", ",-", "-,-", "-,a=1", "a=1,-", ",", ",,", "=", "a", "a=", "=1", "1", "'a'", "a:1", "\x00", "\xff"}},
		{api.ErrSyntax, []string{"a=1,", ",a=1", "a=1,,b=2", "a=1, b=2", "a=1 ,b=2", " a=1", "a=1 ", "a =1", "a= 1", "a=1;b=2", "a=1\n", "a=1,b", "a=1b=2", "a==1", "a=1=1", "a=1,b=", "a=b"}},
		// No name.
		{api.ErrSyntax, []string{"A=1", "a1=1", "'a'=1", "abcdefghi=1", "ä=1", "a-=1", "a=1,B=2", "a\x00=1"}},
		// No value, whatever its error is.
		{api.ErrSyntax, []string{"a=x", "a=-0", "a=01", "a=+1", "a=True", "a=1000000000", "a=\"x\"", "a='\n'", "a='\x7f'", "a=-"}},
		{api.ErrSyntax, []string{"a=1000001", "a=-1000001", "a=999999999", "a=1,b=1000001"}},
		{api.ErrSyntax, []string{"a='" + long + "'", "a=1,b='" + long + "'", "a=" + strings.Repeat("'", 44)}},
		// Quotes.
		{api.ErrSyntax, []string{"a='", "a='x", "a=x'", "a='''", "a='x'y'", "a='x,b=1", "a='x,b='y'", "a=1',b='2", "a='x''", "a='x'',b=1", "a='x'b=1", "a='x''y,b=2", "a=','',", "'a=1,b=2'"}},
		// Check's errors.
		{api.ErrClash, []string{"b=1,a=2", "a=1,a=1", "a=1,a=2", "ab=1,a=2", "a=1,c=2,b=3", "a='x',b=1,b='x'", "h=1,a=1,b=1,c=1,d=1,e=1,f=1,g=1"}},
		{api.ErrFull, []string{eight + ",i=8", eight + ",i=8,j=9", eight + ",h=7", eight + ",a=1", "z=1," + eight, strings.Repeat("a=1,", 1000) + "a=1"}},
		// ErrSyntax is the first one, wherever it is.
		{api.ErrSyntax, []string{eight + ",I=8", "A=1," + eight, eight + ",i=x", eight + ",", eight + ",i=8,j", eight + ",i=8,j=9,k=1000001", eight + ",i=8,j=9,k='" + long + "'", strings.Repeat("a=1,", 1000)}},
		{api.ErrSyntax, []string{"b=1,a=2,c=x", "a=1,a=1,A=1", "a=1,a=1,", "b=1,a=1000001", "a=1,a='x"}},
	}
	for _, c := range cases {
		for _, s := range c.texts {
			if got, err := Parse(s); len(got) != 0 || told(err) != c.want {
				t.Errorf("Parse(%q): got %v, %v, want %v", s, got, err, c.want)
			}
		}
	}
}

// TestParseBytes: R2, each byte ahead of a text, behind it, in a name, and in quotes.
func TestParseBytes(t *testing.T) {
	for c := range 256 {
		s := string([]byte{byte(c)})
		letter, digit, printable := 'a' <= c && c <= 'z', '0' <= c && c <= '9', 32 <= c && c <= 126
		cases := []struct {
			text string
			good bool
			want api.Record
		}{
			{s + "b=1", letter, named(s + "b")},
			{"b" + s + "=1", letter, named("b" + s)},
			{"b=1" + s, digit, nil},
			{"b='" + s + "',c=1", printable && s != "'", of(prop("b", words(s)), prop("c", number(1)))},
			{"b=1,c='x" + s + "y'", printable && s != "'", of(prop("b", number(1)), prop("c", words("x"+s+"y")))},
			{"b='x'" + s + "c=1", s == ",", of(prop("b", words("x")), prop("c", number(1)))},
		}
		cases[0].want[0].Value, cases[1].want[0].Value = number(1), number(1)
		cases[2].want = of(prop("b", number(10+c-'0')))
		for _, k := range cases {
			got, err := Parse(k.text)
			if k.good && (err != nil || !slices.Equal(got, k.want)) || !k.good && (len(got) != 0 || told(err) != api.ErrSyntax) {
				t.Errorf("Parse(%q): got %v, %v, want %v, %v", k.text, got, err, k.good, k.want)
			}
		}
	}
}

// TestParseJustSuch: R2, of all short texts of some bytes those that Parse takes are those that Print makes.
func TestParseJustSuch(t *testing.T) {
	const letter = "ab=1',-"
	taken := 0
	var all func(s string, left int)
	all = func(s string, left int) {
		r, err := Parse(s)
		if err == nil {
			taken++
			if back, bad := Print(r); back != s || bad != nil {
				t.Errorf("Parse(%q): %v, which is printed as %q, %v", s, r, back, bad)
			}
		} else if len(r) != 0 || told(err) != api.ErrSyntax && told(err) != api.ErrClash {
			t.Errorf("Parse(%q): got %v, %v", s, r, err)
		}
		for i := 0; left > 0 && i < len(letter); i++ {
			all(s+letter[i:i+1], left-1)
		}
	}
	all("", 7)
	if taken < 100 {
		t.Errorf("of all short texts %d are taken", taken)
	}
}

// TestTexts: R2 and V2, all short texts of commas, quotes and others, there and back, ahead of others and behind them.
func TestTexts(t *testing.T) {
	const letter = ",'=a"
	var all func(s string, left int)
	all = func(s string, left int) {
		r := of(prop("a", words(s)), prop("b", number(1)), prop("c", words(s)))
		one, _ := value.Print(words(s))
		text := "a=" + one + ",b=1,c=" + one
		if got, err := Print(r); got != text || err != nil {
			t.Errorf("Print(%v): got %q, %v, want %q", r, got, err, text)
		}
		if got, err := Parse(text); !slices.Equal(got, r) || err != nil {
			t.Errorf("Parse(%q): got %v, %v, want %v", text, got, err, r)
		}
		for i := 0; left > 0 && i < len(letter); i++ {
			all(s+letter[i:i+1], left-1)
		}
	}
	all("", 5)
}

// TestFresh: P2 and P4, what is handed in stays as it is, behind its length, too, and no answer shares memory with it.
func TestFresh(t *testing.T) {
	whole := letters(8)
	calls := []struct {
		name string
		call func(a, b api.Record) (api.Record, error)
	}{
		{"Set in the place", func(a, b api.Record) (api.Record, error) { return Set(a, prop("b", words("new"))) }},
		{"Set ahead", func(a, b api.Record) (api.Record, error) { return Set(a, prop("aa", words("new"))) }},
		{"Set behind", func(a, b api.Record) (api.Record, error) { return Set(a, prop("z", words("new"))) }},
		{"Unset the first", func(a, b api.Record) (api.Record, error) { return Unset(a, "a") }},
		{"Unset the last", func(a, b api.Record) (api.Record, error) { return Unset(a, "d") }},
		{"Join", Join},
		{"Join with itself", func(a, b api.Record) (api.Record, error) { return Join(a, a) }},
		{"Join with none", func(a, b api.Record) (api.Record, error) { return Join(a, nil) }},
		{"Join none with it", func(a, b api.Record) (api.Record, error) { return Join(nil, a) }},
	}
	for _, c := range calls {
		kept := slices.Clone(whole)
		got, err := c.call(kept[:4], kept[2:6])
		if err != nil {
			t.Errorf("%s: %v", c.name, err)
		}
		if !slices.Equal(kept, whole) {
			t.Errorf("%s: it writes into what is handed in: %v", c.name, kept)
		}
		again := slices.Clone(got)
		for i := range kept {
			kept[i] = api.Prop{}
		}
		if !slices.Equal(got, again) {
			t.Errorf("%s: its answer has memory that was handed in", c.name)
		}
		for i := range got[:cap(got)] {
			got[:cap(got)][i] = prop("x", number(9))
		}
		if slices.ContainsFunc(kept, func(p api.Prop) bool { return p != api.Prop{} }) {
			t.Errorf("%s: its answer reaches into what was handed in", c.name)
		}
	}
}
