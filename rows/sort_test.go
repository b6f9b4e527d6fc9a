package rows

import (
	"math/rand"
	"slices"
	"strings"
	"testing"

	"kinshape/api"
)

// TestSort: W1, by a prop that all have, some have and none has, up and down, by one type and by all three.
func TestSort(t *testing.T) {
	for _, c := range []struct {
		name, stood, up, down string // records with a blank between
	}{
		{"k", "k=3 k=1 k=2", "k=1 k=2 k=3", "k=3 k=2 k=1"},
		{"k", "k=1 k=2 k=3", "k=1 k=2 k=3", "k=3 k=2 k=1"},
		{"k", "k=10 k=9 k=-10 k=-9 k=0", "k=-10 k=-9 k=0 k=9 k=10", "k=10 k=9 k=0 k=-9 k=-10"},
		{"k", "k=0 k=1000000 k=-1000000", "k=-1000000 k=0 k=1000000", "k=1000000 k=0 k=-1000000"},
		{"k", "k=true k=false", "k=false k=true", "k=true k=false"},
		{"k", "k='b' k='a' k='aa' k='' k='B' k='9' k='10' k='~' k=''''", "k='' k='''' k='10' k='9' k='B' k='a' k='aa' k='b' k='~'", "k='~' k='b' k='aa' k='a' k='B' k='9' k='10' k='''' k=''"},
		{"k", "k='' k=true k=5 k='z' k=false k=-5", "k=-5 k=5 k=false k=true k='' k='z'", "k='z' k='' k=true k=false k=5 k=-5"},
		{"k", "k='0' k=false k=0", "k=0 k=false k='0'", "k='0' k=false k=0"},
		{"k", "k=false k=1000000", "k=1000000 k=false", "k=false k=1000000"},
		{"k", "k='' k=true", "k=true k=''", "k='' k=true"},
		{"k", "m=1 k=1 - k=0 x=true", "k=0 k=1 m=1 - x=true", "k=1 k=0 m=1 - x=true"},
		{"k", "- k=0", "k=0 -", "k=0 -"},
		{"k", "- k=false", "k=false -", "k=false -"},
		{"k", "- k=''", "k='' -", "k='' -"},
		{"k", "- k=-1000000", "k=-1000000 -", "k=-1000000 -"},
		{"k", "kk=2 k=7 j=1 l=3", "k=7 kk=2 j=1 l=3", "k=7 kk=2 j=1 l=3"},
		{"z", "m=3 k=1 - k=2", "m=3 k=1 - k=2", "m=3 k=1 - k=2"},
		{"abcdefgh", "abcdefgh=2 abcdefg=1 abcdefgh=1", "abcdefgh=1 abcdefgh=2 abcdefg=1", "abcdefgh=2 abcdefgh=1 abcdefg=1"},
		{"m", "k=1,m=3 k=2,m=2 k=3,m=1", "k=3,m=1 k=2,m=2 k=1,m=3", "k=1,m=3 k=2,m=2 k=3,m=1"},
		{"h", "a=1,b=2,c=3,d=4,e=5,f=6,g=7,h=8 a=9,b=8,c=7,d=6,e=5,f=4,g=3,h=2", "a=9,b=8,c=7,d=6,e=5,f=4,g=3,h=2 a=1,b=2,c=3,d=4,e=5,f=6,g=7,h=8", "a=1,b=2,c=3,d=4,e=5,f=6,g=7,h=8 a=9,b=8,c=7,d=6,e=5,f=4,g=3,h=2"},
		{"n", "n=2 n=1", "n=1 n=2", "n=2 n=1"},
		// Equal ones, and those that have it not, stay as they stood.
		{"k", "k=1,z=1 k=0,z=2 k=1,z=3 z=4 k=0,z=5 z=6", "k=0,z=2 k=0,z=5 k=1,z=1 k=1,z=3 z=4 z=6", "k=1,z=1 k=1,z=3 k=0,z=2 k=0,z=5 z=4 z=6"},
		{"k", "a=9,k=1 a=1,k=1 a=5,k=1", "a=9,k=1 a=1,k=1 a=5,k=1", "a=9,k=1 a=1,k=1 a=5,k=1"},
		{"k", "k=true,z=1 k='u',z=2 k=true,z=3 k='u',z=4 k=1,z=5 k=1,z=6", "k=1,z=5 k=1,z=6 k=true,z=1 k=true,z=3 k='u',z=2 k='u',z=4", "k='u',z=2 k='u',z=4 k=true,z=1 k=true,z=3 k=1,z=5 k=1,z=6"},
		{"k", "z=3 z=1 z=2", "z=3 z=1 z=2", "z=3 z=1 z=2"},
		{"k", "- - -", "- - -", "- - -"},
		{"k", "k=1 k=1", "k=1 k=1", "k=1 k=1"},
	} {
		testSort(t, all(strings.Fields(c.stood)...), c.name, false, strings.Fields(c.up)...)
		testSort(t, all(strings.Fields(c.stood)...), c.name, true, strings.Fields(c.down)...)
	}
}

// TestSortOrders: W1, whatever the order in which they stood.
func TestSortOrders(t *testing.T) {
	up := all("k=-2", "k=7", "k=false", "k=true", "k=''", "k='a'", "k='b'")
	down := slices.Clone(up)
	slices.Reverse(down)
	var place func(l, left []api.Record)
	place = func(l, left []api.Record) {
		if len(left) == 0 {
			testSorted(t, append(slices.Clone(l), made("m=1")), "k", false, append(slices.Clone(up), made("m=1")))
			testSorted(t, append([]api.Record{nil}, l...), "k", true, append(slices.Clone(down), nil))
			return
		}
		for i, r := range left {
			place(append(slices.Clone(l), r), slices.Delete(slices.Clone(left), i, i+1))
		}
	}
	place(nil, up)
}

// TestSortCount: W1, no records, one, as many as may be, and more.
func TestSortCount(t *testing.T) {
	for _, l := range [][]api.Record{nil, {}} {
		testSort(t, l, "k", false)
		testSort(t, l, "k", true)
	}
	for _, text := range []string{"-", "k=1", "k='u'", "m=1", "a=1,b=2,c=3,d=4,e=5,f=6,g=7,h=8"} {
		testSort(t, all(text), "k", false, text)
		testSort(t, all(text), "k", true, text)
	}
	for n := 195; n <= 200; n++ {
		testSorted(t, times(n, "k=1"), "k", false, times(n, "k=1"))
		testSorted(t, times(n, "m=1"), "k", true, times(n, "m=1"))
	}
	for _, n := range []int{201, 202, 400, 10_000} {
		for _, text := range []string{"-", "k=1", "k=true", "m=1"} {
			testNoSort(t, times(n, text), "k", api.ErrFull)
		}
	}
}

// TestSortStood: W1, as many as may be, a few values alone: those that are equal stand as they stood, whichever way.
func TestSortStood(t *testing.T) {
	values := []api.Value{words("u"), number(3), {}, truth(1), number(-3), words(""), {}, truth(0)}
	var l []api.Record
	for i := range 200 {
		r := api.Record{prop("place", number(i))}
		if v := values[i*i%7%len(values)]; v.Type != 0 {
			r = api.Record{prop("k", v), prop("place", number(i))}
		}
		l = append(l, r)
	}
	for _, down := range []bool{false, true} {
		got, err := Sort(l, "k", down)
		if len(got) != 200 || err != nil {
			t.Fatalf("Sort: got %v, %v", got, err)
		}
		for i := range got[1:] {
			v, has := plainValue(got[i], "k")
			w, too := plainValue(got[i+1], "k")
			ahead, _ := plainValue(got[i], "place")
			behind, _ := plainValue(got[i+1], "place")
			if v == w && has == too && ahead.N >= behind.N {
				t.Errorf("down %v: %v stands ahead of %v", down, got[i], got[i+1])
			}
			if plainBefore(got[i+1], got[i], "k", down) {
				t.Errorf("down %v: %v stands ahead of %v", down, got[i], got[i+1])
			}
		}
	}
	testPlainly(t, l, "k")
}

// anyRecords has so many records, of few names and values, so that many are equal.
func anyRecords(random *rand.Rand, n int) (l []api.Record) {
	values := []api.Value{number(0), number(1), number(-1), number(1_000_000), truth(0), truth(1), words(""), words("a"), words("it's"), words("1")}
	for range n {
		var r api.Record
		for _, name := range []string{"a", "k", "m", "n", "x"} {
			if random.Intn(3) > 0 {
				r = append(r, prop(name, values[random.Intn(len(values))]))
			}
		}
		l = append(l, r)
	}
	return l
}

// TestMade: W1, records from a fixed seed, against the plain tellings, few and many, with a record that is wrong at times.
func TestMade(t *testing.T) {
	random := rand.New(rand.NewSource(13))
	bad := badRecords()
	for i := range 3_000 {
		n := random.Intn(12)
		if i%30 == 0 {
			n = 150 + random.Intn(55)
		}
		l := anyRecords(random, n)
		if n > 0 && random.Intn(5) == 0 {
			l[random.Intn(n)] = bad[random.Intn(len(bad))].r
		}
		for _, name := range []string{"a", "k", "m", "n", "x", "z", "K", ""} {
			testPlainly(t, l, name)
		}
	}
}

// TestAskedRecords: W1, each of chapter 2's errors in the first, a middle and the last record, ahead of what is wrong with the name; of Sort, Group (ahead of ErrShape, too) and Sum.
func TestAskedRecords(t *testing.T) {
	for _, b := range badRecords() {
		for _, n := range []int{1, 2, 3, 5, 200} {
			for _, at := range []int{0, n / 2, n - 1} {
				l := times(n, "k=1")
				l[at] = b.r
				for _, name := range []string{"k", "m", "z", "n", "", "K"} {
					testWrong(t, l, name, b.want)
				}
			}
		}
	}
}

// TestAskedFull: W1, too many are told ahead of what is wrong with one of them, or with the name; of Sort, Group (ahead of ErrShape, too) and Sum (ahead of ErrType, too).
func TestAskedFull(t *testing.T) {
	for _, n := range []int{201, 202, 1000} {
		for _, text := range []string{"-", "k=1", "k=true", "k='u',n=1"} {
			for _, name := range []string{"k", "n", "z", "", "K"} {
				testWrong(t, times(n, text), name, api.ErrFull)
			}
		}
		for _, b := range badRecords() {
			for _, at := range []int{0, n / 2, n - 1} {
				l := times(n, "k=1")
				l[at] = b.r
				testWrong(t, l, "k", api.ErrFull)
				testWrong(t, l, "", api.ErrFull)
			}
		}
	}
}

// TestAskedName: W1, a name that is none, with records that are right, and with none.
func TestAskedName(t *testing.T) {
	for _, name := range badNames() {
		for _, l := range [][]api.Record{nil, {}, all("-"), all("k=1"), all("k=true", "k='u'"), times(200, "k=1")} {
			testWrong(t, l, name, api.ErrSyntax)
		}
	}
}

// TestAskedFirst: P3 of DOC.md, of several records that are wrong the first one is told.
func TestAskedFirst(t *testing.T) {
	for _, a := range badRecords() {
		for _, b := range badRecords() {
			testWrong(t, []api.Record{made("k=true"), a.r, made("k=1"), b.r}, "k", a.want)
			testWrong(t, []api.Record{a.r, b.r}, "n", a.want)
		}
	}
}
