package rows

import (
	"strings"
	"testing"

	"kinshape/api"
)

// TestSum: W1, ints of both signs, of those that have it; 0 of none.
func TestSum(t *testing.T) {
	for _, c := range []struct {
		name, stood string // records with a blank between
		want        int
	}{
		{"k", "k=3", 3},
		{"k", "k=-3", -3},
		{"k", "k=0", 0},
		{"k", "k=3 k=4", 7},
		{"k", "k=3 k=3 k=3", 9},
		{"k", "k=3 k=-4 k=5 k=-6", -2},
		{"k", "k=7 k=-7", 0},
		{"k", "k=1000000 k=1000000 k=-1000000 k=1", 1_000_001},
		{"k", "k=-1000000 k=-1000000", -2_000_000},
		{"k", "- k=3 m=100 - k=4 x=true", 7},
		{"k", "k=3,m=100 j=5,k=4", 7},
		{"k", "m=1 kk=2 j=4 l=8", 0},
		{"k", "- - -", 0},
		{"k", "-", 0},
		{"n", "n=3 n=4", 7},
		{"n", "k=3", 0},
		{"h", "a=1,b=2,c=3,d=4,e=5,f=6,g=7,h=8 h=1", 9},
		// Other types by other names are not asked.
		{"k", "k=1,m='u' k=2,m=true m='v'", 3},
		{"abcdefgh", "abcdefgh=5", 5},
	} {
		testSum(t, all(strings.Fields(c.stood)...), c.name, c.want)
	}
	testSum(t, nil, "k", 0)
	testSum(t, []api.Record{}, "k", 0)
}

// TestSumCount: W1, as many as may be, and more.
func TestSumCount(t *testing.T) {
	for n := 195; n <= 200; n++ {
		testSum(t, times(n, "k=1000000"), "k", n*1_000_000)
		testSum(t, times(n, "k=-1000000"), "k", n*-1_000_000)
		testSum(t, times(n, "m=1000000"), "k", 0)
	}
	for _, n := range []int{201, 400} {
		testNoSum(t, times(n, "k=1"), "k", api.ErrFull)
	}
}

// TestSumType: W1, a bool or a text in the first, a middle and the last record, whatever the others have.
func TestSumType(t *testing.T) {
	for _, text := range []string{"k=true", "k=false", "k=''", "k='u'", "k='7'", "a=1,k='0',m=2"} {
		for _, n := range []int{1, 2, 3, 5, 200} {
			for _, at := range []int{0, n / 2, n - 1} {
				for _, other := range []string{"k=7", "-", "m=1"} {
					l := times(n, other)
					l[at] = made(text)
					testNoSum(t, l, "k", api.ErrType)
				}
			}
		}
	}
	testNoSum(t, all("k=true", "k='u'"), "k", api.ErrType)
	testNoSum(t, all("n=true"), "n", api.ErrType)
}

// TestSumFirst: W1, Sort's errors are told ahead of a type, wherever it stands.
func TestSumFirst(t *testing.T) {
	for _, text := range []string{"k=true", "k='u'"} {
		testNoSum(t, times(201, text), "k", api.ErrFull)
		for _, b := range badRecords() {
			testNoSum(t, []api.Record{made(text), b.r}, "k", b.want)
			testNoSum(t, []api.Record{b.r, made(text)}, "k", b.want)
			testNoSum(t, []api.Record{made("k=1"), made(text), made("m=1"), b.r, made(text)}, "k", b.want)
		}
		for _, name := range badNames() {
			testNoSum(t, all(text), name, api.ErrSyntax)
		}
	}
}
