package rows

import (
	"fmt"
	"slices"
	"strings"
	"testing"

	"kinshape/api"
)

// TestGroup: W1, of each value that one has, several have, or none has, a record of it and of how many have it, rising.
func TestGroup(t *testing.T) {
	for _, c := range []struct {
		name, stood, want string // records with a blank between
	}{
		{"k", "k=3", "k=3,n=1"},
		{"k", "k=3 k=3", "k=3,n=2"},
		{"k", "k=3 k=1 k=2", "k=1,n=1 k=2,n=1 k=3,n=1"},
		{"k", "k=3 k=1 k=3 k=2 k=3 k=1", "k=1,n=2 k=2,n=1 k=3,n=3"},
		{"k", "k=10 k=9 k=-10 k=-9 k=0", "k=-10,n=1 k=-9,n=1 k=0,n=1 k=9,n=1 k=10,n=1"},
		{"k", "k=true k=false k=true", "k=false,n=1 k=true,n=2"},
		{"k", "k='b' k='a' k='' k='b' k='10' k='9' k='a'", "k='',n=1 k='10',n=1 k='9',n=1 k='a',n=2 k='b',n=2"},
		{"k", "k='' k=true k=5 k='z' k=false k=-5 k=true", "k=-5,n=1 k=5,n=1 k=false,n=1 k=true,n=2 k='',n=1 k='z',n=1"},
		{"k", "k=0 k=false k='' k='0' k='false'", "k=0,n=1 k=false,n=1 k='',n=1 k='0',n=1 k='false',n=1"},
		{"k", "k=1 k=true k='1' k='true' k=1", "k=1,n=2 k=true,n=1 k='1',n=1 k='true',n=1"},
		{"k", "- k=0 m=1 - k=0 x=true", "k=0,n=2"},
		{"k", "- m=1 kk=2", ""},
		{"k", "- - -", ""},
		{"k", "-", ""},
		{"z", "k=1 m=2", ""},
		// What else they have is not told, not by `n` either.
		{"k", "k=1,m=1 k=1,m=2 a=1,k=1", "k=1,n=3"},
		{"k", "k=1,n=77 k=1,n='u' n=5", "k=1,n=2"},
		{"x", "n=77,x=1 n='u',x=1 n=5", "n=2,x=1"},
		// Names ahead of `n` and behind it.
		{"a", "a=1", "a=1,n=1"},
		{"m", "m=1", "m=1,n=1"},
		{"mzzzzzzz", "mzzzzzzz=1", "mzzzzzzz=1,n=1"},
		{"na", "na=1", "n=1,na=1"},
		{"nn", "nn=1 nn=1", "n=2,nn=1"},
		{"o", "o=1", "n=1,o=1"},
		{"x", "x=2 x=1 x=2", "n=1,x=1 n=2,x=2"},
		{"zzzzzzzz", "zzzzzzzz=1", "n=1,zzzzzzzz=1"},
		{"h", "a=1,b=2,c=3,d=4,e=5,f=6,g=7,h=8 h=8", "h=8,n=2"},
	} {
		testGroup(t, all(strings.Fields(c.stood)...), c.name, strings.Fields(c.want)...)
	}
	testGroup(t, nil, "k")
	testGroup(t, []api.Record{}, "k")
}

// TestGroupNames: W1, each letter as the name, and with each one behind it: what is answered is a record.
func TestGroupNames(t *testing.T) {
	for a := 'a'; a <= 'z'; a++ {
		for _, name := range []string{string(a), string(a) + "a", string(a) + "n", string(a) + "zzzzzzz", "n" + string(a)} {
			want := fmt.Sprintf("%s='u',n=3", name)
			if name > "n" {
				want = fmt.Sprintf("n=3,%s='u'", name)
			}
			if name != "n" {
				testGroup(t, times(3, name+"='u'"), name, want)
			}
		}
	}
}

// TestGroupCount: W1, as many as may be, all alike and all of their own.
func TestGroupCount(t *testing.T) {
	for n := 195; n <= 200; n++ {
		testGroup(t, times(n, "k='u'"), "k", fmt.Sprintf("k='u',n=%d", n))
		testGroup(t, times(n, "m='u'"), "k")
	}
	var l []api.Record
	var want []string
	for i := range 200 {
		l = append(l, api.Record{prop("k", number(i*77%200-100))})
		want = append(want, fmt.Sprintf("k=%d,n=1", i-100))
	}
	testGroup(t, l, "k", want...)
	slices.Reverse(l)
	testGroup(t, l, "k", want...)
	for _, n := range []int{201, 400} {
		testNoGroup(t, times(n, "k='u'"), "k", api.ErrFull)
	}
}

// TestGroupCountName: W1, `n` is no name to group by, whether one has it or not; Sort's errors are told ahead of it.
func TestGroupCountName(t *testing.T) {
	for _, l := range [][]api.Record{nil, {}, all("-"), all("k=1"), all("n=1"), all("n='u'", "n=true", "m=1"), times(200, "n=1")} {
		testNoGroup(t, l, "n", api.ErrShape)
	}
	testNoGroup(t, times(201, "n=1"), "n", api.ErrFull)
	for _, b := range badRecords() {
		testNoGroup(t, []api.Record{b.r}, "n", b.want)
		testNoGroup(t, []api.Record{made("n=1"), b.r, made("n=1")}, "n", b.want)
	}
}
