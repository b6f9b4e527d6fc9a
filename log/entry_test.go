package log

import (
	"math"
	"reflect"
	"strings"
	"testing"

	"kinshape/api"
)

// someEntries have each What of ops and of changes, with lists of none, one and more.
func someEntries() []entry {
	l := []entry{{}}
	for _, o := range ops(newOp(node(1, "a", "-")), newOp(node(1000, "abcdefgh", "aa=-1000000,b=1000000,c=true,d=false,e='',f=' 5 ''5 ',g=0,h='12345678901234567890'")), gone(7), set(7, "k", number(-5)), set(7, "m", words("u v")), unset(7, "m"), bind("p", 1, 1000), loose("p", 1000, 1)) {
		l = append(l, entry{ops: ops(o)}, entry{ops: ops(o, gone(1), o)})
	}
	for _, c := range []api.Change{
		addKind(api.Kind{Name: "a"}), addKind(breed("b", "a", field("k", api.Int))), addKind(breed("c", "a b", key(field("k", api.Int)), must(field("m", api.Text)), field("x", api.Bool))), dropKind("a"),
		addField("a", field("k", api.Int)), addWith("a", must(field("m", api.Text)), words(" 1 ")), dropField("a", "m"), addBond(bond("p a b", 0, -1)), addBond(bond("p a b", 20, 20)), dropBond("p"), renameTo("a", "k", "m"), setTo("p", 1, -1),
	} {
		l = append(l, entry{alters: true, change: c})
	}
	return l
}

// bare has nil for each list that is empty: P4 of DOC.md, they are the same.
func bare(e entry) entry {
	e.ops = append([]api.Op(nil), e.ops...)
	for i, o := range e.ops {
		e.ops[i].Node.Record = append(api.Record(nil), o.Node.Record...)
	}
	e.change.Kind.Of = append([]string(nil), e.change.Kind.Of...)
	e.change.Kind.Fields = append([]api.Field(nil), e.change.Kind.Fields...)
	return e
}

// TestThereAndBack: L1 and L2, of each record comes what it was made of, whatever stands behind it; no beginning of it is a whole one.
func TestThereAndBack(t *testing.T) {
	for _, e := range someEntries() {
		b := written(e)
		if len(b) < 2 {
			t.Errorf("%v has %d bytes", e, len(b))
		}
		for _, behind := range []string{"", " ", "5", "5 ", "10 0 ", strings.Repeat("9", 30), string(b)} {
			got, length, whole := read(append(written(e), behind...))
			if !reflect.DeepEqual(bare(got), bare(e)) || length != len(b) || !whole {
				t.Errorf("%v, %q: got %v, %d, %v, want %d", e, behind, got, length, whole, len(b))
			}
		}
		for n := range b {
			if got, length, whole := read(b[:n]); whole || length != 0 || !reflect.DeepEqual(got, entry{}) {
				t.Errorf("%v: of the first %d bytes got %v, %d, %v", e, n, got, length, whole)
			}
		}
	}
}

// TestNumbers: L1, each number that an int has comes back as it was.
func TestNumbers(t *testing.T) {
	for _, n := range []int{0, 1, -1, 9, 10, 1000, -1000, 1_000_000, -1_000_000, math.MaxInt, math.MinInt} {
		var w writer
		w.number(&n)
		r := reader{w.bytes}
		var got int
		if r.number(&got); got != n || len(r.rest) > 0 {
			t.Errorf("%d: got %d, and %q is left", n, got, r.rest)
		}
	}
}
