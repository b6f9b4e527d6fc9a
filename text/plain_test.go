package text

import (
	"fmt"
	"math/rand"
	"regexp"
	"slices"
	"strconv"
	"strings"
	"testing"

	"kinshape/api"
	"kinshape/graph"
	"kinshape/record"
)

// The form of T1's lines, said another way than the program says it.
var (
	nodeForm = regexp.MustCompile(`(?s)^node (0|[1-9][0-9]{0,3}) ([^ \n]+) ([^\n]*)\n$`)
	tieForm  = regexp.MustCompile(`(?s)^tie ([^ \n]+) (0|[1-9][0-9]{0,3}) (0|[1-9][0-9]{0,3})\n$`)
)

// plainParse reads a text by these forms.
func plainParse(text string) (api.Graph, int, api.Errno) {
	var g api.Graph
	for at, line := range strings.SplitAfter(text, "\n") {
		n, b := nodeForm.FindStringSubmatch(line), tieForm.FindStringSubmatch(line)
		var r api.Record
		var err error
		if n != nil {
			r, err = record.Parse(n[3])
		}
		switch {
		case line == "": // what is behind the last end
		case n != nil && err == nil && g.Ties == nil:
			id, _ := strconv.Atoi(n[1])
			g.Nodes = append(g.Nodes, node(id, n[2], r...))
		case b != nil:
			from, _ := strconv.Atoi(b[2])
			to, _ := strconv.Atoi(b[3])
			g.Ties = append(g.Ties, tie(b[1], from, to))
		default:
			return api.Graph{}, at, api.ErrSyntax
		}
	}
	if err := graph.Check(g); err != nil {
		return api.Graph{}, 0, told(err)
	}
	return g, 0, api.OK
}

// plainPrint of a graph that is one.
func plainPrint(g api.Graph) (text string) {
	for _, n := range g.Nodes {
		r, _ := record.Print(n.Record)
		text += fmt.Sprintf("node %d %s %s\n", n.Id, n.Kind, r)
	}
	for _, t := range g.Ties {
		text += fmt.Sprintf("tie %s %d %d\n", t.Bond, t.From, t.To)
	}
	return text
}

// checkParse holds what Parse answers against the plain telling, and what is printed of it against the text.
func checkParse(t *testing.T, text string) {
	t.Helper()
	want, at, wrong := plainParse(text)
	g, n, err := Parse(text)
	if !sameGraph(g, want) || n != at || told(err) != wrong {
		t.Fatalf("Parse(%q): got %v, %d, %v, want %v, %d, %v", text, g, n, err, want, at, wrong)
	}
	if back, bad := Print(g); err == nil && (back != text || bad != nil) {
		t.Fatalf("Parse(%q): %v, which is printed as %q, %v", text, g, back, bad)
	}
}

// checkPrint holds what Print answers against the plain telling, and what is read of it against the graph.
func checkPrint(t *testing.T, g api.Graph) {
	t.Helper()
	text, err := Print(g)
	if wrong := told(graph.Check(g)); wrong != api.OK {
		if text != "" || told(err) != wrong {
			t.Fatalf("Print(%v): got %q, %v, want %v", g, text, err, wrong)
		}
		return
	}
	if want := plainPrint(g); text != want || err != nil {
		t.Fatalf("Print(%v): got %q, %v, want %q", g, text, err, want)
	}
	if back, at, bad := Parse(text); !sameGraph(back, g) || at != 0 || bad != nil {
		t.Fatalf("Print(%v): %q, which is read as %v, %d, %v", g, text, back, at, bad)
	}
}

// someTexts has texts that are right, of which others are made.
func someTexts() []string {
	return []string{
		"node 1 a x=1,y='it''s'\nnode 20 b -\nnode 300 node x=' , '\ntie p 1 20\ntie tie 300 1\n",
		"node 9 a -\nnode 10 tie z=true\ntie p 9 9\n",
		"tie q 1000 1\n",
	}
}

// TestParseBytes: T1, texts of which a byte is left out, is any other one, or has any one ahead.
func TestParseBytes(t *testing.T) {
	for _, text := range someTexts() {
		for i := range len(text) {
			checkParse(t, text[:i]+text[i+1:])
			for c := range 256 {
				other := string([]byte{byte(c)})
				checkParse(t, text[:i]+other+text[i+1:])
				checkParse(t, text[:i]+other+text[i:])
			}
		}
	}
}

// TestParseMixed: T1, texts into which a piece is put, or of which one is taken, anywhere.
func TestParseMixed(t *testing.T) {
	pieces := []string{"\n", "  ", " -", "- ", "-\n", "node ", "node 1 a -\n", "node 5 b x=1\n", "tie p 1 1\n", "tie z 2 2\n", "node", "tie", " a", "a ", " 1", "1 ", "00", "1000", "-1", "\n\n", "\r\n", "\x00", "ä", "'", "''", ",", ",z=0", "x=1,", "' '"}
	for _, text := range someTexts() {
		for i := range len(text) + 1 {
			for _, piece := range pieces {
				checkParse(t, text[:i]+piece+text[i:])
			}
			for j := i; j <= len(text); j++ {
				checkParse(t, text[:i]+text[j:])
			}
		}
	}
}

// TestParseLines: T1, all lines of a few words, behind a node, and behind a tie.
func TestParseLines(t *testing.T) {
	list := []string{"", "node", "tie", "a", "A", "2", "02", "1001", "-", "x=1", "x='", "'"}
	var all func(line string, left int)
	all = func(line string, left int) {
		checkParse(t, "node 1 a -\n"+line+"\n")
		checkParse(t, "tie a 1 1\n"+line+"\n")
		for _, w := range list {
			if left > 0 {
				all(line+" "+w, left-1)
			}
		}
	}
	for _, w := range list {
		all(w, 3)
	}
	for _, w := range []string{"node 2 a", "tie p 1"} {
		all(w, 3)
	}
}

// maker makes graphs and texts from a seed.
type maker struct{ *rand.Rand }

func pick[T any](m maker, l ...T) T { return l[m.Intn(len(l))] }

func (m maker) value() api.Value {
	switch m.Intn(3) {
	case 0:
		return number(pick(m, 0, 1, -1, 9, 10, -10, 999999, 1000000, -1000000, m.Intn(2000001)-1000000))
	case 1:
		return truth(m.Intn(2))
	}
	var s string
	for range m.Intn(21) {
		s += pick(m, " ", ",", "'", "=", "-", "a", "\\", "~", string(rune(32+m.Intn(95))))
	}
	return words(s)
}

func (m maker) record() (r api.Record) {
	for _, name := range []string{"a", "b", "c", "ca", "k", "node", "tie", "x", "xyzabcde", "y"} {
		if len(r) < api.MaxProps && m.Intn(4) == 0 {
			r = append(r, prop(name, m.value()))
		}
	}
	return r
}

// graph of up to so many nodes and ties; it is one.
func (m maker) graph(n, most int) (g api.Graph) {
	for id := range m.Intn(n + 1) {
		g.Nodes = append(g.Nodes, node(min(1000, 1+id*(1+m.Intn(2))), pick(m, "a", "b", "node", "tie", "abcdefgh"), m.record()...))
	}
	g.Nodes = slices.CompactFunc(sortedNodes(g.Nodes), func(a, b api.Node) bool { return a.Id == b.Id })
	for range m.Intn(most + 1) {
		g.Ties = append(g.Ties, tie(pick(m, "p", "q", "node", "tie", "pq"), pick(m, 1, 2, 9, 10, 99, 100, 1000, 1+m.Intn(1000)), pick(m, 1, 2, 10, 1000, 1+m.Intn(1000))))
	}
	slices.SortFunc(g.Ties, graph.CompareTies)
	g.Ties = slices.Compact(g.Ties)
	return g
}

func sortedNodes(l []api.Node) []api.Node {
	slices.SortStableFunc(l, func(a, b api.Node) int { return a.Id - b.Id })
	return l
}

// spoil one thing of a graph, which may still be one.
func (m maker) spoil(g api.Graph) {
	if len(g.Nodes) > 0 && m.Intn(2) == 0 {
		n := &g.Nodes[m.Intn(len(g.Nodes))]
		switch m.Intn(4) {
		case 0:
			n.Id = pick(m, 0, 1, 5, 1000, 1001, -1)
		case 1:
			n.Kind = pick(m, "", "A", "a b", "abcdefghi", "a\n", "z")
		case 2:
			n.Record = append(n.Record, prop(pick(m, "z", "a", "Z"), m.value()))
		case 3:
			n.Record = append(n.Record, prop("zz", pick(m, api.Value{}, number(1000001), truth(2), words("\n"), words(strings.Repeat("a", 21)))))
		}
		return
	}
	if len(g.Ties) > 0 {
		b := &g.Ties[m.Intn(len(g.Ties))]
		switch m.Intn(3) {
		case 0:
			b.Bond = pick(m, "", "P", "p q", "z", "a")
		case 1:
			b.From = pick(m, 0, 1001, -1, 500)
		case 2:
			b.To = pick(m, 0, 1001, -1, 500)
		}
	}
}

// TestPrintRandom: T1, graphs from a fixed seed, small ones and great ones, right ones and ones of which some things are spoiled.
func TestPrintRandom(t *testing.T) {
	m := maker{rand.New(rand.NewSource(17))}
	right, wrong := 0, 0
	for i := range 6000 {
		g := m.graph(pick(m, 3, 60), pick(m, 3, 120))
		for range i % 3 {
			m.spoil(g)
		}
		checkPrint(t, g)
		if graph.Check(g) == nil {
			right++
		} else {
			wrong++
		}
	}
	if right < 1000 || wrong < 1000 {
		t.Errorf("%d graphs are right, %d are not: too few of either to tell", right, wrong)
	}
}

// line of a text, that is one more often than not.
func (m maker) line() string {
	id := func() string { return pick(m, "0", "1", "2", "3", "1000", "1001", "07", "10000", "-1", "9999") }
	r, _ := record.Print(m.record())
	return pick(m,
		fmt.Sprintf("node %d %s %s\n", 1+m.Intn(1000), pick(m, "a", "b", "tie", "A"), r),
		fmt.Sprintf("node %s a %s\n", id(), r),
		fmt.Sprintf("tie %s %d %d\n", pick(m, "p", "q", "node"), 1+m.Intn(1000), 1+m.Intn(3)),
		fmt.Sprintf("tie p %s %s\n", id(), id()))
}

// text of some lines, the most of which stand in their order.
func (m maker) text() string {
	var l []string
	for range m.Intn(8) {
		l = append(l, m.line())
	}
	if m.Intn(8) > 0 {
		slices.SortStableFunc(l, func(a, b string) int { return strings.Compare(a[:4], b[:4]) })
	}
	return strings.Join(l, "")
}

// TestParseRandom: T1, texts from a fixed seed: lines as they come, and those of graphs.
func TestParseRandom(t *testing.T) {
	m := maker{rand.New(rand.NewSource(170))}
	for range 20_000 {
		checkParse(t, m.text())
	}
	for range 1000 {
		checkParse(t, plainPrint(m.graph(60, 120)))
	}
}

// TestParseChanged: T1, texts of graphs from a fixed seed of which one byte was changed, left out or put in, or two lines changed their places.
func TestParseChanged(t *testing.T) {
	m := maker{rand.New(rand.NewSource(1700))}
	for range 2000 {
		text := plainPrint(m.graph(6, 6))
		if text == "" {
			continue
		}
		for range 20 {
			i := m.Intn(len(text))
			c := string([]byte{pick(m, ' ', '\n', '0', '1', 'a', ',', '\'', '-', '=', byte(m.Intn(256)))})
			checkParse(t, text[:i]+c+text[i+1:])
			checkParse(t, text[:i]+c+text[i:])
			checkParse(t, text[:i]+text[i+1:])
		}
		l := strings.SplitAfter(text, "\n")
		l = l[:len(l)-1]
		i, j := m.Intn(len(l)), m.Intn(len(l))
		l[i], l[j] = l[j], l[i]
		checkParse(t, strings.Join(l, ""))
	}
}
