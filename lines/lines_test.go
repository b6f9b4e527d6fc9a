package lines

import (
	"math"
	"slices"
	"strconv"
	"strings"
	"testing"
)

// TestOf: each line with its number, and with its end, if it has one.
func TestOf(t *testing.T) {
	cases := []struct {
		text string
		want []string
	}{
		{"", nil},
		{"\n", []string{"\n"}},
		{"\n\n", []string{"\n", "\n"}},
		{"a", []string{"a"}},
		{"a\n", []string{"a\n"}},
		{"a\nb", []string{"a\n", "b"}},
		{"a\n\nb c\n", []string{"a\n", "\n", "b c\n"}},
		{"\na\r\n\x00\xff\n ", []string{"\n", "a\r\n", "\x00\xff\n", " "}},
	}
	for _, c := range cases {
		var got []string
		for at, line := range Of(c.text) {
			if at != len(got) {
				t.Errorf("Of(%q): line %d is told as %d", c.text, len(got), at)
			}
			got = append(got, line)
		}
		if !slices.Equal(got, c.want) {
			t.Errorf("Of(%q): got %q, want %q", c.text, got, c.want)
		}
	}
}

// TestOfStops: whoever goes over lines may stop at any of them, and begin again.
func TestOfStops(t *testing.T) {
	all := Of("a\nb\nc\nd")
	for stop := range 4 {
		var got string
		for at, line := range all {
			got += line
			if at == stop {
				break
			}
		}
		if want := "a\nb\nc\nd"[:min(2*stop+2, 7)]; got != want {
			t.Errorf("up to line %d: got %q, want %q", stop, got, want)
		}
	}
}

// TestMade: words with a blank between, and the end.
func TestMade(t *testing.T) {
	cases := []struct {
		words []string
		want  string
	}{
		{nil, "\n"},
		{[]string{"a"}, "a\n"},
		{[]string{"a", "", "b"}, "a  b\n"},
		{[]string{"node", "1", "a", "x='a b'"}, "node 1 a x='a b'\n"},
	}
	for _, c := range cases {
		before := slices.Clone(c.words)
		if got := Made(c.words...); got != c.want || !slices.Equal(c.words, before) {
			t.Errorf("Made(%q): got %q, want %q", c.words, got, c.want)
		}
	}
}

// TestNumber: each number of up to five digits by some bounds, with a sign or a needless 0, too.
func TestNumber(t *testing.T) {
	for n := range 100_000 {
		word := strconv.Itoa(n)
		for _, most := range []int{-1, 0, 1, 99, 9999, math.MaxInt} {
			got, ok := Number(word, most)
			if ok != (n <= most) || ok && got != n || !ok && got != 0 {
				t.Errorf("Number(%q, %d): got %d, %v", word, most, got, ok)
			}
		}
		for _, ahead := range []string{"0", "00", "-", "+", "-0", "+0", " ", "_", "\x00"} {
			if got, ok := Number(ahead+word, math.MaxInt); ok || got != 0 {
				t.Errorf("Number(%q): got %d, %v", ahead+word, got, ok)
			}
		}
	}
}

// TestNumberNone: words that are none.
func TestNumberNone(t *testing.T) {
	for _, word := range []string{"", " ", "-", "+", "a", "1a", "1 ", " 1", "1\n", "1.", "1.0", "1e1", "0x1", "1_0", "٣", "\xff", "9223372036854775808", strings.Repeat("0", 1000), strings.Repeat("9", 1000)} {
		if got, ok := Number(word, math.MaxInt); ok || got != 0 {
			t.Errorf("Number(%q): got %d, %v", word, got, ok)
		}
	}
}
