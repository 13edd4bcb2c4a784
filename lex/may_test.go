package lex_test

import (
	"math"
	"slices"
	"strings"
	"testing"

	"bonsai/api"
	"bonsai/lex"
	"bonsai/set"
)

// may is what the document says of May.
func may(w lex.Word) bool {
	none := api.Bytes{}
	switch {
	case w.Kind == nameKind:
		return nameForm.FindString(w.Text) == w.Text && 1 <= len(w.Text) && len(w.Text) <= maxName && w.Set == none && w.Low == 0 && w.High == 0
	case 2 <= w.Kind && w.Kind <= 13:
		return w.Text == "" && w.Set == none && w.Low == 0 && w.High == 0
	case w.Kind == countKind:
		rising := w.High == -1 || w.Low <= w.High && w.High <= maxRep
		return w.Text == "" && w.Set == none && 0 <= w.Low && w.Low <= maxRep && rising
	case w.Kind == literalKind:
		return len(w.Text) <= maxLiteral && w.Set == none && w.Low == 0 && w.High == 0
	case w.Kind == classKind:
		return w.Text == "" && w.Low == 0 && w.High == 0
	}
	return false
}

// fields are what a word may have, and may not, in each of its fields.
var (
	someTexts = []string{"", "a", "_9", "9a", "a b", "\xff", "<-", ".", strings.Repeat("q", maxName), strings.Repeat("q", maxName+1), strings.Repeat("q", maxLiteral), strings.Repeat("q", maxLiteral+1), strings.Repeat("q", 100000)}
	someSets  = []api.Bytes{{}, {1}, {0, 1}, {0, 0, 1}, {0, 0, 0, 1 << 63}, set.All()}
	someNums  = []int{0, 1, 98, 99, 100, -1, -2, 1 << 32, math.MaxInt, math.MinInt}
)

// P6.1: May of words of each kind, also of those that are none, with each field that they may have, and may not, wherever they stand.
func TestMay(t *testing.T) {
	yes := 0
	for kind := range 256 {
		for _, text := range someTexts {
			for _, set := range someSets {
				for i, low := range someNums {
					for _, high := range someNums {
						w := lex.Word{uint8(kind), someNums[i], high, text, set, low, high}
						if kind > 20 && (low != 0 || text != "") {
							continue
						}
						want := may(w)
						if got := lex.May(w); got != want {
							t.Fatalf("May(%s) = %v", brief(w), got)
						}
						if want {
							yes++
						}
					}
				}
			}
		}
	}
	if yes == 0 {
		t.Error("no word may be")
	}
}

// P6.1: what may be, and may not, written out.
func TestMayWrittenOut(t *testing.T) {
	full := set.All()
	for _, c := range []struct {
		w  lex.Word
		is bool
	}{
		{lex.Word{}, false}, {lex.Word{Kind: 17}, false}, {lex.Word{Kind: 255}, false},
		{lex.Word{Kind: lex.Name, Text: "a"}, true}, {lex.Word{Kind: lex.Name, At: -7, To: -9, Text: "a"}, true}, {lex.Word{Kind: lex.Name}, false}, {lex.Word{Kind: lex.Name, Text: "1"}, false}, {lex.Word{Kind: lex.Name, Text: "a "}, false},
		{lex.Word{Kind: lex.Name, Text: "a", Low: 1}, false}, {lex.Word{Kind: lex.Name, Text: "a", High: 1}, false}, {lex.Word{Kind: lex.Name, Text: "a", Set: full}, false},
		{lex.Word{Kind: lex.Arrow}, true}, {lex.Word{Kind: lex.Arrow, At: 5, To: 7}, true}, {lex.Word{Kind: lex.Arrow, Text: "<-"}, false}, {lex.Word{Kind: lex.Colon, High: -1}, false}, {lex.Word{Kind: lex.Slash, Set: set.Of("/")}, false}, {lex.Word{Kind: lex.Star, High: -1}, false},
		{lex.Word{Kind: lex.Count}, true}, {lex.Word{Kind: lex.Count, High: -1}, true}, {lex.Word{Kind: lex.Count, Low: 99, High: 99}, true}, {lex.Word{Kind: lex.Count, Low: 99, High: -1}, true}, {lex.Word{Kind: lex.Count, Low: 100, High: -1}, false}, {lex.Word{Kind: lex.Count, Low: 2, High: 1}, false}, {lex.Word{Kind: lex.Count, Low: 0, High: 100}, false}, {lex.Word{Kind: lex.Count, High: -2}, false}, {lex.Word{Kind: lex.Count, Low: -1, High: -1}, false}, {lex.Word{Kind: lex.Count, Text: "{0}"}, false}, {lex.Word{Kind: lex.Count, Set: full}, false},
		{lex.Word{Kind: lex.Literal}, true}, {lex.Word{Kind: lex.Literal, Text: "\x00\xff\n"}, true}, {lex.Word{Kind: lex.Literal, Text: strings.Repeat("\xff", maxLiteral)}, true}, {lex.Word{Kind: lex.Literal, Text: strings.Repeat("a", maxLiteral+1)}, false}, {lex.Word{Kind: lex.Literal, Low: 1}, false}, {lex.Word{Kind: lex.Literal, Set: full}, false},
		{lex.Word{Kind: lex.Class}, true}, {lex.Word{Kind: lex.Class, Set: full}, true}, {lex.Word{Kind: lex.Class, Text: "."}, false}, {lex.Word{Kind: lex.Class, High: 1}, false},
	} {
		if got := lex.May(c.w); got != c.is {
			t.Errorf("May(%s) = %v", brief(c.w), got)
		}
	}
}

// P6.1: Show of each kind; of words that may not be nothing is shown.
func TestShow(t *testing.T) {
	for _, s := range samples() {
		for _, at := range []int{0, 3, -1} {
			w := placed(s, at)
			if got := lex.Show(w); got != s.shown {
				t.Errorf("Show(%s) = %.200q, not %.200q", brief(w), got, s.shown)
			}
			w.At, w.To = at, at
			if got := lex.Show(w); got != s.shown {
				t.Errorf("Show(%s) = %.200q, not %.200q", brief(w), got, s.shown)
			}
		}
	}
	for _, w := range wrongs() {
		if lex.May(w) {
			t.Fatalf("May(%s)", brief(w))
		}
		if got := lex.Show(w); got != "" {
			t.Errorf("Show(%s) = %.200q", brief(w), got)
		}
	}
	for low := range maxRep + 1 {
		for high := -1; high <= maxRep; high++ {
			w := lex.Word{Kind: countKind, Low: low, High: high}
			got := lex.Show(w)
			if high != -1 && high < low {
				if got != "" {
					t.Errorf("Show(%s) = %.200q", brief(w), got)
				}
				continue
			}
			if again, is := countAt(got); !is || again.To != len(got) || again.Low != low || again.High != high || high == low && strings.Contains(got, ",") {
				t.Errorf("Show(%s) = %.200q", brief(w), got)
			}
		}
	}
}

// wrongs are samples with one thing in them that may not be.
func wrongs() []lex.Word {
	var l []lex.Word
	for _, s := range samples() {
		for _, change := range []func(*lex.Word){
			func(w *lex.Word) { w.Kind = 0 }, func(w *lex.Word) { w.Kind = 17 }, func(w *lex.Word) { w.Kind += 100 },
			func(w *lex.Word) { w.Text = "a " + strings.Repeat("b", maxLiteral) },
			func(w *lex.Word) { w.Set[2] ^= 1 << 9 },
			func(w *lex.Word) { w.Low = -3 }, func(w *lex.Word) { w.High = -3 }, func(w *lex.Word) { w.Low, w.High = 100, 100 },
		} {
			w := s.word
			if change(&w); !may(w) {
				l = append(l, w)
			}
		}
	}
	return l
}

// joined is what the document says of Join, of samples.
func joined(l []sample) (words []lex.Word, text string) {
	for i, s := range l {
		if i > 0 {
			text += " "
		}
		w := s.word
		w.At, w.To = len(text), len(text)+len(s.shown)
		words, text = append(words, w), text+s.shown
	}
	return words, text
}

// P6.1: Join of none, of one, of many; with one that may not be nothing is told, wherever that one stands.
func TestJoin(t *testing.T) {
	for _, none := range [][]lex.Word{nil, {}} {
		if got := lex.Join(none); got != "" {
			t.Errorf("Join of none: %q", got)
		}
	}
	l := samples()
	r := numbers(1)
	for n := range 600 {
		words, want := joined(some(&r, l, n%9))
		for i := range words {
			words[i].At, words[i].To = r.next(9), r.next(9)
		}
		if got := lex.Join(words); got != want {
			t.Errorf("Join(%s) = %.200q, not %.200q", brief(words), got, want)
		}
	}
	_, every := joined(l)
	var words []lex.Word
	for _, s := range l {
		words = append(words, s.word)
	}
	if got := lex.Join(words); got != every {
		t.Errorf("Join of all: %q, not %q", got, every)
	}
	for _, wrong := range wrongs() {
		for _, at := range []int{0, 1, 5, len(words)} {
			if got := lex.Join(slices.Insert(slices.Clone(words), at, wrong)); got != "" {
				t.Errorf("Join with %s at %d: %.200q", brief(wrong), at, got)
			}
		}
		if got := lex.Join([]lex.Word{wrong}); got != "" {
			t.Errorf("Join of %s: %.200q", brief(wrong), got)
		}
	}
}

// P6.1: joined, written out.
func TestJoinWrittenOut(t *testing.T) {
	words := []lex.Word{{Kind: lex.Name, Text: "a"}, {Kind: lex.Arrow}, {Kind: lex.Not}, {Kind: lex.Class, Set: set.All()}, {Kind: lex.Slash}, {Kind: lex.Less}, {Kind: lex.Name, Text: "n"}, {Kind: lex.Colon}, {Kind: lex.Literal, Text: "x\n"}, {Kind: lex.Count, High: -1}, {Kind: lex.Greater}, {Kind: lex.Class}}
	if got, want := lex.Join(words), `a <- ! . / < n : "x\n" {0,} > []`; got != want {
		t.Errorf("Join: %q, not %q", got, want)
	}
}

// P6.1: Same of lists that are the same, but for where the words stand; of lists that differ in one field alone, or in how many they are, or in their row.
func TestSame(t *testing.T) {
	same := func(a, b []lex.Word, want bool) {
		t.Helper()
		if lex.Same(a, b) != want || lex.Same(b, a) != want {
			t.Errorf("Same(%s, %s) is not %v", brief(a), brief(b), want)
		}
	}
	same(nil, nil, true)
	same(nil, []lex.Word{}, true)
	same(nil, []lex.Word{{}}, false)
	var words []lex.Word
	for _, s := range samples() {
		words = append(words, s.word)
	}
	same(words, slices.Clone(words), true)
	same(words, words[1:], false)
	same(words, words[:len(words)-1], false)
	same(words, append(slices.Clone(words), words[0]), false)
	for i := range words {
		for j, change := range []func(*lex.Word){
			func(w *lex.Word) { w.At++ }, func(w *lex.Word) { w.To-- }, func(w *lex.Word) { w.At, w.To = w.To, 9 },
			func(w *lex.Word) { w.Kind++ }, func(w *lex.Word) { w.Text += "a" }, func(w *lex.Word) { w.Low++ }, func(w *lex.Word) { w.High-- },
			func(w *lex.Word) { w.Set[0] ^= 1 }, func(w *lex.Word) { w.Set[1] ^= 1 << 63 }, func(w *lex.Word) { w.Set[2] ^= 1 << 5 }, func(w *lex.Word) { w.Set[3] ^= 1 << 62 },
		} {
			other := slices.Clone(words)
			change(&other[i])
			same(words, other, j < 3)
			same(words[i:i+1], other[i:i+1], j < 3)
		}
		turned := slices.Clone(words)
		k := (i + 1) % len(words)
		turned[i], turned[k] = turned[k], turned[i]
		same(words, turned, words[i] == words[k])
	}
	long := strings.Repeat("q", maxLiteral-1)
	same([]lex.Word{{Kind: lex.Literal, Text: long + "a"}}, []lex.Word{{Kind: lex.Literal, Text: long + "b"}}, false)
}
