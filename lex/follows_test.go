package lex_test

import (
	"slices"
	"strings"
	"testing"
	"unsafe"

	"bonsai/api"
	"bonsai/lex"
	"bonsai/set"
)

// P6.2: the words of what was joined are these words, each where it was written.
func TestThereAndBack(t *testing.T) {
	l := samples()
	r := numbers(2)
	for n := range 1500 {
		words, _ := joined(some(&r, l, n%12))
		text := lex.Join(words)
		tells(t, text, words, 0, api.OK)
		read, _, _ := lex.Words(text)
		if !lex.Same(read, words) || lex.Join(read) != text {
			t.Fatalf("%.200q: read %s, of %s", text, brief(read), brief(words))
		}
	}
	for c := range 256 {
		b := byte(c)
		one := string([]byte{b})
		for _, s := range []api.Bytes{set.Of(one), set.Not(set.Of(one)), set.Range(b, 255), set.Range(0, b), set.Of(string([]byte{b, b / 2}))} {
			backAgain(t, lex.Word{Kind: lex.Class, Set: s})
		}
		for _, s := range []string{one, one + one, "a" + one + "41"} {
			backAgain(t, lex.Word{Kind: lex.Literal, Text: s})
		}
	}
}

// backAgain joins a word with others, and reads it again.
func backAgain(t *testing.T, w lex.Word) {
	t.Helper()
	l := []lex.Word{{Kind: lex.Name, Text: "a"}, w, w, {Kind: lex.Count, Low: 3, High: -1}, w}
	text := lex.Join(l)
	read, at, e := lex.Words(text)
	if !lex.Same(read, l) || at != 0 || e != api.OK {
		t.Fatalf("%.200q: %s, %d, %d", text, brief(read), at, e)
	}
}

// P6.2: as many bytes as may be.
func TestThereAndBackOfMany(t *testing.T) {
	var l []lex.Word
	for range maxSource / 2 {
		l = append(l, lex.Word{Kind: lex.Less})
	}
	text := lex.Join(l)
	read, _, e := lex.Words(text)
	if len(text) != maxSource-1 || e != api.OK || !lex.Same(read, l) {
		t.Errorf("%d bytes: %d words, %d", len(text), len(read), e)
	}
	l = append(l, lex.Word{Kind: lex.Less})
	if _, at, e := lex.Words(lex.Join(l)); at != maxSource || e != api.ErrTooLarge {
		t.Errorf("of one more: %d, %d", at, e)
	}
}

// P6.3, P6.5, P6.1: texts of all sorts, held against the document's words; where the words stand, and the place of an error.
func TestWhereTheyStand(t *testing.T) {
	r := numbers(3)
	var right, wrong int
	for range 6000 {
		text := strewn(&r, true)
		asTheWordsSay(t, text)
		words, at, e := lex.Words(text)
		if e == api.OK {
			stand(t, text, words)
			right++
			continue
		}
		wrong++
		if at > len(text) {
			t.Fatalf("%.200q: the place is %d", text, at)
		}
		ahead, _, e := lex.Words(text[:at])
		if e != api.OK {
			t.Fatalf("%.200q: ahead of %d: %d", text, at, e)
		}
		stand(t, text[:at], ahead)
	}
	if right < 1000 || wrong < 1000 {
		t.Errorf("%d right, %d wrong", right, wrong)
	}
}

// stand says whether words stand one behind the other, with what parts words alone between, and as they are written there.
func stand(t *testing.T, text string, words []lex.Word) {
	t.Helper()
	at := 0
	for _, w := range words {
		if w.At < at || w.To <= w.At || w.To > len(text) {
			t.Fatalf("%.200q: %s", text, brief(words))
		}
		parts(t, text[at:w.At])
		alone, from, e := lex.Words(text[w.At:w.To])
		if from != 0 || e != api.OK || !lex.Same(alone, []lex.Word{w}) || alone[0].At != 0 || alone[0].To != w.To-w.At {
			t.Fatalf("%.200q: %s: %s", text, brief(w), brief(alone))
		}
		if !lex.May(w) {
			t.Fatalf("%.200q: %s may not be", text, brief(w))
		}
		at = w.To
	}
	parts(t, text[at:])
}

// parts says whether a text parts words alone.
func parts(t *testing.T, text string) {
	t.Helper()
	if partForm.FindString(text) != text {
		t.Fatalf("%.200q stands between words", text)
	}
}

// P6.4: with whatever parts words between the words, at least where there was some, they are the same.
func TestPartedAnew(t *testing.T) {
	r := numbers(4)
	for range 4000 {
		text := strewn(&r, false)
		words, _, e := lex.Words(text)
		if e != api.OK { // names that stand next to each other may be too long
			continue
		}
		var anew strings.Builder
		at := 0
		for i, w := range words {
			if w.At > at && i > 0 || r.next(3) == 0 {
				anew.WriteString(partings[r.next(len(partings))])
			}
			anew.WriteString(text[w.At:w.To])
			at = w.To
		}
		if r.next(2) == 0 {
			anew.WriteString(lasts[r.next(len(lasts))])
		}
		again, at, e := lex.Words(anew.String())
		if !lex.Same(again, words) || at != 0 || e != api.OK {
			t.Fatalf("%.200q: %s; parted anew, %.200q: %s, %d, %d", text, brief(words), anew.String(), brief(again), at, e)
		}
		stand(t, anew.String(), again)
	}
}

// P6.5: the first bytes of a text with an error; what is ahead of its place has words, whatever stands from it on.
func TestPlaces(t *testing.T) {
	for _, s := range slices.Concat(nones(), open) {
		for _, ahead := range []string{"", "a <- b\n", "# c\n", `"x" [y] {3} `} {
			words, at, e := lex.Words(ahead + s)
			if words != nil || at != len(ahead) || e != api.ErrForm {
				t.Errorf("%.200q: %s, %d, %d", ahead+s, brief(words), at, e)
			}
			if _, _, e := lex.Words(ahead); e != api.OK {
				t.Errorf("%.200q: %d", ahead, e)
			}
		}
	}
}

// lies tells whether a text lies in another one's memory.
func lies(s, in string) bool {
	if s == "" || in == "" {
		return false
	}
	p, from := uintptr(unsafe.Pointer(unsafe.StringData(s))), uintptr(unsafe.Pointer(unsafe.StringData(in)))
	return p < from+uintptr(len(in)) && from < p+uintptr(len(s))
}

// R1: what Words tells shares no memory with the text, nor with what it told another time; and that is the same.
func TestWordsAreNew(t *testing.T) {
	r := numbers(5)
	for range 1500 {
		text := strewn(&r, false)
		one, at, e := lex.Words(text)
		kept := slices.Clone(one)
		two, at2, e2 := lex.Words(text)
		if !slices.Equal(one, two) || at != at2 || e != e2 {
			t.Fatalf("%.200q: %s, %d, %d, and then %s, %d, %d", text, brief(one), at, e, brief(two), at2, e2)
		}
		for i, w := range one {
			if lies(w.Text, text) || lies(w.Text, two[i].Text) {
				t.Fatalf("%.200q: %s shares its text", text, brief(w))
			}
			for _, v := range one[:i] {
				if lies(w.Text, v.Text) {
					t.Fatalf("%.200q: two words share a text", text)
				}
			}
		}
		clear(two[:cap(two)])
		if !slices.Equal(one, kept) {
			t.Fatalf("%.200q: two answers share their list", text)
		}
	}
}

// R1: what is shown, or joined, shares no memory with the words.
func TestTextsAreNew(t *testing.T) {
	for _, s := range samples() {
		for _, got := range []string{lex.Show(s.word), lex.Join([]lex.Word{s.word}), lex.Join([]lex.Word{s.word, s.word})} {
			if lies(got, s.word.Text) {
				t.Errorf("%.200q shares its memory with %s", got, brief(s.word))
			}
		}
	}
	w := lex.Word{Kind: lex.Name, Text: "abc"}
	if lies(lex.Show(w), lex.Show(w)) {
		t.Error("Show tells one text twice")
	}
}

// R1: what is handed in stays, also behind the lists' ends.
func TestWhatIsHandedInStays(t *testing.T) {
	var words []lex.Word
	for _, s := range samples() {
		words = append(words, placed(s, 7))
	}
	words = append(words, wrongs()...)
	kept := slices.Clone(words)
	for n := range words {
		a, b := words[:n], words[n:]
		for range 2 {
			lex.Join(a)
			lex.Join(b)
			lex.Same(a, b)
			lex.Same(a, words[:n])
			lex.Show(words[n])
			lex.May(words[n])
		}
	}
	if !slices.Equal(words, kept) {
		t.Error("the words were changed")
	}
}

// R1: whatever is handed in, each call ends, and soon.
func TestEndsSoon(t *testing.T) {
	many := slices.Repeat([]lex.Word{{Kind: lex.Name, Text: "a"}, {Kind: lex.Literal, Text: strings.Repeat("\x00", maxLiteral)}, {Kind: lex.Count, Low: 1, High: -1}, {Kind: lex.Class, Set: set.Of("\x01\x03\x05\x07")}}, 20000)
	text := lex.Join(many)
	if want := 20000*(1+1+2+4*maxLiteral+1+4+1+18+1) - 1; len(text) != want {
		t.Errorf("%d bytes, not %d", len(text), want)
	}
	if !lex.Same(many, slices.Clone(many)) {
		t.Error("many are not the same")
	}
	huge := lex.Word{Kind: lex.Name, Text: strings.Repeat("a", 1<<26)}
	if lex.May(huge) || lex.Show(huge) != "" || lex.Join([]lex.Word{huge}) != "" {
		t.Error("a huge name may be")
	}
	other := huge
	other.Text = strings.Repeat("a", 1<<26-1) + "b"
	if lex.Same([]lex.Word{huge}, []lex.Word{other}) {
		t.Error("huge texts are the same")
	}
}
