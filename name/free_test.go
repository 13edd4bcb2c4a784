package name_test

import (
	"math/big"
	"slices"
	"strconv"
	"strings"
	"testing"

	"bonsai/name"
)

// freeOf is what the document says of Free: one after the other, each asked of all that are used.
func freeOf(stem string, used []string) string {
	if !nameForm.MatchString(stem) {
		return ""
	}
	for n := big.NewInt(1); ; n.Add(n, big.NewInt(1)) {
		s := stem
		if n.Cmp(big.NewInt(1)) > 0 {
			s += n.String()
		}
		if len(s) > maxName {
			return ""
		}
		if !slices.Contains(used, s) {
			return s
		}
	}
}

// numbered tells the stem, and the stem and each number from one to another.
func numbered(stem string, from, to int) []string {
	l := []string{stem}
	for n := from; n <= to; n++ {
		l = append(l, stem+strconv.Itoa(n))
	}
	return l
}

var stems = []string{
	"", "a", "_", "Z", "a2", "a0", "b", "1", "1a", "a-b", "a ", " a", "\x80", "a\xff", "\u00e9", "-",
	strings.Repeat("s", 28), strings.Repeat("s", 29), strings.Repeat("s", 30), strings.Repeat("s", 31), strings.Repeat("s", 32), strings.Repeat("s", 33), strings.Repeat("s", 64), strings.Repeat("7", 10),
}

// P2.2: Free, of whatever stem, and whatever of a stem's texts used.
func TestFree(t *testing.T) {
	for _, stem := range stems {
		// The bits say which of these are used: the stem, its first numbers, and what is none of them, though it looks like one.
		of := []string{stem, stem + "2", stem + "3", stem + "4", stem + "1", stem + "02", "2" + stem, stem + "-2", ""}
		for bits := range 1 << len(of) {
			var used []string
			for i, u := range of {
				if bits>>i&1 == 1 {
					used = append(used, u)
				}
			}
			want := freeOf(stem, used)
			if got := name.Free(stem, used); got != want {
				t.Fatalf("Free(%q, %q) = %q, not %q", stem, used, got, want)
			}
			slices.Reverse(used)
			if got := name.Free(stem, append(used, used...)); got != want {
				t.Fatalf("Free(%q, %q, each twice) = %q, not %q", stem, used, got, want)
			}
		}
	}
}

// P2.2: Free at its edges, written out.
func TestFreeAtEdges(t *testing.T) {
	s30, s31, s32, s33 := strings.Repeat("s", 30), strings.Repeat("s", 31), strings.Repeat("s", 32), strings.Repeat("s", 33)
	for _, c := range []struct {
		what string
		stem string
		used []string
		want string
	}{
		{"no list", "a", nil, "a"},
		{"a list of nothing", "a", []string{}, "a"},
		{"not used", "a", []string{"b", "a2"}, "a"},
		{"the number is behind the stem's own", "a2", []string{"a2"}, "a22"},
		{"no 1", "a", []string{"a"}, "a2"},
		{"a gap", "a", []string{"a", "a2", "a4", "a5"}, "a3"},
		{"in another row", "a", []string{"a3", "a2", "a"}, "a4"},
		{"there twice", "a", []string{"a", "a", "a2", "a2"}, "a3"},
		{"no names", "a", []string{"", "2", "-", "a", "a-2", "a 2", s33, "\xff"}, "a2"},
		{"other letters", "a", []string{"A", "A2", "_"}, "a"},
		{"two digits", "a", numbered("a", 2, 9), "a10"},
		{"three digits", "a", numbered("a", 2, 99), "a100"},
		{"no stem", "", nil, ""},
		{"no stem, used", "", []string{""}, ""},
		{"a digit first", "1a", nil, ""},
		{"a digit first, used", "1a", []string{"1a"}, ""},
		{"another byte", "a-b", []string{"a-b"}, ""},
		{"another byte last", "a-", nil, ""},
		{"too long", s33, nil, ""},
		{"MaxName bytes", s32, nil, s32},
		{"MaxName bytes, used", s32, []string{s32}, ""},
		{"MaxName bytes, others used", s32, []string{s31, s33}, s32},
		{"one more fits", s31, []string{s31}, s31 + "2"},
		{"the last one that fits", s31, numbered(s31, 2, 8), s31 + "9"},
		{"no longer fits", s31, numbered(s31, 2, 9), ""},
		{"no longer fits, though what is none is free", s31, numbered(s31, 2, 20), ""},
		{"two digits fit", s30, numbered(s30, 2, 9), s30 + "10"},
		{"the last one of two digits", s30, numbered(s30, 2, 98), s30 + "99"},
		{"three digits don't", s30, numbered(s30, 2, 99), ""},
	} {
		if got := name.Free(c.stem, c.used); got != c.want {
			t.Errorf("%s: Free(%q, %q) = %q, not %q", c.what, c.stem, c.used, got, c.want)
		}
	}
}

// P2.6: what is told is a name, and none of those; with it among them another one is told, till all are used up.
func TestFreeOnAndOn(t *testing.T) {
	for _, stem := range stems {
		used := []string{"x", "", stem + "3", stem + "3"}
		for range 120 {
			got := name.Free(stem, used)
			if got == "" {
				break
			}
			if !nameForm.MatchString(got) || !name.May(got) || !strings.HasPrefix(got, stem) || slices.Contains(used, got) {
				t.Fatalf("Free(%q, %q) = %q", stem, used, got)
			}
			used = append(used, got)
		}
		if got, want := name.Free(stem, used), freeOf(stem, used); got != want {
			t.Errorf("Free(%q, %d used) = %q, not %q", stem, len(used), got, want)
		}
	}
	for length, most := range map[int]int{32: 1, 31: 9, 30: 99, 29: 999} {
		stem := strings.Repeat("s", length)
		var used []string
		for got := name.Free(stem, used); got != "" && len(used) <= most; got = name.Free(stem, used) {
			used = append(used, got)
		}
		if len(used) != most || !slices.Equal(used[1:], numbered(stem, 2, most)[1:]) {
			t.Errorf("of a stem of %d bytes come %d names", length, len(used))
		}
	}
}

// P2.2, R1: it ends, and soon, with many used.
func TestFreeOfMany(t *testing.T) {
	used := numbered("a", 2, 300000)
	slices.Reverse(used)
	if got := name.Free("a", used); got != "a300001" {
		t.Errorf("Free of many = %q", got)
	}
}

// R1: what is handed in stays, also behind the list's end; nothing hangs on room there, or on the row.
func TestFreeLeavesTheList(t *testing.T) {
	back := []string{"a", "a2", "a", "1", "", "a3", "a4", "zz"}
	want := slices.Clone(back)
	for n := range len(back) + 1 {
		got := name.Free("a", back[:n])
		if !slices.Equal(back, want) {
			t.Fatalf("the list became %q", back)
		}
		if again := name.Free("a", slices.Clip(slices.Clone(back[:n]))); again != got || got != freeOf("a", back[:n]) {
			t.Errorf("Free of %q = %q, %q", back[:n], got, again)
		}
	}
}
