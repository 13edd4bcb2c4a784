package name_test

import (
	"math"
	"math/big"
	"slices"
	"strconv"
	"strings"
	"testing"
	"unsafe"

	"bonsai/api"
	"bonsai/name"
)

// P2.1: Letter, of each byte.
func TestLetter(t *testing.T) {
	for b := range 256 {
		if got, want := name.Letter(byte(b)), strings.IndexByte(letters, byte(b)) >= 0; got != want {
			t.Errorf("Letter(%q) = %v", rune(b), got)
		}
	}
	for _, b := range []byte("`{@[^/:09\x00\x7f\x80\xe1\xff") {
		if name.Letter(b) {
			t.Errorf("Letter(%q)", b)
		}
	}
	for _, b := range []byte("azAZ_") {
		if !name.Letter(b) {
			t.Errorf("no Letter(%q)", b)
		}
	}
}

// P2.1: May, held against the words.
func TestMay(t *testing.T) {
	for _, s := range texts() {
		if got, want := name.May(s), nameForm.MatchString(s); got != want {
			t.Errorf("May(%q) = %v", s, got)
		}
	}
	for n := range 100 {
		for _, s := range []string{strings.Repeat("a", n), "a" + strings.Repeat("0", n)} {
			if got, want := name.May(s), s != "" && len(s) <= maxName; got != want {
				t.Errorf("May of %d bytes, %q = %v", len(s), s, got)
			}
		}
	}
}

// P2.1: Take, held against the words.
func TestTake(t *testing.T) {
	for _, s := range texts() {
		if got, want := name.Take(s), takeForm.FindString(s); got != want {
			t.Errorf("Take(%q) = %q, not %q", s, got, want)
		}
	}
	// More bytes than a name may have are taken, too.
	for _, n := range []int{maxName - 1, maxName, maxName + 1, 5000} {
		s := strings.Repeat("k", n)
		if got := name.Take(s); got != s {
			t.Errorf("Take of %d letters: %d", n, len(got))
		}
		if got := name.Take(s + "\x80" + s); got != s {
			t.Errorf("Take of %d letters and more: %d", n, len(got))
		}
	}
}

// numOf is what the document says of Num, in whole numbers without end.
func numOf(s string, most int) (int, api.Errno) {
	if !numberForm.MatchString(s) {
		return 0, api.ErrForm
	}
	n, _ := new(big.Int).SetString(s, 10)
	if n.Cmp(big.NewInt(int64(most))) > 0 {
		return 0, api.ErrTooLarge
	}
	return int(n.Int64()), api.OK
}

// P2.1: Num, whatever text and most; what is no number is told ahead of what is too large.
func TestNum(t *testing.T) {
	for _, s := range numbers() {
		for _, most := range bounds {
			n, e := name.Num(s, most)
			if wantN, wantE := numOf(s, most); n != wantN || e != wantE {
				t.Errorf("Num(%q, %d) = %d, %d, not %d, %d", s, most, n, e, wantN, wantE)
			}
		}
	}
}

// P2.1: Num at its edges, written out.
func TestNumAtEdges(t *testing.T) {
	greatest := strconv.Itoa(math.MaxInt)
	for _, c := range []struct {
		s    string
		most int
		n    int
		e    api.Errno
	}{
		{"", 9, 0, api.ErrForm}, {"", -1, 0, api.ErrForm}, {"0", 0, 0, api.OK}, {"0", 9, 0, api.OK}, {"1", 0, 0, api.ErrTooLarge},
		{"0", -1, 0, api.ErrTooLarge}, {"5", -1, 0, api.ErrTooLarge}, {"0", math.MinInt, 0, api.ErrTooLarge},
		{"00", 9, 0, api.ErrForm}, {"01", 0, 0, api.ErrForm}, {"00", -1, 0, api.ErrForm}, {"010", 99, 0, api.ErrForm}, {"10", 99, 10, api.OK},
		{"-1", 9, 0, api.ErrForm}, {"-0", 9, 0, api.ErrForm}, {"+1", 9, 0, api.ErrForm}, {"1-", 9, 0, api.ErrForm}, {"a", -5, 0, api.ErrForm},
		{"9", 9, 9, api.OK}, {"10", 9, 0, api.ErrTooLarge}, {"9", 8, 0, api.ErrTooLarge}, {"99", 99, 99, api.OK}, {"100", 99, 0, api.ErrTooLarge}, {"100", 100, 100, api.OK},
		{"99x", 9, 0, api.ErrForm}, {"x99", 9, 0, api.ErrForm}, {"9/9", 999, 0, api.ErrForm}, {"9:9", 999, 0, api.ErrForm},
		{greatest, math.MaxInt, math.MaxInt, api.OK}, {greatest, math.MaxInt - 1, 0, api.ErrTooLarge},
		{strconv.FormatUint(1<<63, 10), math.MaxInt, 0, api.ErrTooLarge}, {"18446744073709551617", math.MaxInt, 0, api.ErrTooLarge}, {"18446744073709551617", 1, 0, api.ErrTooLarge},
		{"92233720368547758070", math.MaxInt, 0, api.ErrTooLarge}, {strings.Repeat("9", 500), math.MaxInt, 0, api.ErrTooLarge}, {strings.Repeat("9", 500) + "-", math.MaxInt, 0, api.ErrForm},
	} {
		if n, e := name.Num(c.s, c.most); n != c.n || e != c.e {
			t.Errorf("Num(%q, %d) = %d, %d, not %d, %d", c.s, c.most, n, e, c.n, c.e)
		}
	}
}

// P2.1: Show.
func TestShow(t *testing.T) {
	for _, n := range shown() {
		if got, want := name.Show(n), big.NewInt(int64(n)).String(); got != want {
			t.Errorf("Show(%d) = %q", n, got)
		}
	}
	for n, want := range map[int]string{0: "0", 9: "9", 10: "10", -1: "-1", -10: "-10", math.MaxInt64: "9223372036854775807", math.MinInt64: "-9223372036854775808"} {
		if got := name.Show(n); got != want {
			t.Errorf("Show(%d) = %q, not %q", n, got, want)
		}
	}
}

// compareOf is what the document says of Compare: byte by byte, and then by the lengths.
func compareOf(a, b string) int {
	for i := range min(len(a), len(b)) {
		if a[i] != b[i] {
			if a[i] < b[i] {
				return -1
			}
			return 1
		}
	}
	switch {
	case len(a) < len(b):
		return -1
	case len(a) > len(b):
		return 1
	}
	return 0
}

// compared are texts that begin one another, and of bytes on both sides of 127.
func compared() []string {
	l := row("\x00a\x7f\x80\xff", 3)
	return append(l, "a2", "a10", "A", "B", "Z", "_", "aa2", "\u00e9", "e", "f", strings.Repeat("m", 40), strings.Repeat("m", 41), strings.Repeat("m", 40)+"\x80")
}

// P2.1: Compare.
func TestCompare(t *testing.T) {
	for _, a := range compared() {
		for _, b := range compared() {
			if got, want := name.Compare(a, b), compareOf(a, b); got != want {
				t.Errorf("Compare(%q, %q) = %d, not %d", a, b, got, want)
			}
		}
	}
	for _, c := range []struct {
		a, b string
		want int
	}{
		{"", "", 0}, {"", "\x00", -1}, {"a", "", 1}, {"a", "ab", -1}, {"ab", "a", 1}, {"b", "ab", 1}, {"a10", "a2", -1}, {"Z", "a", -1}, {"Z", "_", -1},
		{"\x7f", "\x80", -1}, {"\xff", "\x00", 1}, {"\xff", "a", 1}, {"a\x80", "ab", 1}, {"same", "same", 0},
	} {
		if got := name.Compare(c.a, c.b); got != c.want {
			t.Errorf("Compare(%q, %q) = %d, not %d", c.a, c.b, got, c.want)
		}
	}
}

// P2.3: there and back.
func TestThereAndBack(t *testing.T) {
	for _, n := range shown() {
		if n < 0 {
			continue
		}
		for _, most := range append([]int{n, n + (math.MaxInt-n)/2}, bounds...) {
			if got, e := name.Num(name.Show(n), most); most >= n && (got != n || e != api.OK) || most < n && (got != 0 || e != api.ErrTooLarge) {
				t.Errorf("Num(Show(%d), %d) = %d, %d", n, most, got, e)
			}
		}
	}
	for _, s := range numbers() {
		if n, e := name.Num(s, math.MaxInt); e == api.OK && (name.Show(n) != s || n < 0) {
			t.Errorf("%q is read as %d, and shown as %q", s, n, name.Show(n))
		}
	}
}

// P2.4: what is taken.
func TestWhatIsTaken(t *testing.T) {
	for _, s := range texts() {
		got := name.Take(s)
		if !strings.HasPrefix(s, got) {
			t.Fatalf("Take(%q) = %q", s, got)
		}
		if got != "" && name.May(got) != (len(got) <= maxName) {
			t.Errorf("Take(%q) = %q, whose May is %v", s, got, name.May(got))
		}
		if got == "" && s != "" && strings.IndexByte(letters, s[0]) >= 0 {
			t.Errorf("Take(%q) is none", s)
		}
		if got != "" && len(s) > len(got) && strings.IndexByte(letters+digits, s[len(got)]) >= 0 {
			t.Errorf("Take(%q) = %q, and goes no further", s, got)
		}
		if strings.Trim(got, letters+digits) != "" {
			t.Errorf("Take(%q) = %q, which has other bytes", s, got)
		}
		if name.May(s) && got != s {
			t.Errorf("Take of the name %q = %q", s, got)
		}
	}
}

// P2.5: Compare is a row.
func TestARow(t *testing.T) {
	l := compared()
	for _, a := range l {
		for _, b := range l {
			way := name.Compare(a, b)
			if way < -1 || way > 1 || way != -name.Compare(b, a) || (way == 0) != (a == b) {
				t.Fatalf("Compare of %q and %q turned about", a, b)
			}
			for _, c := range l {
				if way <= 0 && name.Compare(b, c) <= 0 && name.Compare(a, c) > 0 {
					t.Fatalf("Compare is no row: %q, %q, %q", a, b, c)
				}
			}
		}
	}
}

// The chapter's examples.
func TestExamples(t *testing.T) {
	for _, s := range []string{"a_1", "_", "Z9"} {
		if !name.May(s) {
			t.Errorf("%q is no name", s)
		}
	}
	for _, s := range []string{"1a", "", "a-b", strings.Repeat("a", 33)} {
		if name.May(s) {
			t.Errorf("%q is a name", s)
		}
	}
	if got := name.Take("ab+c"); got != "ab" {
		t.Errorf("Take = %q", got)
	}
	if n, e := name.Num("07", 9); n != 0 || e != api.ErrForm {
		t.Errorf("07: %d, %d", n, e)
	}
	if n, e := name.Num("12", 11); n != 0 || e != api.ErrTooLarge {
		t.Errorf("12: %d, %d", n, e)
	}
	if got := name.Show(-5); got != "-5" {
		t.Errorf("Show = %q", got)
	}
	if got := name.Free("a", []string{"a", "a2"}); got != "a3" {
		t.Errorf("Free = %q", got)
	}
}

// R1: what is told shares no memory with what is handed in.
func TestNothingShared(t *testing.T) {
	apart := func(got, in string) {
		t.Helper()
		if got == "" || unsafe.StringData(got) == unsafe.StringData(in) {
			t.Errorf("%q shares the memory of %q", got, in)
		}
	}
	for _, s := range []string{"a", "ab+c", strings.Repeat("a", maxName), strings.Repeat("a", 100)} {
		apart(name.Take(s), s)
	}
	for _, s := range []string{"a", "ab", strings.Repeat("a", maxName)} {
		apart(name.Free(s, nil), s)
		apart(name.Free(s, []string{"b"}), s)
	}
}

// R1: each call ends, whatever it is handed, and the same is told each time.
func TestWhateverTexts(t *testing.T) {
	long := strings.Repeat("a", 1<<20)
	for _, s := range []string{"", long, strings.Repeat("9", 1<<20), strings.Repeat("\xff", 1<<20), long + "\x00"} {
		if name.May(s) {
			t.Errorf("%.20q is a name", s)
		}
		if a, b := name.Take(s), name.Take(s); a != b || a != takeForm.FindString(s) {
			t.Errorf("Take of %.20q", s)
		}
		n, e := name.Num(s, math.MaxInt)
		if again, e2 := name.Num(s, math.MaxInt); n != 0 || e == api.OK || again != n || e2 != e {
			t.Errorf("Num of %.20q: %d, %d", s, n, e)
		}
		if name.Compare(s, s) != 0 || name.Free(s, []string{s}) != "" {
			t.Errorf("Compare, Free of %.20q", s)
		}
	}
	in := []byte("abc+12")
	s := string(in)
	name.Take(s)
	name.Num(s, 5)
	name.Free(s, []string{s})
	if !slices.Equal([]byte(s), in) {
		t.Error("a text was changed")
	}
}
