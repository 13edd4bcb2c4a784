package set_test

import (
	"math/bits"
	"slices"
	"strings"
	"testing"

	"bonsai/api"
	"bonsai/set"
)

// P1.1: Of.
func TestOf(t *testing.T) {
	for _, m := range models() {
		if got := set.Of(m.list()); got != m.bytes() {
			t.Errorf("Of(%q) = %x", m.list(), got)
		}
	}
	for b := range 256 {
		if got := set.Of(string([]byte{byte(b)})); got != single(byte(b)).bytes() {
			t.Errorf("Of byte %d = %x", b, got)
		}
	}
	if set.Of("") != (api.Bytes{}) {
		t.Error("Of nothing is not the set of none")
	}
	// A text is its bytes, whatever runes they would be.
	if got := set.List(set.Of("\u00e9")); got != "\xa9\xc3" {
		t.Errorf("Of a rune of two bytes: %q", got)
	}
}

// P1.1: Range, whatever two bytes.
func TestRange(t *testing.T) {
	for a := range 256 {
		for b := range 256 {
			if got, want := set.Range(byte(a), byte(b)), between(a, b).bytes(); got != want {
				t.Fatalf("Range(%d, %d) = %x, not %x", a, b, got, want)
			}
		}
	}
	if set.Range(255, 0) != (api.Bytes{}) || set.Range(1, 0) != (api.Bytes{}) || set.Range(64, 63) != (api.Bytes{}) {
		t.Error("a range whose first byte is above its last one has bytes")
	}
	if set.Range(0, 255) != set.All() || set.Range(255, 255) != set.Of("\xff") || set.Range(0, 0) != set.Of("\x00") {
		t.Error("a range at the ends")
	}
}

// P1.1: All, Has, Len, List.
func TestBytesOfASet(t *testing.T) {
	if got := set.All(); got != (api.Bytes{1<<64 - 1, 1<<64 - 1, 1<<64 - 1, 1<<64 - 1}) {
		t.Errorf("All() = %x", got)
	}
	for _, s := range samples() {
		m := modelOf(s)
		for b := range 256 {
			if set.Has(s, byte(b)) != m[b] {
				t.Errorf("Has(%x, %d) = %v", s, b, !m[b])
			}
		}
		if got := set.Len(s); got != len(m.list()) {
			t.Errorf("Len(%x) = %d", s, got)
		}
		if got := set.List(s); got != m.list() {
			t.Errorf("List(%x) = %q", s, got)
		}
	}
	if set.Len(api.Bytes{}) != 0 || set.List(api.Bytes{}) != "" || set.Len(set.All()) != 256 || len(set.List(set.All())) != 256 {
		t.Error("Len, List of none, of all")
	}
}

// P1.1: Only.
func TestOnly(t *testing.T) {
	for b := range 256 {
		if got, ok := set.Only(single(byte(b)).bytes()); !ok || got != byte(b) {
			t.Errorf("Only of byte %d = %d, %v", b, got, ok)
		}
	}
	for _, a := range edges {
		for _, b := range edges {
			if a == b {
				continue
			}
			if got, ok := set.Only(set.Of(string([]byte{a, b}))); ok || got != 0 {
				t.Errorf("Only of bytes %d and %d = %d, %v", a, b, got, ok)
			}
		}
	}
	for _, s := range samples() {
		l := modelOf(s).list()
		if got, ok := set.Only(s); ok != (len(l) == 1) || ok && got != l[0] || !ok && got != 0 {
			t.Errorf("Only(%x) = %d, %v", s, got, ok)
		}
	}
}

// P1.2 and P1.3: a byte is in Or just if it is in either, and so on.
func TestAsASet(t *testing.T) {
	for _, a := range samples() {
		for _, b := range samples() {
			or, and, minus := set.Or(a, b), set.And(a, b), set.Minus(a, b)
			for n := range 256 {
				x, y := inIt(a, n), inIt(b, n)
				if inIt(or, n) != (x || y) || inIt(and, n) != (x && y) || inIt(minus, n) != (x && !y) {
					t.Fatalf("byte %d of Or, And, Minus of %x, %x", n, a, b)
				}
			}
		}
		if got, want := modelOf(set.Not(a)), modelOf(a).not(); got != want {
			t.Errorf("Not(%x) = %x", a, got.bytes())
		}
	}
}

func inIt(s api.Bytes, n int) bool { return s[n/64]>>(n%64)&1 == 1 }

// P1.3: a byte that is twice in a text is once in its set.
func TestTwice(t *testing.T) {
	for _, m := range models() {
		l := m.list()
		if s := set.Of(l + l); s != m.bytes() || set.Len(s) != len(l) || set.List(s) != l {
			t.Errorf("Of(%q), twice", l)
		}
	}
	if s := set.Of("\xff\x00\xff\x00\xff"); set.Len(s) != 2 || set.List(s) != "\x00\xff" {
		t.Errorf("bytes 0 and 255, more than once: %x", s)
	}
}

// P1.2: Subset, Meets.
func TestSubsetAndMeets(t *testing.T) {
	for _, a := range samples() {
		for _, b := range samples() {
			subset, meets := true, false
			for n := range 256 {
				subset = subset && (!inIt(a, n) || inIt(b, n))
				meets = meets || inIt(a, n) && inIt(b, n)
			}
			if set.Subset(a, b) != subset {
				t.Errorf("Subset(%x, %x) = %v", a, b, !subset)
			}
			if set.Meets(a, b) != meets {
				t.Errorf("Meets(%x, %x) = %v", a, b, !meets)
			}
		}
	}
	none, all := api.Bytes{}, set.All()
	if !set.Subset(none, none) || !set.Subset(none, all) || set.Subset(all, none) || set.Meets(none, all) || set.Meets(none, none) || !set.Meets(all, all) {
		t.Error("Subset, Meets of none, of all")
	}
}

// P1.2: Compare is as the Lists stand by their bytes.
func TestCompare(t *testing.T) {
	for _, a := range samples() {
		for _, b := range samples() {
			if got, want := set.Compare(a, b), strings.Compare(modelOf(a).list(), modelOf(b).list()); got != want {
				t.Errorf("Compare(%x, %x) = %d, not %d", a, b, got, want)
			}
		}
	}
	for _, c := range []struct {
		a, b string
		want int
	}{
		{"", "", 0}, {"", "\x00", -1}, {"\x00", "", 1}, {"\x00", "\x01", -1}, {"\x3f", "\x40", -1},
		{"\x00\xff", "\x00", 1}, {"\x00\xff", "\x01", -1}, {"\x7f\x80", "\x7f\xc0", -1}, {"\xff", "\x00\xff", 1},
	} {
		if got := set.Compare(set.Of(c.a), set.Of(c.b)); got != c.want {
			t.Errorf("Compare of %q and %q = %d, not %d", c.a, c.b, got, c.want)
		}
	}
}

// P1.2: Runs, held against those of the model.
func TestRuns(t *testing.T) {
	for _, m := range models() {
		var want [][2]byte
		for b := 0; b < 256; b++ {
			if !m[b] {
				continue
			}
			a := b
			for b < 255 && m[b+1] {
				b++
			}
			want = append(want, [2]byte{byte(a), byte(b)})
		}
		if got := set.Runs(m.bytes()); !slices.Equal(got, want) {
			t.Errorf("Runs(%x) = %v, not %v", m.bytes(), got, want)
		}
	}
}

// P1.2: runs at the edges, written out.
func TestRunsAtEdges(t *testing.T) {
	for _, c := range []struct {
		s    api.Bytes
		want [][2]byte
	}{
		{api.Bytes{}, nil},
		{set.All(), [][2]byte{{0, 255}}},
		{set.Of("\x00"), [][2]byte{{0, 0}}},
		{set.Of("\xff"), [][2]byte{{255, 255}}},
		{set.Of("\x00\xff"), [][2]byte{{0, 0}, {255, 255}}},
		{set.Range(250, 255), [][2]byte{{250, 255}}},
		{set.Range(63, 64), [][2]byte{{63, 64}}},
		{set.Range(127, 128), [][2]byte{{127, 128}}},
		{set.Range(191, 192), [][2]byte{{191, 192}}},
		{set.Or(set.Range(10, 62), set.Range(64, 80)), [][2]byte{{10, 62}, {64, 80}}},
		{set.Or(set.Range(10, 63), set.Range(65, 80)), [][2]byte{{10, 63}, {65, 80}}},
		{set.Minus(set.All(), set.Of("\x80")), [][2]byte{{0, 127}, {129, 255}}},
		{set.Minus(set.All(), set.Of("\xfe")), [][2]byte{{0, 253}, {255, 255}}},
		{set.Minus(set.All(), set.Of("\x00")), [][2]byte{{1, 255}}},
		{set.Of("ace"), [][2]byte{{'a', 'a'}, {'c', 'c'}, {'e', 'e'}}},
	} {
		if got := set.Runs(c.s); !slices.Equal(got, c.want) {
			t.Errorf("Runs(%x) = %v, not %v", c.s, got, c.want)
		}
	}
}

// P1.4: the laws.
func TestLaws(t *testing.T) {
	for _, a := range samples() {
		if set.Not(set.Not(a)) != a {
			t.Errorf("Not of Not of %x", a)
		}
		for _, b := range samples() {
			if set.Not(set.Or(a, b)) != set.And(set.Not(a), set.Not(b)) {
				t.Errorf("Not of Or of %x, %x", a, b)
			}
			if set.Minus(a, b) != set.And(a, set.Not(b)) {
				t.Errorf("Minus of %x, %x", a, b)
			}
			if (a == b) != (set.List(a) == set.List(b)) {
				t.Errorf("Lists of %x, %x", a, b)
			}
		}
	}
}

// P1.5: a set is Or of its runs' Ranges, and so on.
func TestRunsMakeTheSet(t *testing.T) {
	for _, s := range samples() {
		var sum api.Bytes
		count, last := 0, -2
		for _, r := range set.Runs(s) {
			a, b := int(r[0]), int(r[1])
			if a > b || a <= last+1 {
				t.Errorf("Runs(%x): %d to %d behind %d", s, a, b, last)
			}
			sum = set.Or(sum, set.Range(r[0], r[1]))
			count, last = count+b-a+1, b
		}
		if sum != s || count != set.Len(s) {
			t.Errorf("Runs(%x) make %x, of %d bytes", s, sum, count)
		}
	}
}

// P1.6: Compare is a row, Subset goes by Or, Meets by And.
func TestOrder(t *testing.T) {
	l := samples()
	for _, a := range l {
		for _, b := range l {
			way := set.Compare(a, b)
			if way < -1 || way > 1 || way != -set.Compare(b, a) || (way == 0) != (a == b) {
				t.Fatalf("Compare of %x and %x turned about", a, b)
			}
			if set.Subset(b, a) != (set.Or(a, b) == a) {
				t.Errorf("Subset(%x, %x)", b, a)
			}
			if set.Meets(a, b) != (set.And(a, b) != api.Bytes{}) {
				t.Errorf("Meets(%x, %x)", a, b)
			}
			for _, c := range l {
				if way <= 0 && set.Compare(b, c) <= 0 && set.Compare(a, c) > 0 {
					t.Fatalf("Compare is no row: %x, %x, %x", a, b, c)
				}
			}
		}
	}
}

// The chapter's examples.
func TestExamples(t *testing.T) {
	ba := set.Of("ba")
	if set.Len(ba) != 2 || set.List(ba) != "ab" || !slices.Equal(set.Runs(ba), [][2]byte{{'a', 'b'}}) {
		t.Error(`Of("ba")`)
	}
	if set.Range('z', 'a') != (api.Bytes{}) || set.Len(set.Range('z', 'a')) != 0 {
		t.Error("Range('z', 'a')")
	}
	if set.Not(api.Bytes{}) != set.All() || set.Len(set.Not(api.Bytes{})) != 256 {
		t.Error("Not of none")
	}
	if b, ok := set.Only(set.Of("x")); b != 'x' || !ok {
		t.Error(`Only(Of("x"))`)
	}
	if b, ok := set.Only(set.Of("xy")); b != 0 || ok {
		t.Error(`Only(Of("xy"))`)
	}
	if set.Compare(set.Of("a"), set.Of("ab")) != -1 || set.Compare(set.Of("b"), set.Of("ac")) != 1 {
		t.Error("Compare")
	}
}

// R1: what a call hands out shares no memory with what it hands out the next time.
func TestNothingShared(t *testing.T) {
	for _, s := range samples() {
		first := set.Runs(s)
		want := slices.Clone(first)
		// Written over, and written behind: neither may be seen in another answer.
		second := set.Runs(s)
		for i := range first {
			first[i] = [2]byte{7, 3}
		}
		_ = append(first, [2]byte{9, 9})
		if !slices.Equal(second, want) || !slices.Equal(set.Runs(s), want) {
			t.Errorf("Runs(%x) shares what it tells", s)
		}
	}
}

// R1: what is handed in stays, and the same is told each time.
func TestHandedInStays(t *testing.T) {
	for _, a := range samples() {
		for _, b := range samples() {
			x, y := a, b
			or, and, minus, not := set.Or(x, y), set.And(x, y), set.Minus(x, y), set.Not(x)
			if x != a || y != b {
				t.Fatalf("%x, %x became %x, %x", a, b, x, y)
			}
			if or != set.Or(a, b) || and != set.And(a, b) || minus != set.Minus(a, b) || not != set.Not(a) {
				t.Fatalf("another answer of %x, %x", a, b)
			}
		}
	}
	all := set.All()
	all[0] = 0
	if set.All() != (api.Bytes{1<<64 - 1, 1<<64 - 1, 1<<64 - 1, 1<<64 - 1}) {
		t.Error("All() was changed by what was done to its answer")
	}
}

// R1: each call ends, whatever words it is handed.
func TestWhateverWords(t *testing.T) {
	for _, s := range []api.Bytes{{}, {1 << 63}, {0, 1}, {0, 0, 1 << 63}, {0, 0, 0, 1 << 63}, {1<<64 - 1, 0, 1<<64 - 1, 0}, {5, 6, 7, 8}} {
		n := 0
		for _, w := range s {
			n += bits.OnesCount64(w)
		}
		_, ok := set.Only(s)
		if set.Len(s) != n || len(set.List(s)) != n || len(set.Runs(s)) > n || ok != (n == 1) || set.Compare(s, s) != 0 {
			t.Errorf("%x", s)
		}
	}
}
