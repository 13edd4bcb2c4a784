package name_test

import (
	"math"
	"math/big"
	"regexp"
	"strings"
)

// The words as the document says them, in another way than the program does: letters and digits written out, names and numbers' texts as regular expressions.
const (
	letters = "abcdefghijklmnopqrstuvwxyzABCDEFGHIJKLMNOPQRSTUVWXYZ_"
	digits  = "0123456789"
	maxName = 32
)

var (
	nameForm   = regexp.MustCompile(`\A[a-zA-Z_][a-zA-Z_0-9]{0,31}\z`)
	takeForm   = regexp.MustCompile(`\A[a-zA-Z_][a-zA-Z_0-9]*`)
	numberForm = regexp.MustCompile(`\A(0|[1-9][0-9]*)\z`)
)

// nextTo are the bytes next to a, z, A, Z, _, 0 and 9, on both sides: those that are letters or digits, and those that are none.
const nextTo = "`abyz{@ABYZ[^_`/0189:"

// row tells all texts of so many bytes at most, of the bytes of an alphabet.
func row(alphabet string, most int) []string {
	all, last := []string{""}, []string{""}
	for range most {
		var next []string
		for _, s := range last {
			for i := range len(alphabet) {
				next = append(next, s+alphabet[i:i+1])
			}
		}
		all, last = append(all, next...), next
	}
	return all
}

// texts are texts of all sorts: of none, of each byte alone, ahead of a letter and behind one, at the ends of long ones, of edge bytes, and long ones about MaxName bytes.
func texts() []string {
	l := row("a_Z09-", 4)
	l = append(l, row(nextTo, 2)...)
	for b := range 256 {
		s := string([]byte{byte(b)})
		l = append(l, s, s+"a", "a"+s, "a"+s+"b", "a9"+s, s+s)
		l = append(l, strings.Repeat("n", maxName-1)+s, s+strings.Repeat("n", maxName-1), strings.Repeat("n", maxName)+s)
	}
	for n := range 70 {
		l = append(l, strings.Repeat("q", n), strings.Repeat("_", n), strings.Repeat("7", n), "a"+strings.Repeat("7", n), strings.Repeat("q", n)+"+c")
	}
	return append(l, "\u00e9", "a\u00e9", "\u0661", "a\u0661", "\uff41", strings.Repeat("x", 1000), strings.Repeat("x", 1000)+" y", "ab+c", "a b", " a", "a\n", "a\x00", "\xff\xfe")
}

// bounds are whatever mosts.
var bounds = []int{math.MinInt, math.MinInt + 1, -11, -10, -9, -1, 0, 1, 2, 8, 9, 10, 11, 12, 19, 20, 98, 99, 100, 101, 255, 999, 4096, 1 << 31, 1 << 40, math.MaxInt - 9, math.MaxInt - 8, math.MaxInt - 7, math.MaxInt - 1, math.MaxInt}

// numbers are texts that are numbers, or nearly so: short ones of all sorts, those about each bound, and those that wrap round to a small one.
func numbers() []string {
	l := row("019-+a", 4)
	l = append(l, row("/0189:", 3)...)
	for b := range 256 {
		s := string([]byte{byte(b)})
		l = append(l, s, "1"+s, s+"1", "1"+s+"2", strings.Repeat("9", 40)+s, s+strings.Repeat("9", 40))
	}
	for _, most := range bounds {
		for d := int64(-11); d <= 11; d++ {
			n := new(big.Int).Add(big.NewInt(int64(most)), big.NewInt(d))
			l = append(l, n.String(), "0"+n.String(), n.String()+"0", n.String()+"x")
		}
	}
	for bit := uint(60); bit < 140; bit++ {
		for d := int64(-3); d <= 12; d++ {
			n := new(big.Int).Lsh(big.NewInt(1), bit)
			l = append(l, n.Add(n, big.NewInt(d)).String())
		}
	}
	return append(l, strings.Repeat("0", 30), strings.Repeat("0", 30)+"1", "1"+strings.Repeat("0", 300), "0x1", "1_0", "1e3", " 1", "1 ", "1\n", "+1", "\u0661", "--1", "1.0")
}

// shown are numbers of all sorts.
func shown() []int {
	l := append([]int{}, bounds...)
	for n := -1100; n <= 1100; n++ {
		l = append(l, n)
	}
	for n := 1; n < math.MaxInt/10; n *= 10 {
		l = append(l, n, n-1, n+1, 7*n, -n, 1-n, -1-n, -7*n)
	}
	return l
}
