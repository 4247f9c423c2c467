package num_test

import (
	"fmt"
	"math"
	"math/big"
	"math/rand"
	"strings"
	"testing"

	"lockage/api"
	"lockage/num"
)

const most = 1 << 53

// edges is numbers about which something changes, those that do not fit among them.
func edges() []int {
	out := []int{math.MinInt, math.MinInt + 1, math.MinInt32, math.MaxInt - 1, math.MaxInt}
	for i := -20; i <= 300; i++ {
		out = append(out, i)
	}
	for bit := 8; bit < 63; bit++ {
		for d := -2; d <= 2; d++ {
			out = append(out, 1<<bit+d, -(1<<bit + d))
		}
	}
	for n := 10; n < math.MaxInt/10; n *= 10 {
		out = append(out, n-1, n, n+1)
	}
	return append(out, 94906265, 94906266, 94906267) // about the root of 2^53
}

// fitting is those of the edges that fit.
func fitting() []int {
	var out []int
	for _, n := range edges() {
		if n >= 0 && n <= most {
			out = append(out, n)
		}
	}
	return out
}

// digits is the digits to each base, with the value of each.
func digits(base int) map[byte]int {
	out := map[byte]int{}
	for i, c := range []byte("0123456789") {
		out[c] = i
	}
	if base == 16 {
		for i, c := range []byte("abcdef") {
			out[c] = 10 + i
			out[c-32] = 10 + i
		}
	}
	return out
}

func checkParse(t *testing.T, s string, base, n int, e api.Errno) {
	t.Helper()
	got, err := num.Parse(s, base)
	if got != n || err != e {
		if len(s) > 60 {
			s = fmt.Sprintf("%s.. (%d bytes) ..%s", s[:20], len(s), s[len(s)-20:])
		}
		t.Errorf("Parse(%q, %d) = %d, %d; want %d, %d", s, base, got, err, n, e)
	}
}

func TestLimit(t *testing.T) {
	if api.MaxNum != most {
		t.Errorf("MaxNum is %d", api.MaxNum)
	}
}

func TestC1Fits(t *testing.T) {
	for n, want := range map[int]bool{
		-1: false, 0: true, 1: true, most - 1: true, most: true, most + 1: false,
		math.MinInt: false, math.MaxInt: false, -most: false, 1 << 54: false, 1 << 62: false,
	} {
		if num.Fits(n) != want {
			t.Errorf("Fits(%d) = %t", n, !want)
		}
	}
	for _, n := range edges() {
		if want := n >= 0 && n <= most; num.Fits(n) != want {
			t.Errorf("Fits(%d) = %t", n, !want)
		}
	}
}

func TestC2Add(t *testing.T) {
	for _, x := range []struct {
		a, b, n int
		e       api.Errno
	}{
		{0, 0, 0, api.OK},
		{2, 3, 5, api.OK},
		{most, 0, most, api.OK},
		{0, most, most, api.OK},
		{most - 1, 1, most, api.OK},
		{1, most - 1, most, api.OK},
		{most / 2, most / 2, most, api.OK},
		{most, 1, 0, api.ErrBig},
		{1, most, 0, api.ErrBig},
		{most/2 + 1, most / 2, 0, api.ErrBig},
		{most, most, 0, api.ErrBig},
		{-1, 0, 0, api.ErrArg},
		{0, -1, 0, api.ErrArg},
		{-1, -1, 0, api.ErrArg},
		{most + 1, 0, 0, api.ErrArg},
		{0, most + 1, 0, api.ErrArg},
		{most + 1, -1, 0, api.ErrArg},
		{-1, most + 1, 0, api.ErrArg},
		{most + 1, most + 1, 0, api.ErrArg},
		{math.MaxInt, 0, 0, api.ErrArg},
		{0, math.MaxInt, 0, api.ErrArg},
		{math.MaxInt, 1, 0, api.ErrArg},
		{math.MaxInt, math.MaxInt, 0, api.ErrArg},
		{math.MinInt, 0, 0, api.ErrArg},
		{0, math.MinInt, 0, api.ErrArg},
		{math.MinInt, math.MinInt, 0, api.ErrArg},
		{math.MinInt, math.MaxInt, 0, api.ErrArg},
	} {
		if n, e := num.Add(x.a, x.b); n != x.n || e != x.e {
			t.Errorf("Add(%d, %d) = %d, %d; want %d, %d", x.a, x.b, n, e, x.n, x.e)
		}
	}
}

func TestC2Mul(t *testing.T) {
	for _, x := range []struct {
		a, b, n int
		e       api.Errno
	}{
		{0, 0, 0, api.OK},
		{2, 3, 6, api.OK},
		{1, most, most, api.OK},
		{most, 1, most, api.OK},
		{0, most, 0, api.OK},
		{most, 0, 0, api.OK},
		{1 << 27, 1 << 26, most, api.OK},
		{1 << 26, 1 << 27, most, api.OK},
		{most / 2, 2, most, api.OK},
		{2, most / 2, most, api.OK},
		{94906265, 94906265, 9007199136250225, api.OK},
		// 2^53 + 1 is 3 times 3002399751580331.
		{3, 3002399751580331, 0, api.ErrBig},
		{3002399751580331, 3, 0, api.ErrBig},
		{3, 3002399751580330, most - 2, api.OK},
		// 2^53 - 1 is 6361 times 1416003655831.
		{6361, 1416003655831, most - 1, api.OK},
		{94906266, 94906266, 0, api.ErrBig},
		{most/2 + 1, 2, 0, api.ErrBig},
		{2, most/2 + 1, 0, api.ErrBig},
		{most, 2, 0, api.ErrBig},
		{2, most, 0, api.ErrBig},
		// Beyond every int; what is left of them by wrapping round is 0, 2^52 and -2^63.
		{most, most, 0, api.ErrBig},
		{1 << 32, 1 << 32, 0, api.ErrBig},
		{1<<32 + 1<<20, 1 << 32, 0, api.ErrBig},
		{1 << 32, 1 << 31, 0, api.ErrBig},
		{most - 1, most - 1, 0, api.ErrBig},
		{-1, 0, 0, api.ErrArg},
		{0, -1, 0, api.ErrArg},
		{-1, 1, 0, api.ErrArg},
		{1, -1, 0, api.ErrArg},
		{-1, -1, 0, api.ErrArg},
		{most + 1, 0, 0, api.ErrArg},
		{0, most + 1, 0, api.ErrArg},
		{most + 1, 1, 0, api.ErrArg},
		{1, most + 1, 0, api.ErrArg},
		{most + 1, most, 0, api.ErrArg},
		{most, most + 1, 0, api.ErrArg},
		{math.MaxInt, 0, 0, api.ErrArg},
		{0, math.MaxInt, 0, api.ErrArg},
		{math.MaxInt, math.MaxInt, 0, api.ErrArg},
		{math.MinInt, 0, 0, api.ErrArg},
		{0, math.MinInt, 0, api.ErrArg},
		{math.MinInt, -1, 0, api.ErrArg},
		{-1, math.MinInt, 0, api.ErrArg},
	} {
		if n, e := num.Mul(x.a, x.b); n != x.n || e != x.e {
			t.Errorf("Mul(%d, %d) = %d, %d; want %d, %d", x.a, x.b, n, e, x.n, x.e)
		}
	}
}

func TestC3ParseNumbers(t *testing.T) {
	for _, x := range []struct {
		s    string
		base int
		n    int
		e    api.Errno
	}{
		{"0", 10, 0, api.OK},
		{"0", 16, 0, api.OK},
		{"7", 10, 7, api.OK},
		{"9", 10, 9, api.OK},
		{"10", 10, 10, api.OK},
		{"10", 16, 16, api.OK},
		{"1234567890", 10, 1234567890, api.OK},
		{"1234567890", 16, 0x1234567890, api.OK},
		{"abcdef", 16, 0xabcdef, api.OK},
		{"ABCDEF", 16, 0xabcdef, api.OK},
		{"aBcDeF", 16, 0xabcdef, api.OK},
		{"fF", 16, 255, api.OK},
		{"00", 10, 0, api.OK},
		{"00", 16, 0, api.OK},
		{"007", 10, 7, api.OK},
		{"00a", 16, 10, api.OK},
		{"9007199254740991", 10, most - 1, api.OK},
		{"9007199254740992", 10, most, api.OK},
		{"9007199254740993", 10, 0, api.ErrBig},
		{"9007199254741000", 10, 0, api.ErrBig},
		{"0009007199254740992", 10, most, api.OK},
		{"0009007199254740993", 10, 0, api.ErrBig},
		{"1fffffffffffff", 16, most - 1, api.OK},
		{"20000000000000", 16, most, api.OK},
		{"20000000000001", 16, 0, api.ErrBig},
		{"20000000000010", 16, 0, api.ErrBig},
		{"00020000000000000", 16, most, api.OK},
		{"00020000000000001", 16, 0, api.ErrBig},
		{"90071992547409920", 10, 0, api.ErrBig},
		{"200000000000000", 16, 0, api.ErrBig},
		{"20000000000000", 10, 20000000000000, api.OK},
		{"9007199254740992", 16, 0, api.ErrBig},
		// About the bounds of 63 and 64 bits, and what wraps round to something small.
		{"9223372036854775807", 10, 0, api.ErrBig},
		{"9223372036854775808", 10, 0, api.ErrBig},
		{"18446744073709551615", 10, 0, api.ErrBig},
		{"18446744073709551616", 10, 0, api.ErrBig},
		{"18446744073709551617", 10, 0, api.ErrBig},
		{"7fffffffffffffff", 16, 0, api.ErrBig},
		{"8000000000000000", 16, 0, api.ErrBig},
		{"ffffffffffffffff", 16, 0, api.ErrBig},
		{"10000000000000000", 16, 0, api.ErrBig},
		{"10000000000000001", 16, 0, api.ErrBig},
	} {
		checkParse(t, x.s, x.base, x.n, x.e)
	}
}

func TestC3ParseLong(t *testing.T) {
	for _, base := range []int{10, 16} {
		for _, many := range []int{20, 63, 64, 65, 300, 100000} {
			zeros := strings.Repeat("0", many)
			checkParse(t, zeros, base, 0, api.OK)
			checkParse(t, zeros+"1", base, 1, api.OK)
			checkParse(t, zeros+num.Text(most, base), base, most, api.OK)
			checkParse(t, "1"+zeros, base, 0, api.ErrBig)
			checkParse(t, strings.Repeat("9", many), base, 0, api.ErrBig)
			for _, last := range []string{"g", "x", " ", "-", "\n", "\x00", "\xff", "_"} {
				checkParse(t, zeros+last, base, 0, api.ErrArg)
				checkParse(t, "1"+zeros+last, base, 0, api.ErrArg)
				checkParse(t, "1"+last+zeros, base, 0, api.ErrArg)
			}
		}
	}
	checkParse(t, strings.Repeat("f", 100000), 16, 0, api.ErrBig)
	checkParse(t, strings.Repeat("9", 100000)+"f", 10, 0, api.ErrArg)
	checkParse(t, "9007199254740993x", 10, 0, api.ErrArg)
	checkParse(t, "9007199254740992x", 10, 0, api.ErrArg)
	checkParse(t, "20000000000001g", 16, 0, api.ErrArg)
}

func TestC3ParseNoDigits(t *testing.T) {
	for _, s := range []string{
		"", " ", "+1", "-1", "-0", "+", "-", " 1", "1 ", "1 2", "1_000", "_1", "1_", "1.0", "1e3x", "0x1", "0X1", "0o7",
		"g", "G", "1g", "z", "Z", "\x00", "1\x00", "\n", "1\n", "\t1", "\xff", "1\x80", "é", "1é", "٣", "１", "1,000", "#1",
		"`", "@", "/", ":", "1/", "1:", "1@", "1`", "1\xb1", "\xb0", "\xe1", "\xc1",
	} {
		checkParse(t, s, 10, 0, api.ErrArg)
		checkParse(t, s, 16, 0, api.ErrArg)
	}
	for _, s := range []string{"a", "f", "A", "F", "1a", "a1", "1f", "0f0", "1F", "e", "1e3"} {
		checkParse(t, s, 10, 0, api.ErrArg)
	}
}

// Each byte is held against the list of digits: alone, ahead of a digit, and behind one.
func TestC3ParseEachByte(t *testing.T) {
	for _, base := range []int{10, 16} {
		value := digits(base)
		for c := range 256 {
			s := string([]byte{byte(c)})
			v, ok := value[byte(c)]
			if !ok {
				checkParse(t, s, base, 0, api.ErrArg)
				checkParse(t, s+"1", base, 0, api.ErrArg)
				checkParse(t, "1"+s, base, 0, api.ErrArg)
				continue
			}
			checkParse(t, s, base, v, api.OK)
			checkParse(t, s+"1", base, v*base+1, api.OK)
			checkParse(t, "1"+s, base, base+v, api.OK)
		}
	}
}

func TestC3ParseOtherBase(t *testing.T) {
	for base := -70; base <= 70; base++ {
		if base == 10 || base == 16 {
			continue
		}
		checkParse(t, "1", base, 0, api.ErrArg)
		checkParse(t, "0", base, 0, api.ErrArg)
		checkParse(t, "", base, 0, api.ErrArg)
		checkParse(t, "x", base, 0, api.ErrArg)
		checkParse(t, "99999999999999999999", base, 0, api.ErrArg)
	}
	for _, base := range []int{math.MinInt, math.MaxInt, 1<<32 + 10, 1<<32 + 16, -10, -16, 256 + 10, 256 + 16} {
		checkParse(t, "1", base, 0, api.ErrArg)
	}
}

func TestC4Text(t *testing.T) {
	for _, x := range []struct {
		n, base int
		want    string
	}{
		{0, 10, "0"},
		{0, 16, "0"},
		{1, 10, "1"},
		{9, 10, "9"},
		{9, 16, "9"},
		{10, 10, "10"},
		{10, 16, "a"},
		{15, 16, "f"},
		{16, 16, "10"},
		{31, 16, "1f"},
		{99, 10, "99"},
		{100, 10, "100"},
		{255, 16, "ff"},
		{256, 16, "100"},
		{0xabcdef, 16, "abcdef"},
		{1234567890, 10, "1234567890"},
		{most - 1, 10, "9007199254740991"},
		{most - 1, 16, "1fffffffffffff"},
		{most, 10, "9007199254740992"},
		{most, 16, "20000000000000"},
		{most + 1, 10, ""},
		{most + 1, 16, ""},
		{-1, 10, ""},
		{-1, 16, ""},
		{math.MinInt, 10, ""},
		{math.MinInt, 16, ""},
		{math.MaxInt, 10, ""},
		{math.MaxInt, 16, ""},
		{-1, 2, ""},
		{most + 1, 8, ""},
	} {
		if got := num.Text(x.n, x.base); got != x.want {
			t.Errorf("Text(%d, %d) = %q; want %q", x.n, x.base, got, x.want)
		}
	}
	for base := -70; base <= 70; base++ {
		if base == 10 || base == 16 {
			continue
		}
		for _, n := range []int{0, 1, 9, 10, 255, most} {
			if got := num.Text(n, base); got != "" {
				t.Errorf("Text(%d, %d) = %q", n, base, got)
			}
		}
	}
	for _, base := range []int{math.MinInt, math.MaxInt, 1<<32 + 10, 1<<32 + 16} {
		if got := num.Text(1, base); got != "" {
			t.Errorf("Text(1, %d) = %q", base, got)
		}
	}
}

// model is the digits of n, worked out from the last to the first.
func model(n, base int) string {
	s := ""
	for {
		s = "0123456789abcdef"[n%base:n%base+1] + s
		n /= base
		if n == 0 {
			return s
		}
	}
}

func checkUndone(t *testing.T, n int) {
	t.Helper()
	for _, base := range []int{10, 16} {
		s := num.Text(n, base)
		if want := model(n, base); s != want {
			t.Errorf("Text(%d, %d) = %q; want %q", n, base, s, want)
		}
		checkParse(t, s, base, n, api.OK)
		checkParse(t, strings.ToUpper(s), base, n, api.OK)
		checkParse(t, "0"+s, base, n, api.OK)
	}
}

func TestC5ParseUndoesText(t *testing.T) {
	for n := range 70000 {
		checkUndone(t, n)
	}
	for _, n := range fitting() {
		checkUndone(t, n)
	}
	for i := range 1000 {
		checkUndone(t, most-i)
	}
	r := rand.New(rand.NewSource(3))
	for range 20000 {
		checkUndone(t, int(r.Int63n(most+1))>>r.Intn(54))
	}
}

// exact returns the number that z is, or ErrBig if it is above 2^53.
func exact(z *big.Int) (int, api.Errno) {
	if z.Cmp(big.NewInt(most)) > 0 {
		return 0, api.ErrBig
	}
	return int(z.Int64()), api.OK
}

func checkExact(t *testing.T, a, b int) {
	t.Helper()
	x, y := big.NewInt(int64(a)), big.NewInt(int64(b))
	sum, e := exact(new(big.Int).Add(x, y))
	product, f := exact(new(big.Int).Mul(x, y))
	if a < 0 || a > most || b < 0 || b > most {
		sum, e, product, f = 0, api.ErrArg, 0, api.ErrArg
	}
	if n, err := num.Add(a, b); n != sum || err != e {
		t.Errorf("Add(%d, %d) = %d, %d; want %d, %d", a, b, n, err, sum, e)
	}
	if n, err := num.Mul(a, b); n != product || err != f {
		t.Errorf("Mul(%d, %d) = %d, %d; want %d, %d", a, b, n, err, product, f)
	}
}

func TestC5AddAndMulAreExact(t *testing.T) {
	for _, a := range edges() {
		for _, b := range edges() {
			checkExact(t, a, b)
		}
	}
	r := rand.New(rand.NewSource(5))
	for range 50000 {
		a := int(r.Int63n(most+1)) >> r.Intn(54)
		checkExact(t, a, int(r.Int63n(most+1))>>r.Intn(54))
		checkExact(t, a, most-a)
		checkExact(t, a, most-a+1)
		// The products next to 2^53, on both sides of it.
		if a > 0 {
			checkExact(t, a, most/a)
			checkExact(t, a, most/a+1)
		}
	}
}

// Each text of up to three bytes of a small alphabet is held against the exact reading of it.
func TestC5EachShortText(t *testing.T) {
	alphabet := []byte("019afgAFG +_\xff")
	texts := []string{""}
	for range 3 {
		for _, s := range texts {
			for _, c := range alphabet {
				texts = append(texts, s+string([]byte{c}))
			}
		}
	}
	for _, base := range []int{10, 16} {
		value := digits(base)
		for _, s := range texts {
			n, e := 0, api.OK
			if s == "" {
				e = api.ErrArg
			}
			for _, c := range []byte(s) {
				v, ok := value[c]
				if !ok {
					e = api.ErrArg
				}
				n = n*base + v
			}
			if e != api.OK {
				n = 0
			}
			checkParse(t, s, base, n, e)
		}
	}
}

func TestExample1(t *testing.T) {
	checkParse(t, "1F", 16, 31, api.OK)
}

// R4: the same calls have the same results, whatever was called between them.
func TestSameAgain(t *testing.T) {
	run := func() string {
		var out []string
		for _, n := range edges() {
			a, e := num.Add(n, 1)
			b, f := num.Mul(n, 3)
			c, g := num.Parse(num.Text(n, 16), 10)
			out = append(out, fmt.Sprint(num.Fits(n), a, e, b, f, c, g, num.Text(n, 10)))
		}
		return strings.Join(out, "\n")
	}
	first := run()
	if run() != first {
		t.Error("the same calls have other results")
	}
}
