package numeral_test

import (
	"fmt"
	"math/big"
	"math/rand"
	"slices"
	"strings"
	"testing"

	"simile/api"
	"simile/nat"
	"simile/numeral"
)

// large tells what an integer is to math/big.
func large(x api.Int) *big.Int {
	out := new(big.Int)
	for i := len(x.Mag) - 1; i >= 0; i-- {
		out.Or(out.Lsh(out, 32), big.NewInt(int64(x.Mag[i])))
	}
	if x.Neg {
		out.Neg(out)
	}
	return out
}

func number(n int64) api.Int {
	if n < 0 {
		return api.Int{Neg: true, Mag: nat.Of(uint64(-n))}
	}
	return api.Int{Mag: nat.Of(uint64(n))}
}

func fraction(n, d int64) api.Rat { return api.Rat{Num: number(n), Den: number(d)} }

// normal: no noughts at the top, and no sign of 0.
func normal(x api.Int) bool {
	n := len(x.Mag)
	return n == 0 && !x.Neg || n > 0 && x.Mag[n-1] != 0
}

// same: are two fractions written alike?
func same(a, b api.Rat) bool {
	return large(a.Num).Cmp(large(b.Num)) == 0 && large(a.Den).Cmp(large(b.Den)) == 0 && normal(a.Num) && normal(a.Den)
}

func sameRow(a, b []api.Rat) bool { return slices.EqualFunc(a, b, same) }

func TestInt(t *testing.T) { // P2.1
	for text, n := range map[string]int64{
		"0": 0, "-0": 0, "000": 0, "7": 7, "-007": -7, "\u22125": -5, "12345678901234567": 12345678901234567,
		"-18446744073709551": -18446744073709551, "0000000000000000000000001": 1,
	} {
		if got, e := numeral.Int(text); e != api.OK || large(got).Int64() != n || !normal(got) {
			t.Errorf("Int(%q): %v, %d", text, got, e)
		}
	}
	for _, text := range []string{"", "-", "+5", "5 ", " 5", "5-", "--5", "-\u22125", "1/2", "5/", "/5", "0x1", "1e3", "1.5", "1,2", "\xff5", "5\xff", "\ufffd",
		"\u0665", "\uff15", "1\u20442", "a", "5\n", "\u22125\u2212"} {
		if got, e := numeral.Int(text); e != api.ErrBadNumber || len(got.Mag) > 0 || got.Neg {
			t.Errorf("Int(%q): %v, %d", text, got, e)
		}
	}
}

func TestDigitsLimit(t *testing.T) { // MaxDigits, and ErrBadNumber ahead of ErrTooBig
	long := strings.Repeat("7", api.MaxDigits)
	if got, e := numeral.Int("-" + long); e != api.OK || large(got).String() != "-"+long {
		t.Errorf("Int of 10000 digits: %d", e)
	}
	if got, e := numeral.Frac(long[:9999] + "/3"); e != api.OK || large(got.Num).String() != long[:9999] {
		t.Errorf("Frac of 10000 digits: %d", e)
	}
	if got, e := numeral.FromBase(strings.Repeat("z", api.MaxDigits), 36); e != api.OK || large(got).Text(36) != strings.Repeat("z", api.MaxDigits) {
		t.Errorf("FromBase of 10000 digits: %d", e)
	}
	for text, want := range map[string]api.Errno{
		long + "0": api.ErrTooBig, "0" + long: api.ErrTooBig, strings.Repeat("0", 10001): api.ErrTooBig,
		long + "7x": api.ErrBadNumber, "x7" + long: api.ErrBadNumber, "7" + long + "/" + long: api.ErrBadNumber, "7/" + long: api.ErrBadNumber,
	} {
		if got, e := numeral.Int(text); e != want || len(got.Mag) > 0 {
			t.Errorf("Int of %d digits: %d, want %d", len(text), e, want)
		}
	}
	for text, want := range map[string]api.Errno{
		long + "/1": api.ErrTooBig, "1/" + long: api.ErrTooBig, long + "/0": api.ErrBadNumber, long + "7/": api.ErrBadNumber,
		long + "7/" + strings.Repeat("0", 20000): api.ErrBadNumber, "1/2/" + long: api.ErrBadNumber, long[:5000] + "/" + long[:5000]: api.OK,
		long[:5000] + "/" + long[:5001]: api.ErrTooBig,
	} {
		if _, e := numeral.Frac(text); e != want {
			t.Errorf("Frac of %d digits: %d, want %d", len(text), e, want)
		}
	}
	if _, e := numeral.FromBase(strings.Repeat("1", 10001), 2); e != api.ErrTooBig {
		t.Errorf("FromBase of 10001 digits: %d", e)
	}
	if _, e := numeral.FromBase(strings.Repeat("1", 10001)+"2", 2); e != api.ErrBadNumber {
		t.Errorf("FromBase of 10001 digits and a wrong one: %d", e)
	}
}

func TestPrintInt(t *testing.T) { // P2.1, P2.8
	for _, c := range []struct {
		x    api.Int
		text string
	}{
		{api.Int{}, "0"}, {api.Int{Neg: true}, "0"}, {api.Int{Neg: true, Mag: api.Nat{0, 0}}, "0"}, {number(-7), "-7"},
		{api.Int{Mag: api.Nat{0, 1, 0}}, "4294967296"}, {api.Int{Neg: true, Mag: api.Nat{5, 0}}, "-5"},
		{number(1000000000000), "1000000000000"}, {number(999999999999), "999999999999"},
	} {
		if got := numeral.PrintInt(c.x); got != c.text {
			t.Errorf("PrintInt(%v): %s", c.x, got)
		}
	}
	r := rand.New(rand.NewSource(1))
	for k := range 300 {
		x := api.Int{Neg: k%2 == 0, Mag: make(api.Nat, r.Intn(60))}
		for i := range x.Mag {
			x.Mag[i] = r.Uint32() * uint32(r.Intn(2))
		}
		text := numeral.PrintInt(x)
		if text != large(x).String() {
			t.Errorf("PrintInt(%v): %s", x, text)
		}
		if back, e := numeral.Int(text); e != api.OK || large(back).Cmp(large(x)) != 0 || !normal(back) {
			t.Errorf("Int(PrintInt(%v)): %v", x, back)
		}
	}
	long := strings.Repeat("1234567890", 30000)
	x, _ := new(big.Int).SetString(long, 10)
	var limbs api.Nat
	for _, w := range x.Bits() {
		limbs = append(limbs, uint32(w), uint32(w>>32))
	}
	if numeral.PrintInt(api.Int{Mag: limbs}) != long {
		t.Error("PrintInt of 300000 digits")
	}
}

func TestFrac(t *testing.T) { // P2.2
	for text, want := range map[string]api.Rat{
		"6/4": fraction(6, 4), "-6/4": fraction(-6, 4), "\u22123/4": fraction(-3, 4), "1\u20442": fraction(1, 2), "1\u22152": fraction(1, 2),
		"5": fraction(5, 1), "-0": fraction(0, 1), "-0/7": fraction(0, 7), "007/0014": fraction(7, 14), "0/5": fraction(0, 5),
	} {
		if got, e := numeral.Frac(text); e != api.OK || !same(got, want) {
			t.Errorf("Frac(%q): %v, %d", text, got, e)
		}
	}
	for _, text := range []string{"", "3/0", "1/00", "1/-2", "1/\u22122", "0x1", "/2", "1/", "1//2", "1/2/3", "-/2", "1 /2", "1/ 2", "+1/2", "1/2 ",
		"\xe2\x81", "1\xe2\x812", "1\xff2", "-", "/", "1\u204f2", "1,2", "1;2"} {
		if got, e := numeral.Frac(text); e != api.ErrBadNumber || len(got.Num.Mag)+len(got.Den.Mag) > 0 || got.Num.Neg {
			t.Errorf("Frac(%q): %v, %d", text, got, e)
		}
	}
}

func TestPrintFrac(t *testing.T) { // P2.2, P2.8
	zero := api.Int{Neg: true, Mag: api.Nat{0}}
	for _, c := range []struct {
		r    api.Rat
		text string
	}{
		{fraction(6, 4), "6/4"}, {fraction(6, -4), "-6/4"}, {fraction(-6, -4), "6/4"}, {fraction(5, 1), "5"}, {fraction(5, -1), "-5"},
		{fraction(0, -4), "0/4"}, {fraction(0, 4), "0/4"}, {fraction(0, -1), "0"}, {api.Rat{Num: zero, Den: number(3)}, "0/3"},
		{api.Rat{Num: number(2), Den: api.Int{Mag: api.Nat{1, 0, 0}}}, "2"}, {api.Rat{Num: api.Int{Mag: api.Nat{3, 0}}, Den: api.Int{Neg: true, Mag: api.Nat{7, 0}}}, "-3/7"},
	} {
		got, e := numeral.PrintFrac(c.r)
		if got != c.text || e != api.OK {
			t.Errorf("PrintFrac(%v): %q, %d", c.r, got, e)
		}
		back, e := numeral.Frac(got)
		if num, den := large(c.r.Num), large(c.r.Den); e != api.OK || !same(back, api.Rat{Num: back.Num, Den: api.Int{Mag: back.Den.Mag}}) ||
			num.Cmp(new(big.Int).Mul(large(back.Num), big.NewInt(int64(den.Sign())))) != 0 {
			t.Errorf("Frac of %q: %v", got, back)
		}
	}
	for _, den := range []api.Int{{}, {Neg: true}, {Neg: true, Mag: api.Nat{0, 0}}} {
		if got, e := numeral.PrintFrac(api.Rat{Num: number(1), Den: den}); got != "" || e != api.ErrDen {
			t.Errorf("PrintFrac of 1/0: %q, %d", got, e)
		}
	}
}

func TestRow(t *testing.T) { // P2.3
	one, two, three := fraction(1, 1), fraction(2, 1), fraction(3, 1)
	for text, want := range map[string][]api.Rat{
		"": nil, "  ": nil, "\t\u00a0\u2009 ": nil, " 1, 2/3  -4 ": {one, fraction(2, 3), fraction(-4, 1)},
		"1 2": {one, two}, "1,2": {one, two}, "1\u00a0\u2009,\t 2": {one, two}, "1\u20092\t3": {one, two, three}, "\u22121\u20442": {fraction(-1, 2)}, "1 ,2 3": {one, two, three},
	} {
		if got, n, e := numeral.Row(text); e != api.OK || n != 0 || !sameRow(got, want) {
			t.Errorf("Row(%q): %v, %d, %d", text, got, n, e)
		}
	}
	long := strings.Repeat("1", 10001)
	for text, want := range map[string]struct {
		number int
		e      api.Errno
	}{
		"1,,2": {2, api.ErrBadRow}, "1,": {2, api.ErrBadRow}, ",": {1, api.ErrBadRow}, ", 1": {1, api.ErrBadRow}, "1 x": {2, api.ErrBadNumber},
		"x,": {1, api.ErrBadNumber}, ",x": {1, api.ErrBadRow}, "1,,x": {2, api.ErrBadRow}, "1 , \t": {2, api.ErrBadRow}, "1;2": {1, api.ErrBadNumber},
		"1 ; 2": {2, api.ErrBadNumber}, "1\n2": {1, api.ErrBadNumber}, "\n": {1, api.ErrBadNumber}, "1 2 " + long: {3, api.ErrTooBig}, long + ",": {1, api.ErrTooBig},
		"1, ,": {2, api.ErrBadRow}, "1 2,,": {3, api.ErrBadRow}, "1\xff": {1, api.ErrBadNumber}, "1 3/0 x": {2, api.ErrBadNumber}, "1 - 2": {2, api.ErrBadNumber}, "1\u30002": {1, api.ErrBadNumber},
	} {
		if got, n, e := numeral.Row(text); len(got) > 0 || n != want.number || e != want.e {
			t.Errorf("Row(%.20q): %v, %d, %d, want %v", text, got, n, e, want)
		}
	}
}

func TestMatrix(t *testing.T) { // P2.3
	one, two, three := fraction(1, 1), fraction(2, 1), fraction(3, 1)
	for text, want := range map[string][][]api.Rat{
		"": {nil}, " ": {nil}, "1 2; 3": {{one, two}, {three}}, "1\n2;3": {{one}, {two}, {three}}, ";": {nil, nil}, "1;": {{one}, nil}, "\n1": {nil, {one}}, "1, 2 ;\t 3 ": {{one, two}, {three}},
	} {
		if got, r, n, e := numeral.Matrix(text); e != api.OK || r != 0 || n != 0 || !slices.EqualFunc(got, want, sameRow) {
			t.Errorf("Matrix(%q): %v, %d, %d, %d", text, got, r, n, e)
		}
	}
	for text, want := range map[string][3]int{
		"1;x": {2, 1, 20}, "1 x;,": {1, 2, 20}, "1 2;3,": {2, 2, 21}, ";;1 2 3/0": {3, 3, 20}, ",;x": {1, 1, 21}, "1;2;3 4 " + strings.Repeat("5", 10001): {3, 3, 4}, "1\r\n2": {1, 1, 20},
	} {
		if got, r, n, e := numeral.Matrix(text); len(got) > 0 || [3]int{r, n, int(e)} != want {
			t.Errorf("Matrix(%.20q): %v, %d, %d, %d", text, got, r, n, e)
		}
	}
}

func TestPrintRows(t *testing.T) { // P2.4, P2.8
	bad := fraction(1, 0)
	rows := [][]api.Rat{{fraction(1, 1), fraction(2, 3)}, nil, {fraction(6, -4)}}
	if got, e := numeral.PrintRow(rows[0]...); got != "1 2/3" || e != api.OK {
		t.Errorf("PrintRow: %q, %d", got, e)
	}
	if got, e := numeral.PrintRow(); got != "" || e != api.OK {
		t.Errorf("PrintRow of none: %q, %d", got, e)
	}
	if got, e := numeral.PrintMatrix(rows...); got != "1 2/3; ; -6/4" || e != api.OK {
		t.Errorf("PrintMatrix: %q, %d", got, e)
	}
	if got, e := numeral.PrintMatrix(); got != "" || e != api.OK {
		t.Errorf("PrintMatrix of none: %q, %d", got, e)
	}
	if got, e := numeral.PrintRow(fraction(1, 2), bad); got != "" || e != api.ErrDen {
		t.Errorf("PrintRow with 1/0: %q, %d", got, e)
	}
	if got, e := numeral.PrintMatrix(rows[0], []api.Rat{bad}); got != "" || e != api.ErrDen {
		t.Errorf("PrintMatrix with 1/0: %q, %d", got, e)
	}
	back, _, _, e := numeral.Matrix("1 2/3; ; -6/4")
	if text, _ := numeral.PrintMatrix(back...); e != api.OK || text != "1 2/3; ; -6/4" {
		t.Errorf("Matrix and PrintMatrix: %q", text)
	}
	if back, _, e := numeral.Row("1 2/3"); e != api.OK || !sameRow(back, rows[0]) {
		t.Errorf("Row of PrintRow: %v", back)
	}
}

func TestBases(t *testing.T) { // P2.5, P2.8
	for _, base := range []int{-1, 0, 1, 37, 1 << 40} {
		if text, e := numeral.Based(number(5), base); text != "" || e != api.ErrArg {
			t.Errorf("Based in %d: %q, %d", base, text, e)
		}
		if x, e := numeral.FromBase("x", base); len(x.Mag) > 0 || e != api.ErrArg {
			t.Errorf("FromBase in %d: %v, %d", base, x, e)
		}
	}
	r := rand.New(rand.NewSource(2))
	for base := 2; base <= 36; base++ {
		for k := range 20 {
			x := api.Int{Neg: k%3 == 0, Mag: make(api.Nat, r.Intn(12))}
			for i := range x.Mag {
				x.Mag[i] = r.Uint32() * uint32(r.Intn(2))
			}
			text, e := numeral.Based(x, base)
			if e != api.OK || text != large(x).Text(base) {
				t.Errorf("Based(%v, %d): %q, %d", x, base, text, e)
			}
			for _, form := range []string{text, strings.ToUpper(text), strings.ReplaceAll(text, "-", "\u2212")} {
				if back, e := numeral.FromBase(form, base); e != api.OK || large(back).Cmp(large(x)) != 0 || !normal(back) {
					t.Errorf("FromBase(%q, %d): %v, %d", form, base, back, e)
				}
			}
		}
	}
	for _, c := range []struct {
		text string
		base int
	}{{"12", 2}, {"", 10}, {"-", 16}, {"g", 16}, {"G", 16}, {"1/2", 36}, {" 1", 10}, {"+1", 10}, {"--1", 10}, {"1-", 36}, {"\u00df", 36}, {"[", 36}, {"@", 36}, {"`", 36}, {"{", 36}, {":", 36}, {"\xff", 36}} {
		if x, e := numeral.FromBase(c.text, c.base); len(x.Mag) > 0 || x.Neg || e != api.ErrBadNumber {
			t.Errorf("FromBase(%q, %d): %v, %d", c.text, c.base, x, e)
		}
	}
	if text, _ := numeral.Based(number(-255), 16); text != "-ff" {
		t.Errorf("Based(-255, 16): %q", text)
	}
	if x, e := numeral.FromBase("FF", 16); large(x).Int64() != 255 || e != api.OK {
		t.Errorf("FromBase(FF, 16): %v", x)
	}
	if text, _ := numeral.Based(api.Int{Neg: true, Mag: api.Nat{0}}, 7); text != "0" {
		t.Errorf("Based of 0: %q", text)
	}
}

func TestPlain(t *testing.T) { // P2.6, P2.9
	for text, want := range map[string]string{
		"": "", "\u22121\u20442\u00a0x": "-1/2 x", "a\tb\u2009c d\n;": "a b c d\n;", "1\u22152": "1/2", "\xff\xfe": "\ufffd\ufffd", "a\xe2\x88": "a\ufffd\ufffd", "\ufffd": "\ufffd", "-/ ": "-/ ", "\u2013\u3000": "\u2013\u3000",
	} {
		if got := numeral.Plain(text); got != want || numeral.Plain(got) != got {
			t.Errorf("Plain(%q): %q", text, got)
		}
	}
	for _, text := range scraps(3) {
		plain := numeral.Plain(text)
		if numeral.Plain(plain) != plain {
			t.Errorf("Plain of Plain of %q", text)
		}
		if a, b := fmt.Sprint(numeral.Int(text)), fmt.Sprint(numeral.Int(plain)); a != b {
			t.Errorf("Int(%q): %s, of Plain %s", text, a, b)
		}
		if a, b := fmt.Sprint(numeral.Frac(text)), fmt.Sprint(numeral.Frac(plain)); a != b {
			t.Errorf("Frac(%q): %s, of Plain %s", text, a, b)
		}
		if a, b := fmt.Sprint(numeral.Row(text)), fmt.Sprint(numeral.Row(plain)); a != b {
			t.Errorf("Row(%q): %s, of Plain %s", text, a, b)
		}
	}
}

// scraps are texts put together by chance.
func scraps(seed int64) []string {
	r := rand.New(rand.NewSource(seed))
	bits := []string{"1", "2", "0", "-", "\u2212", "/", "\u2044", "\u2215", " ", "\t", "\u00a0", "\u2009", ",", ";", "\n", "x", "\xff", "12", "3/4", " ", ",", "5"}
	out := make([]string, 3000)
	for i := range out {
		for range r.Intn(8) {
			out[i] += bits[r.Intn(len(bits))]
		}
	}
	return out
}

func TestWords(t *testing.T) { // P2.7
	type word struct {
		place int
		text  string
	}
	for text, want := range map[string][]word{
		"": nil, " ,;\n\t": nil, "a": {{0, "a"}}, " ab,c;d\ne ": {{1, "ab"}, {4, "c"}, {6, "d"}, {8, "e"}},
		"\u2009x\u00a0\u2212y": {{3, "x"}, {6, "\u2212y"}}, "\xff,\xe2\x88": {{0, "\xff"}, {2, "\xe2\x88"}}, "1/2,,3": {{0, "1/2"}, {5, "3"}},
	} {
		var got []word
		for i, w := range numeral.Words(text) {
			got = append(got, word{i, w})
		}
		if !slices.Equal(got, want) {
			t.Errorf("Words(%q): %v", text, got)
		}
	}
	seq, pairs := numeral.Words("a b,c"), 0
	for i := range seq { // left, gone over again, and nested
		for k := range seq {
			if pairs++; k == i {
				break
			}
		}
	}
	if pairs != 6 {
		t.Errorf("Words nested: %d", pairs)
	}
}

func TestRowOfWords(t *testing.T) { // P2.10
	for _, text := range scraps(4) {
		row, _, e := numeral.Row(text)
		told, after := !strings.ContainsAny(text, ";\n"), 0
		var words []api.Rat
		for place, w := range numeral.Words(text) {
			r, e := numeral.Frac(w)
			words = append(words, r)
			commas := strings.Count(text[after:place], ",")
			told = told && e == api.OK && (commas == 0 || commas == 1 && len(words) > 1)
			after = place + len(w)
		}
		told = told && strings.Count(text[after:], ",") == 0
		if told != (e == api.OK) || told && !sameRow(row, words) {
			t.Errorf("Row(%q): %v, %d; of its words %v, %t", text, row, e, words, told)
		}
	}
}

func TestMemory(t *testing.T) { // R3: what is handed in stays
	x := api.Int{Neg: true, Mag: append(make(api.Nat, 0, 8), 5, 9, 0)}
	room := x.Mag[:8]
	r := api.Rat{Num: x, Den: x}
	for range 2 {
		numeral.PrintInt(x)
		numeral.Based(x, 3)
		numeral.PrintFrac(r)
		numeral.PrintRow(r, r)
	}
	if !slices.Equal(room, api.Nat{5, 9, 0, 0, 0, 0, 0, 0}) {
		t.Errorf("what was handed in is %v", room)
	}
	l, _, _ := numeral.Row("1 1 1")
	l[0].Num.Mag[0], l[1].Den.Mag[0] = 7, 8
	if !sameRow(l, []api.Rat{fraction(7, 1), fraction(1, 8), fraction(1, 1)}) {
		t.Errorf("a row's numbers share memory: %v", l)
	}
}
