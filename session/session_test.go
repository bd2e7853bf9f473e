package session_test

import (
	"fmt"
	"math/rand"
	"slices"
	"strconv"
	"strings"
	"testing"

	"simile/api"
	"simile/bareiss"
	"simile/charfree"
	"simile/commute"
	"simile/frob"
	"simile/minpoly"
	"simile/numeral"
	"simile/qmat"
	"simile/rat"
	"simile/session"
	"simile/simil"
	"simile/verify"
)

// read: the matrix of a text that is one.
func read(t *testing.T, text string) api.Mat {
	t.Helper()
	rows, _, _, e := numeral.Matrix(text)
	m, e2 := qmat.From(rows...)
	if e != api.OK || e2 != api.OK {
		t.Fatalf("%q is no matrix: %d, %d", text, e, e2)
	}
	return m
}

func same(t *testing.T, what string, got, want any) {
	t.Helper()
	if fmt.Sprint(got) != fmt.Sprint(want) {
		t.Errorf("%s: %.300q, want %.300q", what, fmt.Sprint(got), fmt.Sprint(want))
	}
}

// play: the report of a script that is right.
func play(t *testing.T, text string) string {
	t.Helper()
	report, number, e := session.Play(text)
	if number != 0 || e != api.OK {
		t.Errorf("Play(%.100q): line %d, error %d", text, number, e)
	}
	return report
}

// told: a report's lines without their numbers, which must all be the same one.
func told(t *testing.T, report string, number int) []string {
	t.Helper()
	var out []string
	for l := range strings.Lines(report) {
		text, ok := strings.CutPrefix(strings.TrimSuffix(l, "\n"), strconv.Itoa(number)+" ")
		if !ok || !strings.HasSuffix(l, "\n") {
			t.Errorf("the report line %q is not line %d's", l, number)
		}
		out = append(out, text)
	}
	return out
}

// after: what stands behind a word.
func after(t *testing.T, text, word string) string {
	t.Helper()
	out, ok := strings.CutPrefix(text, word+" ")
	if !ok {
		t.Errorf("the report line %q does not begin with %s", text, word)
	}
	return out
}

func row(l []api.Rat) string {
	out, _ := numeral.PrintRow(l...)
	return out
}

func text(m api.Mat) string {
	l, _ := qmat.Rows(m)
	out, _ := numeral.PrintMatrix(l...)
	return out
}

// some tells a matrix' text.
func some(r *rand.Rand, n int) string {
	var rows []string
	for range n {
		var l []string
		for range n {
			x := strconv.Itoa((r.Intn(7) - 3) * r.Intn(2))
			if r.Intn(4) == 0 {
				x += "/" + strconv.Itoa(r.Intn(3)+1)
			}
			l = append(l, x)
		}
		rows = append(rows, strings.Join(l, []string{" ", ", ", ",", "\t"}[r.Intn(4)]))
	}
	return strings.Join(rows, []string{";", "; ", " ;"}[r.Intn(3)])
}

func TestExamples(t *testing.T) {
	l := told(t, play(t, "frobenius [2 0; 0 2]\n"), 1)
	if len(l) != 5 || !slices.Equal(l[:3], []string{"factor -2 1", "factor -2 1", "form 2 0; 0 2"}) {
		t.Errorf("frobenius: %q", l)
	}
	same(t, "char", play(t, "char [1/2 1; 0 1/3]\n"), "1 poly 1/6 -5/6 1\n")
	same(t, "similar", play(t, "let A [1 1; 0 1]\nsimilar A [1 0; 0 1]\n"), "2 no 0\n2 first 1 -2 1\n2 second -1 1\n")
	for script, want := range map[string]string{
		"det [1 x]\n": "1 error 20\n", "det [1 2]\n": "1 error 3\n", "similar [1] [1 0; 0 1]\n": "1 error 2\n", "inverse [0]\n": "1 error 7\n", "let x1 [1]\nrank x1": "2 rank 1\n", "": "", "\n\n": "", "# [\n \t\n": "", "let A [x]\n": "",
		"rank []": "1 error 3\n", "rank [ ]": "1 error 3\n", "det [6/4]": "1 det 3/2\n", "det [2 4; 1 2]": "1 det 0\n", "key [2 0; 0 2]": "1 key -2 1; -2 1\n", "inverse [2 0; 0 -4/6]": "1 inverse 1/2 0; 0 -3/2\n", "rank [1 2;2 4]": "1 rank 1\n",
		"minpoly [2 0; 0 2]": "1 poly -2 1\n", "route smith [1 2; 3 4]": "1 poly -2 -5 1\n", "centraliser [0 -6; 1 5] [0 1; 0 0] [0 0; 0 0]": "", "similar [1 x] [1 2]": "1 error 20\n", "similar [1 2] [x]": "1 error 3\n", "centraliser [1] [1] [1 0; 0 1] [1 2]": "1 error 3\n", "centraliser [1] [1] [1 0; 0 1]": "1 error 2\n",
	} {
		report := play(t, script)
		if want != "" || strings.Count(script, "centraliser") == 0 {
			same(t, script, report, want)
		}
	}
	l = told(t, play(t, "centraliser [2 0; 0 3] [0 1; 0 0]\n"), 1)
	if len(l) != 4 || l[0] != "basis 2" || l[3] != "no" {
		t.Errorf("centraliser: %q", l)
	}
	for script, number := range map[string]int{"char B\n": 1, "char  [1]\n": 1} {
		at, e := session.Check(script)
		same(t, script, fmt.Sprint(at, int(e)), fmt.Sprint(number, 280))
	}
}

func TestReports(t *testing.T) { // P28.2, P28.5, P28.6
	r := rand.New(rand.NewSource(1))
	for range 60 {
		n := r.Intn(3) + 1
		a, b := some(r, n), some(r, n)
		x, y := read(t, a), read(t, b)
		lets := "let A [" + a + "]\nlet b2 [" + b + "]\n"
		checkFrobenius(t, x, told(t, play(t, lets+"frobenius A"), 3))
		checkSimilar(t, x, y, told(t, play(t, lets+"similar A b2"), 3))
		checkSimilar(t, x, x, told(t, play(t, lets+"similar A ["+a+"]"), 3))
		char, _ := charfree.Berkowitz(x)
		same(t, "char", play(t, lets+"char A"), "3 poly "+row(char)+"\n")
		for _, name := range []string{"berkowitz", "interpolated", "leverrier", "smith", "factors"} {
			same(t, name, play(t, lets+"route "+name+" A"), "3 poly "+row(char)+"\n")
		}
		checkModular(t, x, char, told(t, play(t, lets+"route modular A\n"), 3))
		min, _ := minpoly.Of(x)
		same(t, "minpoly", play(t, lets+"minpoly A"), "3 poly "+row(min)+"\n")
		rank, _ := bareiss.Rank(x)
		same(t, "rank", play(t, lets+"rank A"), "3 rank "+strconv.Itoa(rank)+"\n")
		det, _ := bareiss.Det(x)
		same(t, "det", play(t, lets+"det A"), "3 det "+row([]api.Rat{det})+"\n")
		key, _ := simil.Key(x)
		same(t, "key", play(t, lets+"key A"), "3 key "+key+"\n")
		inverse, e := bareiss.Inverse(x)
		want := "3 inverse " + text(inverse) + "\n"
		if e != api.OK {
			want = "3 error 7\n"
		}
		same(t, "inverse", play(t, lets+"inverse A"), want)
		checkCentraliser(t, x, []api.Mat{y, x}, told(t, play(t, lets+"centraliser A b2 A"), 3))
		checkCentraliser(t, x, nil, told(t, play(t, lets+"centraliser A"), 3))
	}
}

func checkFrobenius(t *testing.T, m api.Mat, l []string) {
	t.Helper()
	f, _ := frob.Form(m)
	k := len(f.Polys)
	if len(l) != k+3 {
		t.Fatalf("frobenius of %v: %q", m, l)
	}
	for i, p := range f.Polys {
		same(t, "factor", l[i], "factor "+row(p))
	}
	same(t, "form", l[k], "form "+text(f.F))
	f.T, f.Inv = read(t, after(t, l[k+1], "by")), read(t, after(t, l[k+2], "back"))
	if c, e := verify.Form(m, f); c != api.ClaimNone || e != api.OK || l[k+1] != "by "+text(f.T) || l[k+2] != "back "+text(f.Inv) {
		t.Errorf("frobenius of %v: %q", m, l)
	}
}

func checkSimilar(t *testing.T, a, b api.Mat, l []string) {
	t.Helper()
	place, f, g, differ, _ := simil.Differ(a, b)
	if differ {
		same(t, "similar", l, []string{"no " + strconv.Itoa(place), "first " + row(f), "second " + row(g)})
		return
	}
	if len(l) != 3 || l[0] != "yes" {
		t.Fatalf("similar of %v, %v: %q", a, b, l)
	}
	s, inverse := read(t, after(t, l[1], "by")), read(t, after(t, l[2], "back"))
	if c, e := verify.Similar(a, b, s, inverse); c != api.ClaimNone || e != api.OK {
		t.Errorf("similar of %v, %v: %q", a, b, l)
	}
}

func checkModular(t *testing.T, m api.Mat, char api.Poly, l []string) {
	t.Helper()
	if len(l) < 4 {
		t.Fatalf("route modular of %v: %q", m, l)
	}
	same(t, "poly", l[0], "poly "+row(char))
	d, _ := numeral.Int(after(t, l[1], "den"))
	b, _ := numeral.Int(after(t, l[2], "bound"))
	c := api.Cert{D: d, Bound: b}
	for _, x := range l[3:] {
		var words []uint32
		for _, w := range strings.Split(after(t, x, "prime"), " ") {
			n, err := strconv.ParseUint(w, 10, 32)
			if err != nil {
				t.Fatalf("route modular of %v: %q", m, l)
			}
			words = append(words, uint32(n))
		}
		c.Pairs = append(c.Pairs, api.Pair{P: words[0], C: words[1:]})
	}
	if claim, e := verify.Modular(m, char, c); claim != api.ClaimNone || e != api.OK {
		t.Errorf("route modular of %v: %q: %s", m, l, verify.Name(claim))
	}
}

func checkCentraliser(t *testing.T, m api.Mat, others []api.Mat, l []string) {
	t.Helper()
	dim, _ := commute.Dim(m)
	if len(l) != 1+dim+len(others) || l[0] != "basis "+strconv.Itoa(dim) {
		t.Fatalf("centraliser of %v: %q", m, l)
	}
	var basis []api.Mat
	for _, x := range l[1 : 1+dim] {
		basis = append(basis, read(t, after(t, x, "member")))
	}
	if c, e := verify.Basis(m, basis...); c != api.ClaimNone || e != api.OK {
		t.Errorf("centraliser of %v: %q", m, l)
	}
	for i, x := range others {
		got := l[1+dim+i]
		if is, _ := commute.Does(m, x); !is {
			same(t, "what does not commute", got, "no")
			continue
		}
		numbers, _, e := numeral.Row(after(t, got, "coords"))
		sum, _ := qmat.Scale(m, rat.Of(0))
		for k, c := range numbers {
			part, _ := qmat.Scale(basis[k], c)
			sum, _ = qmat.Add(sum, part)
		}
		if is, _ := qmat.Equal(sum, x); !is || len(numbers) != dim || e != api.OK {
			t.Errorf("centraliser of %v: %q", m, l)
		}
	}
}

func TestCheck(t *testing.T) { // P28.1: lines that are wrong, and their numbers
	for _, bad := range []string{
		"char", "char ", " char [1]", "char  [1]", "char [1] ", "char [1] [1]", "char\t[1]", "char\u00a0[1]", "Char [1]", "chars [1]", "char [1", "char 1]", "char [1]]", "char [1][2]", "char A[1]", "char [1]A", "char [1]\r", "char [a]b]", "char ]", "char B", "char 1", "char \xff",
		"x", "[1]", "let", "let A", "let A [1", "let A A", "let A [1] [2]", "let 1 [1]", "let 1A [1]", "let A_ [1]", "let \u00c4 [1]", "let [1]", "let [1] [1]", "let A  [1]", "let  A [1]", "let A1234567890123456789x [1]", "let A [1]x", "let A [1]]",
		"similar [1]", "similar [1] [1] [1]", "similar", "frobenius", "frobenius [1] [1]", "route smith", "route [1]", "route x [1]", "route smith [1] [1]", "route smith  [1]", "route Smith [1]", "route [smith] [1]", "route", "minpoly", "centraliser", "centraliser ", "rank", "det [1] [2]", "inverse", "key", "key  [1]", "\u00a0x", "\ufeff# x",
	} {
		for _, ahead := range []string{"", "# x\n\n", "let C [1]\nchar C\n"} {
			script := ahead + bad + "\nchar [1]\nx\n"
			number, e := session.Check(script)
			same(t, fmt.Sprintf("Check(%q)", script), fmt.Sprint(number, int(e)), fmt.Sprint(strings.Count(ahead, "\n")+1, 280))
			report, number2, e2 := session.Play(script)
			same(t, fmt.Sprintf("Play(%q)", script), fmt.Sprint(report, number2, int(e2)), fmt.Sprint("", number, 280))
			for n, l := range session.Lines(script) {
				t.Errorf("Lines(%q) tells %d %q", script, n, l)
			}
		}
	}
	for _, good := range []string{
		"", "\n", "#", "#char", "# \xff", " ", "\t\u00a0\u2009 ", "let A [1]", "let A1234567890123456789 [1]", "let char [1]\nchar char", "let let [1]\nrank let", "let A []", "let A [[x;,# \xff]", "let A [1]\nlet A [2]\nchar A", "char []", "char [x[y]", "centraliser [1] [1] [1] [1] [1]", "route modular [1]", "let z9Z [1]\nroute berkowitz z9Z", "char [1 # 2]", "det [\u22121\u20442]",
	} {
		if number, e := session.Check(good); number != 0 || e != api.OK {
			t.Errorf("Check(%q): %d, %d", good, number, e)
		}
	}
	number, e := session.Check("char A\nlet A [1]")
	same(t, "a name that is let below", fmt.Sprint(number, int(e)), "1 280")
}

func TestLimits(t *testing.T) { // P28.1: MaxText and MaxLines
	line := "# " + strings.Repeat("x", 62-3) + "\n" // nothing is said
	long := strings.Repeat(line, api.MaxText/len(line)+1)[:api.MaxText]
	if number, e := session.Check(long); number != 0 || e != api.OK {
		t.Errorf("Check of 2^20 bytes: %d, %d", number, e)
	}
	long += "x"
	number, e := session.Check(long)
	same(t, "Check of 2^20 + 1 bytes", fmt.Sprint(number, int(e)), "0 4")
	report, number, e := session.Play("x\n" + long)
	same(t, "Play of more bytes", fmt.Sprint(report, number, int(e)), fmt.Sprint("", 0, 4))
	many := "\n# x\n" + strings.Repeat("let A [1]\n", 999) + " \nrank A\n"
	same(t, "1000 lines", play(t, many+"# y\n\n"), "1003 rank 1\n")
	for _, last := range []string{"rank A", "let B [1]", "x"} {
		number, e := session.Check(many + "#\n" + last)
		same(t, "1001 lines", fmt.Sprint(number, int(e)), "1005 4")
	}
	number, e = session.Check("y\n" + many + "rank A\n")
	same(t, "a wrong line ahead", fmt.Sprint(number, int(e)), "1 280")
}

func TestRead(t *testing.T) { // P28.4
	long := strings.Repeat("7", 10001)
	bits := "1" + strings.Repeat("0", 1234)              // 4100 bits
	half := strings.Repeat("2", 1233)                    // 4096 bits and less
	wide := strings.Repeat("1 ", 25)                     // a row of 25
	square := strings.Repeat(wide+";", 24) + wide        // 25 rows
	fits := strings.Repeat(wide[:48]+";", 23) + wide[2:] // 24 rows
	for s, want := range map[string]api.Errno{
		"": api.ErrNotSquare, " ": api.ErrNotSquare, "1": api.OK, "1 2": api.ErrNotSquare, "1;2": api.ErrNotSquare, "1 2;3": api.ErrNotSquare, "1 2; 3 4": api.OK, "1 2\n3 4": api.OK, "1 2; 3 4;": api.ErrNotSquare, ";": api.ErrNotSquare,
		"x": api.ErrBadNumber, "1,": api.ErrBadNumber, "1,,2": api.ErrBadNumber, ",": api.ErrBadNumber, "1 2; 3 4 5 x": api.ErrBadNumber, "1/0": api.ErrBadNumber, "1 2 3;1,": api.ErrBadNumber, "1\xff": api.ErrBadNumber, "[1]": api.ErrBadNumber,
		long: api.ErrTooBig, long + " 1": api.ErrNotSquare, long + " x": api.ErrBadNumber, "1 2; " + long + " ,": api.ErrBadNumber, "x " + long: api.ErrBadNumber, long + " 1; 1 1": api.ErrTooBig, "1/" + long: api.ErrTooBig, long + "/0": api.ErrBadNumber, "1 " + long + "; 1 1": api.ErrTooBig, "-" + long: api.ErrTooBig,
		bits: api.ErrTooBig, "1/" + bits: api.ErrTooBig, bits + "/" + bits: api.ErrTooBig, half: api.OK, half + "/" + half: api.OK, bits + " 1": api.ErrNotSquare, bits + " x": api.ErrBadNumber, bits + " 1; 0 0": api.ErrTooBig, "0/" + bits: api.ErrTooBig,
		square: api.ErrTooBig, square + ";1": api.ErrNotSquare, square + "x": api.ErrBadNumber, fits: api.OK,
	} {
		m, e := session.Read(s)
		if e != want || e != api.OK && len(m.Num)+len(m.Den.Mag) > 0 {
			t.Errorf("Read(%.40q) of %d bytes: %d, want %d", s, len(s), e, want)
		}
		line := strings.ReplaceAll(s, "\n", ";")
		if strings.Contains(s, "]") {
			continue
		}
		if report := play(t, "rank ["+line+"]"); want != api.OK {
			same(t, "the report", report, "1 error "+strconv.Itoa(int(want))+"\n")
		} else if !strings.HasPrefix(report, "1 rank ") {
			t.Errorf("the report of %.40q: %.40q", s, report)
		}
	}
	m, e := session.Read("1/2, \u22121 ; 0\u00a06/4")
	same(t, "Read", fmt.Sprintf("%s, %d, %v", text(m), int(e), m.Den.Mag), "1/2 -1; 0 3/2, 0, [2]")
}

func TestErrorOrder(t *testing.T) { // the first M's error, then sizes, then what can't be
	for script, want := range map[string]int{
		"similar [1 2] [x]": 3, "similar [x] [1 2]": 20, "similar [1 0; 0 1] [1 2]": 3, "similar [1 0; 0 1] [1]": 2, "centraliser [1] [1] [x] [1 2]": 20, "inverse [1 2; 2 4]": 7, "inverse [1 2; 2 x]": 20, "route modular [1 2]": 3, "key []": 3,
	} {
		same(t, script, play(t, script), "1 error "+strconv.Itoa(want)+"\n")
	}
}

func TestNames(t *testing.T) { // a name's text is the last one ahead
	same(t, "let again", play(t, "let A [1]\nrank A\nlet A [0]\nrank A\nlet B [x]\nrank B\n"), "2 rank 1\n4 rank 0\n6 error 20\n")
}

func TestLines(t *testing.T) { // P28.3, R3
	script := "# x\nlet A [1 1; 0 1]\n\nrank A\nsimilar A [1 0; 0 1]\ndet [x]\n"
	var numbers []int
	got := ""
	for n, l := range session.Lines(script) {
		numbers = append(numbers, n)
		got += strconv.Itoa(n) + " " + l + "\n"
	}
	same(t, "Lines", got, play(t, script))
	if !slices.Equal(numbers, []int{4, 5, 5, 5, 6}) {
		t.Errorf("Lines: %v", numbers)
	}
	seq, pairs := session.Lines(script), 0
	for n := range seq {
		for k := range seq {
			if pairs++; k == n {
				break
			}
		}
	}
	same(t, "Lines nested", pairs, 1+2+2+2+5)
}

func TestJoined(t *testing.T) { // P28.7: of two scripts, one behind the other
	r := rand.New(rand.NewSource(2))
	words := []string{"rank", "det", "char", "key", "minpoly", "frobenius", "inverse", "centraliser"}
	scripts := func(name string) string {
		out := ""
		for range r.Intn(5) + 1 {
			switch r.Intn(4) {
			case 0:
				out += "# x\n\n"
			case 1:
				out += "let " + name + " [" + some(r, 2) + "]\n" + words[r.Intn(len(words))] + " " + name + "\n"
			default:
				out += words[r.Intn(len(words))] + " [" + some(r, r.Intn(2)+1) + "]\n"
			}
		}
		return out
	}
	for range 40 {
		a, b := scripts("A"), scripts("B")
		want := play(t, a)
		lines := strings.Count(a, "\n")
		for n, l := range session.Lines(b) {
			want += strconv.Itoa(n+lines) + " " + l + "\n"
		}
		same(t, "both", play(t, a+b), want)
	}
}

func TestLarge(t *testing.T) { // 24 rows
	r := rand.New(rand.NewSource(3))
	m := some(r, 24)
	script := "let M [" + m + "]\nfrobenius M\nsimilar M M\nroute modular M\nroute smith M\ncentraliser M M\n"
	if number, e := session.Check(script); number != 0 || e != api.OK {
		t.Fatalf("Check of 24 rows: %d, %d", number, e)
	}
	x := read(t, m)
	byLine := map[int][]string{}
	for n, l := range session.Lines(script) {
		byLine[n] = append(byLine[n], l)
	}
	checkFrobenius(t, x, byLine[2])
	checkSimilar(t, x, x, byLine[3])
	char, _ := charfree.Berkowitz(x)
	checkModular(t, x, char, byLine[4])
	same(t, "route smith", byLine[5], []string{"poly " + row(char)})
	checkCentraliser(t, x, []api.Mat{x}, byLine[6])
}
