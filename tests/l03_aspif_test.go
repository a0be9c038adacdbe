package tests

import (
	"fmt"
	"math/rand"
	"slices"
	"strings"
	"testing"

	"loop.example/g00554/impl"
)

func TestSourceLimits(t *testing.T) {
	got := []int{impl.MaxSource, impl.RdOK, impl.RdLong, impl.RdForm, impl.RdRange, impl.RdOther, impl.RdProg}
	if !slices.Equal(got, []int{6000, 0, 1, 2, 3, 4, 5}) {
		t.Fatal(got)
	}
}

// source is a text of these lines between the first one and the last one.
func source(lines ...string) string {
	all := append(append([]string{"asp 1 0 0"}, lines...), "0")
	return strings.Join(all, "\n") + "\n"
}

// wholeProg has some of all kinds, and mentions each of its atoms.
func wholeProg() impl.Prog {
	return impl.Prog{
		Atoms: 9,
		Rules: []impl.Rule{
			plain(2, 3, -4),
			{Choice: true, Heads: []int{2, 3}, Weight: true, Bound: 2, Body: []impl.WLit{{L: 1, W: 2}, {L: -4, W: 1}}},
			constraint(5),
		},
		Levels:  []impl.Level{{P: -1, Lits: []impl.WLit{{L: 2, W: -3}}}, {P: 4}},
		ProjOn:  true,
		Project: []int{1, 6},
		Shows:   []impl.Show{{Text: "ab", Cond: []int{2, -7}}, {Text: "12"}},
		Exts:    []impl.Ext{{Atom: 5, V: 1}, {Atom: 8}},
		Assume:  []int{-9, 1},
	}
}

// wholeLines are the lines of wholeProg, kind by kind.
func wholeLines() [][]string {
	return [][]string{
		{"1 0 1 2 0 2 3 -4", "1 1 2 2 3 1 2 2 1 2 -4 1", "1 0 0 0 1 5"},
		{"2 -1 1 2 -3", "2 4 0"},
		{"3 2 1 6"},
		{"4 2 ab 2 2 -7", "4 2 12 0"},
		{"5 5 1", "5 8 0"},
		{"6 2 -9 1"},
	}
}

type lineCase struct {
	name  string
	p     impl.Prog
	lines []string
}

// checkLines asks for the text of each program, and for the program of each text.
func checkLines(t *testing.T, cases []lineCase) {
	t.Helper()
	for _, c := range cases {
		want := source(c.lines...)
		if got := impl.AspifText(c.p); got != want {
			t.Errorf("%s: AspifText is %q, not %q", c.name, got, want)
		}
		checkRead(t, c.name, want, c.p)
	}
}

func checkRead(t *testing.T, name, s string, want impl.Prog) {
	t.Helper()
	p, line, code := impl.AspifRead(s)
	if code != impl.RdOK || line != 0 || !alike(p, want) {
		t.Errorf("%s: AspifRead(%.300q) = %.300s, %d, %d, not %.300s", name, s, fmt.Sprint(p), line, code, fmt.Sprint(want))
	}
}

func rulesOf(atoms int, rules ...impl.Rule) impl.Prog {
	return impl.Prog{Atoms: atoms, Rules: rules}
}

func TestSourceOfRules(t *testing.T) {
	row := []impl.WLit{{L: 1, W: 2}, {L: -4, W: 1000}, {L: 1, W: 2}}
	checkLines(t, []lineCase{
		{"a fact", rulesOf(12, plain(12)), []string{"1 0 1 12 0 0"}},
		{"no head and no body", rulesOf(0, impl.Rule{}), []string{"1 0 0 0 0"}},
		{"a constraint", rulesOf(4, constraint(2, -4)), []string{"1 0 0 0 2 2 -4"}},
		{"a body in its order", rulesOf(3, plain(1, 3, -2, 3, 2)), []string{"1 0 1 1 0 4 3 -2 3 2"}},
		{"a choice of one", rulesOf(2, choice([]int{2})), []string{"1 1 1 2 0 0"}},
		{"a choice of some", rulesOf(7, choice([]int{1, 5, 7}, -7)), []string{"1 1 3 1 5 7 0 1 -7"}},
		{"weights", rulesOf(4, weighed([]int{3}, 5, row...)), []string{"1 0 1 3 1 5 3 1 2 -4 1000 1 2"}},
		{"weights without a head", rulesOf(1, weighed(nil, 1, body(1)...)), []string{"1 0 0 1 1 1 1 1"}},
		{"weights of nothing", rulesOf(0, weighed(nil, 0)), []string{"1 0 0 1 0 0"}},
		{"the least Bound", rulesOf(2, weighed([]int{2}, -100000)), []string{"1 0 1 2 1 -100000 0"}},
		{"the greatest Bound", rulesOf(2, weighed([]int{2}, 100000)), []string{"1 0 1 2 1 100000 0"}},
		{"a choice with weights", rulesOf(2, impl.Rule{Choice: true, Heads: []int{1, 2}, Weight: true, Bound: 9}), []string{"1 1 2 1 2 1 9 0"}},
		{"rules in their order", rulesOf(3, plain(3), constraint(2), plain(3)), []string{"1 0 1 3 0 0", "1 0 0 0 1 2", "1 0 1 3 0 0"}},
	})
}

func TestSourceOfOtherKinds(t *testing.T) {
	checkLines(t, []lineCase{
		{"nothing", impl.Prog{}, nil},
		{"levels", impl.Prog{Atoms: 3, Levels: []impl.Level{
			{P: -100000, Lits: []impl.WLit{{L: -3, W: -1000}, {L: 2, W: 0}}}, {P: 0}, {P: 100000, Lits: body(1)},
		}}, []string{"2 -100000 2 -3 -1000 2 0", "2 0 0", "2 100000 1 1 1"}},
		{"Project of some", impl.Prog{Atoms: 12, ProjOn: true, Project: []int{1, 12}}, []string{"3 2 1 12"}},
		{"Project of none", impl.Prog{ProjOn: true}, []string{"3 0"}},
		{"shows", impl.Prog{Atoms: 4, Shows: []impl.Show{
			{Text: "p(a,b)", Cond: []int{4, -1, 4}}, {Text: "a"}, {Text: strings.Repeat("!~", 10), Cond: []int{-4}},
		}}, []string{"4 6 p(a,b) 3 4 -1 4", "4 1 a 0", "4 20 !~!~!~!~!~!~!~!~!~!~ 1 -4"}},
		{"texts that look like numbers", impl.Prog{Shows: []impl.Show{
			{Text: "0"}, {Text: "-0"}, {Text: "01"}, {Text: "99999999999999999999"},
		}}, []string{"4 1 0 0", "4 2 -0 0", "4 2 01 0", "4 20 99999999999999999999 0"}},
		{"external atoms", impl.Prog{Atoms: 9, Exts: []impl.Ext{
			{Atom: 1, V: 2}, {Atom: 4, V: 0}, {Atom: 9, V: 1},
		}}, []string{"5 1 2", "5 4 0", "5 9 1"}},
		{"what is assumed", impl.Prog{Atoms: 6, Assume: []int{-6, 2, 2, -2}}, []string{"6 4 -6 2 2 -2"}},
		{"all kinds", wholeProg(), slices.Concat(wholeLines()...)},
	})
}

func TestAspifTextLeavesOutAtoms(t *testing.T) {
	for _, p := range []impl.Prog{{Atoms: 12}, {Atoms: 1, Rules: []impl.Rule{}, Levels: []impl.Level{}, Project: []int{}, Assume: []int{}}} {
		if got := impl.AspifText(p); got != "asp 1 0 0\n0\n" {
			t.Errorf("the text of %+v is %q", p, got)
		}
	}
	p := wholeProg()
	p.Atoms = 12
	if impl.AspifText(p) != source(slices.Concat(wholeLines()...)...) {
		t.Error("more atoms than are mentioned change the text")
	}
}

func TestAspifTextOfNoProgram(t *testing.T) {
	for _, c := range []struct {
		name   string
		change func(p *impl.Prog)
	}{
		{"Atoms passed by one", func(p *impl.Prog) { p.Atoms = 13 }},
		{"Atoms below 0", func(p *impl.Prog) { *p = impl.Prog{Atoms: -1} }},
		{"Atoms below what is mentioned", func(p *impl.Prog) { p.Atoms = 8 }},
		{"a rule with two heads", func(p *impl.Prog) { p.Rules[0].Heads = []int{1, 2} }},
		{"W 2 without Weight", func(p *impl.Prog) { p.Rules[0].Body[0].W = 2 }},
		{"Bound without Weight", func(p *impl.Prog) { p.Rules[0].Bound = 1 }},
		{"one level twice", func(p *impl.Prog) { p.Levels[1].P = -1 }},
		{"Project without ProjOn", func(p *impl.Prog) { p.ProjOn = false }},
		{"an empty Text", func(p *impl.Prog) { p.Shows[0].Text = "" }},
		{"a Text with a blank", func(p *impl.Prog) { p.Shows[0].Text = "a b" }},
		{"a Text with a byte 10", func(p *impl.Prog) { p.Shows[0].Text = "a\nb" }},
		{"V 3", func(p *impl.Prog) { p.Exts[0].V = 3 }},
		{"literal 0", func(p *impl.Prog) { p.Assume[0] = 0 }},
		{"rules passed by one", func(p *impl.Prog) { p.Rules = times(61, impl.Rule{}) }},
	} {
		p := wholeProg()
		c.change(&p)
		if got := impl.AspifText(p); got != "" {
			t.Errorf("%s: AspifText is %q", c.name, got)
		}
	}
}

// TestAspifReadKindsInAnyOrder: each kind keeps its own order.
func TestAspifReadKindsInAnyOrder(t *testing.T) {
	kinds := wholeLines()
	slices.Reverse(kinds)
	checkRead(t, "kinds the other way round", source(slices.Concat(kinds...)...), wholeProg())
	from := rand.New(rand.NewSource(5))
	for range 100 {
		checkRead(t, "kinds mixed", source(mixed(from, wholeLines())...), wholeProg())
	}
}

// mixed takes the next line of some kind, again and again.
func mixed(from *rand.Rand, kinds [][]string) []string {
	var lines []string
	for len(kinds) > 0 {
		k := from.Intn(len(kinds))
		lines = append(lines, kinds[k][0])
		if kinds[k] = kinds[k][1:]; len(kinds[k]) == 0 {
			kinds = slices.Delete(kinds, k, k+1)
		}
	}
	return lines
}

// TestAspifReadNothingAssumed: a text is not written so, but no fault is named for it.
func TestAspifReadNothingAssumed(t *testing.T) {
	checkRead(t, "6 with none", source("6 0"), impl.Prog{})
	checkRead(t, "6 with none, and 3", source("6 0", "3 0"), impl.Prog{ProjOn: true})
}

func TestAspifReadAtoms(t *testing.T) {
	for _, c := range []struct {
		lines []string
		want  int
	}{
		{nil, 0},
		{[]string{"1 0 0 0 0", "2 9 0", "3 0", "4 2 12 0", "1 0 0 1 12 0"}, 0},
		{[]string{"1 0 1 7 0 0"}, 7},
		{[]string{"1 1 2 3 7 0 0"}, 7},
		{[]string{"1 0 0 0 2 7 6"}, 7},
		{[]string{"1 0 0 0 2 -7 6"}, 7},
		{[]string{"1 0 0 1 9 2 7 9 6 12"}, 7},
		{[]string{"1 0 0 1 9 1 -7 9"}, 7},
		{[]string{"2 12 1 7 12"}, 7},
		{[]string{"2 12 2 -7 12 6 12"}, 7},
		{[]string{"3 2 1 7"}, 7},
		{[]string{"4 1 9 2 1 7"}, 7},
		{[]string{"4 1 9 2 -7 1"}, 7},
		{[]string{"5 7 2"}, 7},
		{[]string{"6 2 7 1"}, 7},
		{[]string{"6 2 -7 1"}, 7},
		{[]string{"6 1 -12", "1 0 1 7 0 0"}, 12},
		{[]string{"5 3 0", "3 1 11", "2 4 1 -2 8", "1 0 1 7 0 1 -9"}, 11},
	} {
		p, line, code := impl.AspifRead(source(c.lines...))
		if p.Atoms != c.want || line != 0 || code != impl.RdOK {
			t.Errorf("%q: Atoms is %d, not %d (line %d, code %d)", c.lines, p.Atoms, c.want, line, code)
		}
	}
}

func checkFault(t *testing.T, name, s string, line, code int) {
	t.Helper()
	p, gotLine, gotCode := impl.AspifRead(s)
	if gotLine != line || gotCode != code {
		t.Errorf("%s: AspifRead(%.300q) tells line %d, code %d, not %d, %d", name, s, gotLine, gotCode, line, code)
	}
	if !alike(p, impl.Prog{}) {
		t.Errorf("%s: AspifRead(%.300q) tells a fault and %.300s", name, s, fmt.Sprint(p))
	}
}

func TestAspifReadFirstLine(t *testing.T) {
	for _, first := range []string{
		"", "asp", "asp 1 0", "asp 1 0 1", "asp 2 0 0", "asp 1 0 0 0", "asp 1 0 0 incremental", "ASP 1 0 0", "asp 1 0 00", "asp 1 0 -0",
		" asp 1 0 0", "asp 1 0 0 ", "asp  1 0 0", "asp 1 0 0\r", "asp\t1 0 0", "0", "7", "1000000001", "asp 1 0 1000000001", "1 0 0 0 0",
	} {
		checkFault(t, "first line", first+"\n0\n", 1, impl.RdForm)
		checkFault(t, "first line alone", first, 1, impl.RdForm)
		checkFault(t, "first line ahead of other faults", first+"\n7\n2 1000000001", 1, impl.RdForm)
	}
	checkFault(t, "a byte order mark", "\ufeff"+source(), 1, impl.RdForm)
	checkFault(t, "an empty line ahead", "\n"+source(), 1, impl.RdForm)
}

func TestAspifReadLines(t *testing.T) {
	for _, c := range []struct {
		name, s string
		line    int
	}{
		{"nothing", "", 1},
		{"a first line that is not ended", "asp 1 0 0", 1},
		{"a first line alone", "asp 1 0 0\n", 2},
		{"a last line that is not ended", "asp 1 0 0\n0", 2},
		{"no last line", "asp 1 0 0\n1 0 1 1 0 0\n3 0\n", 4},
		{"a line that is not ended", "asp 1 0 0\n1 0 1 1 0 0\n3 0", 3},
		{"one of no kind that is not ended", "asp 1 0 0\n7", 2},
		{"one with a number that is too great", "asp 1 0 0\n2 1000000001", 2},
		{"a second last line", source() + "0\n", 3},
		{"a second last line, not ended", source() + "0", 3},
		{"a rule behind the last line", source("3 0") + "1 0 0 0 0\n", 4},
		{"an empty line behind the last line", source() + "\n", 3},
		{"a blank behind the last line", source() + " ", 3},
		{"another text behind it", source() + source(), 3},
		{"what is of no kind behind it", source() + "7\n", 3},
		{"a number that is too great behind it", source() + "1000000001\n", 3},
		{"two lines behind it", source() + "3 0\n3 0\n", 3},
		{"an empty line", source("3 0", "", "7"), 3},
		{"a last line with more", source("0 0"), 2},
		{"a last line with a blank", source("0 "), 2},
		{"a last line with a blank ahead", source(" 0"), 2},
		{"a last line with more, and a line behind it", source("0 x"), 2},
		{"bytes 13", "asp 1 0 0\n0\r\n", 2},
		{"last line -0", source("-0"), 2},
		{"last line 00", source("00"), 2},
	} {
		checkFault(t, c.name, c.s, c.line, impl.RdForm)
	}
}

// sampleLines are lines of each kind that have words of each use.
var sampleLines = []string{
	"1 0 1 2 0 2 3 -4",
	"1 1 2 2 3 0 1 -1",
	"1 1 2 2 3 1 5 2 1 2 -4 1",
	"2 1 2 2 -3 4 5",
	"3 2 1 2",
	"4 2 ab 2 1 -2",
	"5 1 2",
	"6 2 1 -2",
	"0",
}

// isText tells whether a word of a sample is a Text.
func isText(w string) bool {
	return w == "ab"
}

// put is a line with another word at one place.
func put(line string, i int, w string) string {
	words := strings.Split(line, " ")
	words[i] = w
	return strings.Join(words, " ")
}

var noNumbers = []string{
	"", "-", "-0", "00", "01", "-01", "+1", "+0", "--1", "1-", "1.0", "1e3", "0x1", "1_0", "x", "1x", "x1", "1000000001x", "1000000001-",
	"01000000001", "-01000000001", "\t1", "1\r", "1\x00", "\xff", "٣", "１", "99999999999999999999x", "+99999999999999999999",
}

var tooGreat = []string{
	"1000000001", "-1000000001", "1000000010", "2147483648", "4294967296", "4294967297", "9223372036854775807", "-9223372036854775808",
	"9223372036854775808", "-9223372036854775809", "18446744073709551616", "18446744073709551617", "1" + strings.Repeat("0", 400), "-" + strings.Repeat("9", 400),
}

// TestAspifReadEachWord: a word that is no number, or too great a one, is a fault wherever a number must be.
func TestAspifReadEachWord(t *testing.T) {
	for _, line := range sampleLines {
		for i, word := range strings.Split(line, " ") {
			if isText(word) {
				continue
			}
			for _, w := range noNumbers {
				checkFault(t, "no number", source("3 0", put(line, i, w)), 3, impl.RdForm)
			}
			for _, w := range tooGreat {
				checkFault(t, "too great", source("2 1 0", put(line, i, w)), 3, impl.RdRange)
			}
		}
	}
}

// TestAspifReadFirstOfTwo: of two faults in a line the left one is told, whatever it is.
func TestAspifReadFirstOfTwo(t *testing.T) {
	faults := map[string]int{"x": impl.RdForm, "-0": impl.RdForm, "1000000001": impl.RdRange, "-99999999999999999999": impl.RdRange}
	for _, line := range sampleLines {
		words := strings.Split(line, " ")
		for i := range words {
			for w, code := range faults {
				if isText(words[i]) {
					continue
				}
				bad := put(line, i, w)
				for j := i + 1; j < len(words); j++ {
					for other := range faults {
						checkFault(t, "two faults", source(put(bad, j, other)), 2, code)
					}
				}
				checkFault(t, "a word too much behind", source(bad+" 1"), 2, code)
				checkFault(t, "nothing behind", source(strings.Join(strings.Split(bad, " ")[:i+1], " ")), 2, code)
			}
		}
	}
}

func TestAspifReadWordsLackOrAreTooMany(t *testing.T) {
	for _, line := range sampleLines {
		words := strings.Split(line, " ")
		for i := range words {
			checkFault(t, "words lacking", source(strings.Join(words[:i], " ")), 2, impl.RdForm)
			checkFault(t, "two blanks", source(put(line, i, " "+words[i])), 2, impl.RdForm)
			checkFault(t, "three blanks", source(put(line, i, "  "+words[i])), 2, impl.RdForm)
		}
		for _, more := range []string{"", "0", "1", "x", "7", "1000000001", "-1", " 1"} {
			checkFault(t, "a word too much", source(line+" "+more), 2, impl.RdForm)
		}
	}
}

func TestAspifReadSizes(t *testing.T) {
	for _, c := range []struct {
		line string
		code int
	}{
		{"2 1000000000 0", impl.RdProg},
		{"2 -1000000000 0", impl.RdProg},
		{"2 1000000001 0", impl.RdRange},
		{"2 -1000000001 0", impl.RdRange},
		{"1 0 1 1000000000 0 0", impl.RdProg},
		{"1 0 1 1000000001 0 0", impl.RdRange},
		{"1 0 0 0 1 -1000000000", impl.RdProg},
		{"1 0 0 0 1 -1000000001", impl.RdRange},
		{"1 0 0 1 1000000000 1 1 1000000000", impl.RdProg},
		{"1 0 0 1 1000000000 1 1 1000000001", impl.RdRange},
		{"5 1000000000 1000000000", impl.RdProg},
		{"1000000000", impl.RdOther},
		{"-1000000000", impl.RdOther},
		{"1 1000000000 0 0 0", impl.RdOther},
		{"1 0 0 -1000000000 0", impl.RdOther},
		{"1 0 1000000000 1", impl.RdForm},
		{"1 0 -1000000000 1", impl.RdForm},
		{"4 1000000000 a 0", impl.RdForm},
		{"4 1000000001 a 0", impl.RdRange},
	} {
		line := 2
		if c.code == impl.RdProg {
			line = 0
		}
		checkFault(t, "sizes", source(c.line), line, c.code)
	}
}

func TestAspifReadOther(t *testing.T) {
	for _, line := range []string{
		"7", "8", "10", "-1", "-2", "999", "7 x", "7 1000000001", "7 ", "7  1", "-1 -0", "9 0 0", "7 01", "8 ab",
		"1 2 1 1 0 0", "1 -1 1 1 0 0", "1 2", "1 7 x", "1 2 1000000001", "1 3 -1", "1 2  0", "1 10 0 0 0",
		"1 0 0 2 0", "1 0 0 -1 0", "1 1 1 1 2 0", "1 0 1 13 3 0", "1 0 0 2", "1 0 0 2 x", "1 0 0 2 1000000001", "1 0 0 7 -1", "1 1 0 5 0",
	} {
		checkFault(t, "neither of these", source("1 0 0 0 0", line, "x", "3"), 3, impl.RdOther)
	}
	for _, line := range []string{"x 2", "1 x 2", "1 -0 0", "1  2", " 7", "1 0 -1 2", "1 0 x 2", "1 0 2 1 x 7", "1 01 0 2 0", "1 0 1 2", "1", "1 0", "1 0 0"} {
		checkFault(t, "another fault ahead", source("1 0 0 0 0", line, "7"), 3, impl.RdForm)
	}
}

func TestAspifReadSecondOfOne(t *testing.T) {
	for _, c := range []struct {
		name  string
		lines []string
		line  int
	}{
		{"3 twice", []string{"3 0", "3 0"}, 3},
		{"3 twice, with atoms", []string{"3 1 2", "3 1 3"}, 3},
		{"6 twice", []string{"6 1 2", "6 1 3"}, 3},
		{"6 twice, the first with none", []string{"6 0", "6 1 1"}, 3},
		{"6 twice, both with none", []string{"6 0", "6 0"}, 3},
		{"lines between", []string{"6 1 2", "1 0 0 0 0", "3 1 1", "5 1 0", "6 1 2"}, 6},
		{"a number too great in the second 3", []string{"3 0", "3 1000000001"}, 3},
		{"a number too great in the second 6", []string{"6 0", "6 1 1000000001"}, 3},
		{"the second one without a count", []string{"3 0", "3"}, 3},
		{"a third one", []string{"3 0", "3 0", "3 0"}, 3},
	} {
		checkFault(t, c.name, source(c.lines...), c.line, impl.RdForm)
	}
	checkRead(t, "each once", source("6 1 -2", "3 1 1"), impl.Prog{Atoms: 2, ProjOn: true, Project: []int{1}, Assume: []int{-2}})
}

func TestAspifReadCounts(t *testing.T) {
	for _, c := range []struct {
		line string
		code int
	}{
		{"1 0 -1 0 0", impl.RdForm},
		{"1 0 -1 7", impl.RdForm},
		{"1 0 -1 1000000001", impl.RdForm},
		{"1 0 0 0 -1", impl.RdForm},
		{"1 0 0 0 -1 1000000001", impl.RdForm},
		{"1 0 0 1 3 -1", impl.RdForm},
		{"2 1 -1", impl.RdForm},
		{"2 1 -1 1000000001", impl.RdForm},
		{"3 -1", impl.RdForm},
		{"4 1 a -1", impl.RdForm},
		{"6 -1", impl.RdForm},
		{"6 -1 1000000001", impl.RdForm},
		{"1 0 5 1 2 0 0", impl.RdForm},
		{"1 0 9 1 2 1000000001", impl.RdRange},
		{"1 0 9 1 2 x 1000000001", impl.RdForm},
		{"1 0 1 1 0 3 1 2", impl.RdForm},
		{"1 0 1 1 1 3 2 1 2 2", impl.RdForm},
		{"1 0 1 1 1 3 2 1 2 2 1000000001", impl.RdRange},
		{"2 1 2 1 1 2", impl.RdForm},
		{"2 1 3 1 1 -1000000001 2", impl.RdRange},
		{"3 2 1", impl.RdForm},
		{"4 1 a 2 1", impl.RdForm},
		{"6 2 1", impl.RdForm},
		{"6 1000000000 1", impl.RdForm},
		{"6 1000000001 1", impl.RdRange},
		{"6 0 1", impl.RdForm},
		{"6 1 1 2", impl.RdForm},
		{"3 1 1 1000000001", impl.RdForm},
		{"1 0 0 0 1 2 3", impl.RdForm},
		{"2 1 1 2 3 4", impl.RdForm},
	} {
		checkFault(t, "counts", source(c.line, "7"), 2, c.code)
	}
}

func TestAspifReadTexts(t *testing.T) {
	for _, c := range []struct {
		name, line string
		code       int
	}{
		{"a longer Text", "4 2 abc 0", impl.RdForm},
		{"a shorter Text", "4 3 ab 0", impl.RdForm},
		{"a Text with a blank", "4 3 a b 0", impl.RdForm},
		{"a Text with a blank, ahead of what would fit", "4 1 a b 0", impl.RdForm},
		{"a Text with a blank at its end", "4 2 a  0", impl.RdForm},
		{"a Text with a blank ahead", "4 2  a 0", impl.RdForm},
		{"no bytes and a Text", "4 0 a 0", impl.RdForm},
		{"no bytes and the next count as Text", "4 0 0", impl.RdForm},
		{"bytes below 0", "4 -1 a 0", impl.RdForm},
		{"bytes below 0, an empty Text", "4 -1  0", impl.RdForm},
		{"no Text", "4 2", impl.RdForm},
		{"no Text behind a number too great", "4 1000000001", impl.RdRange},
		{"no Cond", "4 2 ab", impl.RdForm},
		{"a longer Text, and a number too great", "4 2 abc 1000000001", impl.RdForm},
		{"a Text, and a number too great", "4 2 ab 1000000001", impl.RdRange},
		{"a sign of two bytes as one", "4 1 é 0", impl.RdForm},
		{"a Text with a line's end in it", "4 3 a\nb 0", impl.RdForm},
	} {
		checkFault(t, c.name, source(c.line), 2, c.code)
	}
	for _, line := range []string{"4 2 é 0", "4 1 \t 0", "4 1 \x7f 0", "4 2 a\r 0", "4 21 aaaaaaaaaaaaaaaaaaaaa 0", "4 1 \xff 0"} {
		checkFault(t, "a Text that no program has", source(line), 0, impl.RdProg)
	}
}

// TestAspifReadBlanks: where two blanks stand in a row a word is lacking, also where it should be a Text of no bytes; that is met ahead of all that is behind it.
func TestAspifReadBlanks(t *testing.T) {
	for _, line := range []string{
		"4 0  0", "4 0  1 1", "4 0 ", "4 0  ", "4 0   0", "4 0  1000000001", "4 0  x", "4 0  0 0", "4 0  1 13",
		"4 1  0", "4 1  1 1", "4 1   0", "4 2  ab 0", "4  1 a 0", "4 1 a  0", "4 1 a 0 ", "4 1 a 1  1", " 4 1 a 0", "4 -1  7",
	} {
		checkFault(t, "a blank too many", source(line), 2, impl.RdForm)
		checkFault(t, "a blank too many behind other lines", source("1 0 0 0 0", "4 1 a 0", line), 4, impl.RdForm)
		checkFault(t, "a blank too many ahead of another fault", source(line, "7", "2 1000000001 0"), 2, impl.RdForm)
		checkFault(t, "a blank too many and no program", source("1 0 1 13 0 0", line, "5 1 3"), 3, impl.RdForm)
	}
	checkFault(t, "a blank too many behind another fault", source("7", "4 0  0"), 2, impl.RdOther)
	checkFault(t, "a number too great ahead of it in the line", source("4 1000000001  0"), 2, impl.RdRange)
	for _, line := range slices.Concat(wholeLines()...) {
		for i := range strings.Split(line, " ") {
			checkFault(t, "a word left out between its blanks", source(put(line, i, "")), 2, impl.RdForm)
		}
	}
}

func TestAspifReadNoProgram(t *testing.T) {
	for _, lines := range [][]string{
		{"1 0 1 13 0 0"},
		{"1 0 1 0 0 0"},
		{"1 0 1 -1 0 0"},
		{"1 0 2 1 2 0 0"},
		{"1 1 0 0 0"},
		{"1 1 2 2 1 0 0"},
		{"1 1 2 2 2 0 0"},
		{"1 0 0 0 1 0"},
		{"1 0 0 0 1 -13"},
		{"1 0 0 0 21" + strings.Repeat(" 1", 21)},
		{"1 0 0 1 1 1 1 0"},
		{"1 0 0 1 1 1 1 -1"},
		{"1 0 0 1 1 1 1 1001"},
		{"1 0 0 1 100001 0"},
		{"1 0 0 1 -100001 0"},
		times(61, "1 0 0 0 0"),
		{"2 1 0", "2 1 0"},
		{"2 2 0", "2 1 0"},
		{"2 100001 0"},
		{"2 1 1 1 1001"},
		{"2 1 1 13 1"},
		{"2 1 0", "2 2 0", "2 3 0", "2 4 0", "2 5 0", "2 6 0", "2 7 0"},
		{"3 2 2 1"},
		{"3 1 13"},
		{"3 1 -1"},
		{"4 1 a 1 0"},
		{"4 1 a 1 -13"},
		times(21, "4 1 a 0"),
		{"5 1 3"},
		{"5 1 -1"},
		{"5 0 0"},
		{"5 13 0"},
		{"5 -1 0"},
		{"5 1 0", "5 1 0"},
		{"5 2 0", "5 1 0"},
		{"6 1 0"},
		{"6 1 13"},
		{"6 21" + strings.Repeat(" -1", 21)},
	} {
		checkFault(t, "no program", source(lines...), 0, impl.RdProg)
		checkFault(t, "no program, and a fault of a line", source(append(slices.Clone(lines), "0 0")...), 2+len(lines), impl.RdForm)
	}
	if p, line, code := impl.AspifRead(source(times(60, "1 0 0 0 0")...)); code != impl.RdOK || line != 0 || len(p.Rules) != 60 {
		t.Error("MaxRules rules are refused")
	}
}

func TestAspifReadFirstLineWithAFault(t *testing.T) {
	for _, c := range []struct {
		lines []string
		line  int
		code  int
	}{
		{[]string{"1 0 0 0 0", "7", "x"}, 3, impl.RdOther},
		{[]string{"1 0 0 0 0", "x", "7"}, 3, impl.RdForm},
		{[]string{"2 1000000001 0", "x"}, 2, impl.RdRange},
		{[]string{"5 13 0", "3 0", "2 1000000001 0", "3 0"}, 4, impl.RdRange},
		{[]string{"5 13 0", "3 0", "3 0", "2 1000000001 0"}, 4, impl.RdForm},
		{[]string{"1 0 1 13 0 0", "1 2 0 0 0"}, 3, impl.RdOther},
		{[]string{"7", "0", "0"}, 2, impl.RdOther},
		{[]string{"0", "7", "0"}, 3, impl.RdForm},
		{[]string{"1 0 1 13 0 0", "0"}, 4, impl.RdForm},
	} {
		checkFault(t, "lines with faults", source(c.lines...), c.line, c.code)
	}
}

// sizedProg is a program whose text has n bytes, of some from about 4300 to 6100.
func sizedProg(n int) impl.Prog {
	p := impl.Prog{Atoms: 12}
	for range 31 {
		p.Rules = append(p.Rules, weighed([]int{12}, 100, times(20, impl.WLit{L: -12, W: 1})...))
	}
	left := n - len(impl.AspifText(p))
	for i := range 31 * 20 * 3 {
		if left > 0 {
			p.Rules[i%31].Body[i/31%20].W *= 10
			left--
		}
	}
	return p
}

func TestAspifReadLength(t *testing.T) {
	for _, n := range []int{4500, 5999, 6000, 6001, 6050} {
		p := sizedProg(n)
		s := impl.AspifText(p)
		if len(s) != n {
			t.Fatalf("the text has %d bytes, not %d", len(s), n)
		}
		if n <= 6000 {
			checkRead(t, "a long text", s, p)
		} else {
			checkFault(t, "a text that is too long", s, 0, impl.RdLong)
		}
	}
	for _, w := range []string{"x", "\n", "0", " ", "\x00"} {
		checkFault(t, "6000 bytes of nothing", strings.Repeat(w, 6000), 1, impl.RdForm)
		checkFault(t, "6001 bytes of nothing", strings.Repeat(w, 6001), 0, impl.RdLong)
	}
	start := source("7")
	checkFault(t, "6000 bytes with a fault", start+strings.Repeat("0", 6000-len(start)), 2, impl.RdOther)
	checkFault(t, "6001 bytes with a fault", start+strings.Repeat("0", 6001-len(start)), 0, impl.RdLong)
	checkFault(t, "signs of two bytes", strings.Repeat("é", 3001), 0, impl.RdLong)
	checkRead(t, "a program at its limits", impl.AspifText(atLimits()), atLimits())
}

func someLiterals(from *rand.Rand, n int) []int {
	var row []int
	for range from.Intn(4) {
		row = append(row, (1+from.Intn(n))*(1-2*from.Intn(2)))
	}
	return row
}

// someWhole is a program of n atoms, with some of each kind.
func someWhole(from *rand.Rand, n int) impl.Prog {
	p := someProg(from, n, 6)
	for i := range from.Intn(4) {
		level := impl.Level{P: 10*i + from.Intn(10) - 15}
		for _, l := range someLiterals(from, n) {
			level.Lits = append(level.Lits, impl.WLit{L: l, W: from.Intn(2001) - 1000})
		}
		p.Levels = append(p.Levels, level)
	}
	if p.ProjOn = from.Intn(2) == 0; p.ProjOn {
		p.Project = impl.SetOf(from.Intn(1 << n))
	}
	for range from.Intn(4) {
		text := make([]byte, 1+from.Intn(20))
		for i := range text {
			text[i] = byte(33 + from.Intn(94))
		}
		p.Shows = append(p.Shows, impl.Show{Text: string(text), Cond: someLiterals(from, n)})
	}
	for _, a := range impl.SetOf(from.Intn(1 << n)) {
		p.Exts = append(p.Exts, impl.Ext{Atom: a, V: from.Intn(3)})
	}
	p.Assume = someLiterals(from, n)
	return p
}

// mentioned is the greatest atom that is mentioned.
func mentioned(p impl.Prog) int {
	all := slices.Concat(p.Project, p.Assume)
	for _, r := range p.Rules {
		all = append(all, impl.AtomsOf(r)...)
	}
	for _, l := range p.Levels {
		all = append(all, impl.AtomsOf(impl.Rule{Body: l.Lits})...)
	}
	for _, s := range p.Shows {
		all = append(all, s.Cond...)
	}
	for _, e := range p.Exts {
		all = append(all, e.Atom)
	}
	most := 0
	for _, l := range all {
		most = max(most, sized(l))
	}
	return most
}

// TestProgramsAreReadFromTheirTexts: a program that is ProgOk, of a text within MaxSource bytes, is read from its text, with as many atoms as it mentions.
func TestProgramsAreReadFromTheirTexts(t *testing.T) {
	from := rand.New(rand.NewSource(6))
	fewer := 0
	for range 2000 {
		p := someWhole(from, 1+from.Intn(12))
		s := impl.AspifText(p)
		if !impl.ProgOk(p) || s == "" || len(s) > 6000 {
			t.Fatalf("%+v is not ProgOk, or its text is none or too long", p)
		}
		want := p
		want.Atoms = mentioned(p)
		if want.Atoms < p.Atoms {
			fewer++
		}
		checkRead(t, "some program", s, want)
		if impl.AspifText(want) != s {
			t.Errorf("with as many atoms as it mentions %+v has another text", p)
		}
	}
	if fewer < 50 {
		t.Errorf("only %d programs have atoms that they do not mention", fewer)
	}
}

// TestTextsCutShort: of a text that is cut short a line is not there, or not ended.
func TestTextsCutShort(t *testing.T) {
	s := impl.AspifText(wholeProg())
	for n := range len(s) {
		checkFault(t, "cut short", s[:n], 1+strings.Count(s[:n], "\n"), impl.RdForm)
	}
}

// TestTextsWithOtherBytes: whatever stands in a text, there is a program, read from its own text too, or nothing and a fault's place.
func TestTextsWithOtherBytes(t *testing.T) {
	from := rand.New(rand.NewSource(7))
	read := 0
	for range 20000 {
		text := []byte(impl.AspifText(wholeProg()))
		for range 1 + from.Intn(2) {
			text[from.Intn(len(text))] = "0123456789- \nx"[from.Intn(14)]
		}
		s := string(text)
		p, line, code := impl.AspifRead(s)
		switch {
		case code == impl.RdOK:
			read++
			if !impl.ProgOk(p) || p.Atoms != mentioned(p) {
				t.Fatalf("AspifRead(%q) = %+v", s, p)
			}
			checkRead(t, "another text", impl.AspifText(p), p)
		case code == impl.RdProg:
			checkFault(t, "no program", s, 0, code)
		case code < impl.RdForm || code > impl.RdOther || line < 1 || line > 1+strings.Count(s, "\n"):
			t.Fatalf("AspifRead(%q) tells line %d, code %d", s, line, code)
		default:
			checkFault(t, "a fault", s, line, code)
		}
	}
	if read < 500 || read > 15000 {
		t.Errorf("the texts are too much alike: %d of them are read", read)
	}
}

func TestSourceArgumentsAreKept(t *testing.T) {
	for _, made := range append(odd(), atLimits(), wholeProg()) {
		keeping(t, "AspifText", withSpare(made), func(p impl.Prog) {
			first := impl.AspifText(p)
			if impl.AspifText(made) != first {
				t.Errorf("AspifText reads the room behind the lists of %+v", made)
			}
		})
	}
}

func TestSourceAnswersAreNew(t *testing.T) {
	for _, made := range []impl.Prog{wholeProg(), sizedProg(6000), {}} {
		s := impl.AspifText(made)
		one, _, code := impl.AspifRead(s)
		two, _, again := impl.AspifRead(s)
		if code != impl.RdOK || again != impl.RdOK || !alike(one, two) {
			t.Fatalf("%.300q is not read twice alike", s)
		}
		checkApart(t, "AspifRead", one, two)
	}
}
