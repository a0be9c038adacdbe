package tests

import (
	"math"
	"math/rand"
	"slices"
	"strings"
	"testing"

	"loop.example/g00554/impl"
)

func TestProgramLimits(t *testing.T) {
	got := []int{impl.MaxRules, impl.MaxBody, impl.MaxW, impl.MaxBound, impl.MaxLevels, impl.MaxShows, impl.MaxLabel}
	if !slices.Equal(got, []int{60, 20, 1000, 100000, 6, 20, 20}) {
		t.Fatal(got)
	}
}

// sized is how far a number is from 0; of the least int, which is no atom's literal, it is below 0.
func sized(l int) int {
	if l < 0 {
		return -l
	}
	return l
}

// body is a row of literals as a rule without Weight has it.
func body(lits ...int) []impl.WLit {
	var row []impl.WLit
	for _, l := range lits {
		row = append(row, impl.WLit{L: l, W: 1})
	}
	return row
}

// times is a list of n alike.
func times[T any](n int, v T) []T {
	return slices.Repeat([]T{v}, n)
}

func plain(head int, lits ...int) impl.Rule {
	return impl.Rule{Heads: []int{head}, Body: body(lits...)}
}

func constraint(lits ...int) impl.Rule {
	return impl.Rule{Body: body(lits...)}
}

func choice(heads []int, lits ...int) impl.Rule {
	return impl.Rule{Choice: true, Heads: heads, Body: body(lits...)}
}

func weighed(heads []int, bound int, row ...impl.WLit) impl.Rule {
	return impl.Rule{Heads: heads, Weight: true, Bound: bound, Body: row}
}

type ruleCase struct {
	name string
	r    impl.Rule
	n    int
	want bool
}

func checkRules(t *testing.T, cases []ruleCase) {
	t.Helper()
	for _, c := range cases {
		if impl.RuleOk(c.r, c.n) != c.want {
			t.Errorf("%s: RuleOk(%+v, %d) is not %v", c.name, c.r, c.n, c.want)
		}
	}
}

func TestRuleOkHeads(t *testing.T) {
	all := impl.SetOf(4095)
	checkRules(t, []ruleCase{
		{"the zero rule", impl.Rule{}, 0, true},
		{"an n at the limit", impl.Rule{}, 12, true},
		{"an n passed by one", impl.Rule{}, 13, false},
		{"an n below 0", impl.Rule{}, -1, false},
		{"the greatest n", impl.Rule{}, math.MaxInt, false},
		{"the least n", impl.Rule{}, math.MinInt, false},
		{"one head", impl.Rule{Heads: []int{3}}, 3, true},
		{"a head above n", impl.Rule{Heads: []int{4}}, 3, false},
		{"the greatest head", impl.Rule{Heads: []int{12}}, 12, true},
		{"a head that is no atom", impl.Rule{Heads: []int{13}}, 12, false},
		{"head 0", impl.Rule{Heads: []int{0}}, 12, false},
		{"a head below 0", impl.Rule{Heads: []int{-1}}, 12, false},
		{"two heads without Choice", impl.Rule{Heads: []int{1, 2}}, 12, false},
		{"Choice without a head", impl.Rule{Choice: true}, 12, false},
		{"Choice with an empty list", impl.Rule{Choice: true, Heads: []int{}}, 12, false},
		{"Choice with one", choice([]int{1}), 1, true},
		{"Choice with all", choice(all), 12, true},
		{"Choice with one above n", choice(all), 11, false},
		{"Choice with one twice", choice([]int{2, 2}), 12, false},
		{"Choice with falling ones", choice([]int{2, 1}), 12, false},
		{"Choice with 0", choice([]int{0, 1}), 12, false},
		{"Choice with 13", choice([]int{1, 13}), 12, false},
		{"Choice with more than MaxBody", choice(times(21, 1)), 12, false},
		{"a head, and no atoms at all", impl.Rule{Heads: []int{1}}, 0, false},
	})
}

func TestRuleOkBody(t *testing.T) {
	checkRules(t, []ruleCase{
		{"literals of both kinds", plain(1, 2, -3), 3, true},
		{"a literal above n", plain(1, 3), 2, false},
		{"one with a - above n", plain(1, -3), 2, false},
		{"an atom's two literals", constraint(1, -1), 1, true},
		{"a literal twice", constraint(2, 2), 2, true},
		{"the greatest literals", constraint(12, -12), 12, true},
		{"literal 0", constraint(0), 12, false},
		{"literal 0 behind another one", constraint(1, 0), 12, false},
		{"literal 13", constraint(13), 12, false},
		{"literal -13", constraint(-13), 12, false},
		{"the greatest number", constraint(math.MaxInt), 12, false},
		{"the least number", constraint(math.MinInt), 12, false},
		{"just above the least number", constraint(math.MinInt + 1), 12, false},
		{"a literal, and no atoms at all", constraint(1), 0, false},
		{"MaxBody literals", constraint(times(20, -1)...), 1, true},
		{"one more", constraint(times(21, -1)...), 1, false},
		{"W 2 without Weight", impl.Rule{Body: []impl.WLit{{L: 1, W: 2}}}, 12, false},
		{"W 0 without Weight", impl.Rule{Body: []impl.WLit{{L: 1}}}, 12, false},
		{"W -1 without Weight", impl.Rule{Body: []impl.WLit{{L: 1, W: -1}}}, 12, false},
		{"Bound 1 without Weight", impl.Rule{Bound: 1, Body: body(1)}, 12, false},
		{"Bound -1 without Weight", impl.Rule{Bound: -1}, 12, false},
		{"Choice with W 2", impl.Rule{Choice: true, Heads: []int{1}, Body: []impl.WLit{{L: 1, W: 2}}}, 12, false},
		{"Choice with Bound 1", impl.Rule{Choice: true, Heads: []int{1}, Bound: 1}, 12, false},
	})
}

func TestRuleOkWeight(t *testing.T) {
	checkRules(t, []ruleCase{
		{"nothing in it", weighed(nil, 0), 0, true},
		{"the least W", weighed(nil, 1, impl.WLit{L: 1, W: 1}), 1, true},
		{"the greatest W", weighed(nil, 1, impl.WLit{L: 1, W: 1000}), 1, true},
		{"W passed by one", weighed(nil, 1, impl.WLit{L: 1, W: 1001}), 1, false},
		{"W 0", weighed(nil, 1, impl.WLit{L: 1}), 1, false},
		{"W below 0", weighed(nil, 1, impl.WLit{L: 1, W: -1}), 1, false},
		{"a second W of 0", weighed(nil, 1, impl.WLit{L: 1, W: 1}, impl.WLit{L: 1}), 1, false},
		{"the greatest number as W", weighed(nil, 1, impl.WLit{L: 1, W: math.MaxInt}), 1, false},
		{"the greatest Bound", weighed(nil, 100000), 1, true},
		{"Bound passed by one", weighed(nil, 100001), 1, false},
		{"the least Bound", weighed(nil, -100000), 1, true},
		{"Bound passed below", weighed(nil, -100001), 1, false},
		{"the least number as Bound", weighed(nil, math.MinInt), 1, false},
		{"literal 0", weighed(nil, 1, impl.WLit{L: 0, W: 1}), 12, false},
		{"literal -13", weighed(nil, 1, impl.WLit{L: -13, W: 1}), 12, false},
		{"a literal above n", weighed(nil, 1, impl.WLit{L: -3, W: 1}), 2, false},
		{"MaxBody literals", weighed(nil, 1, times(20, impl.WLit{L: 1, W: 7})...), 1, true},
		{"one more", weighed(nil, 1, times(21, impl.WLit{L: 1, W: 7})...), 1, false},
		{"two heads", weighed([]int{1, 2}, 1), 2, false},
		{"two heads with Choice", impl.Rule{Choice: true, Heads: []int{1, 2}, Weight: true, Bound: 9}, 2, true},
		{"no head with Choice", impl.Rule{Choice: true, Weight: true, Bound: 9}, 2, false},
	})
}

// atLimits is a program in which each limit is met exactly.
func atLimits() impl.Prog {
	all := impl.SetOf(4095)
	label := strings.Repeat("!~", 10)
	p := impl.Prog{Atoms: 12, ProjOn: true, Project: all, Assume: times(20, -12)}
	p.Rules = append(p.Rules, choice(all, times(20, 12)...), weighed(nil, -100000, times(20, impl.WLit{L: -12, W: 1000})...))
	for len(p.Rules) < 60 {
		p.Rules = append(p.Rules, weighed([]int{12}, 100000, impl.WLit{L: 1, W: 1}))
	}
	for _, level := range []int{-100000, -1, 0, 1, 99999, 100000} {
		p.Levels = append(p.Levels, impl.Level{P: level, Lits: times(20, impl.WLit{L: 12, W: 1000})})
	}
	p.Levels[0].Lits = times(20, impl.WLit{L: -12, W: -1000})
	p.Levels[1].Lits = []impl.WLit{{L: 1, W: 0}}
	for range 20 {
		p.Shows = append(p.Shows, impl.Show{Text: label, Cond: times(20, 12)})
	}
	p.Shows[0] = impl.Show{Text: "a"}
	for a := 1; a <= 12; a++ {
		p.Exts = append(p.Exts, impl.Ext{Atom: a, V: a % 3})
	}
	return p
}

type progCase struct {
	name   string
	change func(p *impl.Prog)
	want   bool
}

// checkChanges asks for a program at its limits, each time with one change.
func checkChanges(t *testing.T, cases []progCase) {
	t.Helper()
	for _, c := range cases {
		p := atLimits()
		c.change(&p)
		if impl.ProgOk(p) != c.want {
			t.Errorf("%s: ProgOk is not %v", c.name, c.want)
		}
	}
}

func TestProgOkRules(t *testing.T) {
	checkChanges(t, []progCase{
		{"no change", func(p *impl.Prog) {}, true},
		{"the zero program", func(p *impl.Prog) { *p = impl.Prog{} }, true},
		{"empty lists", func(p *impl.Prog) {
			*p = impl.Prog{Rules: []impl.Rule{}, Levels: []impl.Level{}, Project: []int{}, Shows: []impl.Show{}, Exts: []impl.Ext{}, Assume: []int{}}
		}, true},
		{"Atoms passed by one", func(p *impl.Prog) { p.Atoms = 13 }, false},
		{"13 atoms and nothing else", func(p *impl.Prog) { *p = impl.Prog{Atoms: 13} }, false},
		{"-1 atoms and nothing else", func(p *impl.Prog) { *p = impl.Prog{Atoms: -1} }, false},
		{"12 atoms and nothing else", func(p *impl.Prog) { *p = impl.Prog{Atoms: 12} }, true},
		{"the greatest number of atoms", func(p *impl.Prog) { *p = impl.Prog{Atoms: math.MaxInt} }, false},
		{"the least number of atoms", func(p *impl.Prog) { *p = impl.Prog{Atoms: math.MinInt} }, false},
		{"rules passed by one", func(p *impl.Prog) { p.Rules = append(p.Rules, impl.Rule{}) }, false},
		{"the last rule's head above Atoms", func(p *impl.Prog) { *p = impl.Prog{Atoms: 2, Rules: []impl.Rule{plain(1), plain(3)}} }, false},
		{"a rule's literal above Atoms", func(p *impl.Prog) { *p = impl.Prog{Atoms: 2, Rules: []impl.Rule{constraint(-3)}} }, false},
		{"the same with more atoms", func(p *impl.Prog) { *p = impl.Prog{Atoms: 3, Rules: []impl.Rule{constraint(-3)}} }, true},
		{"the last rule without a head", func(p *impl.Prog) { p.Rules[59] = impl.Rule{Choice: true} }, false},
		{"the first rule with two", func(p *impl.Prog) { p.Rules[0].Choice = false }, false},
	})
}

func TestProgOkLevels(t *testing.T) {
	checkChanges(t, []progCase{
		{"levels passed by one", func(p *impl.Prog) {
			p.Levels = nil
			for i := range 7 {
				p.Levels = append(p.Levels, impl.Level{P: i})
			}
		}, false},
		{"P passed by one", func(p *impl.Prog) { p.Levels[5].P = 100001 }, false},
		{"P passed below", func(p *impl.Prog) { p.Levels[0].P = -100001 }, false},
		{"the least number as P", func(p *impl.Prog) { p.Levels[0].P = math.MinInt }, false},
		{"one P twice", func(p *impl.Prog) { p.Levels[1].P = 0 }, false},
		{"one P twice at the end", func(p *impl.Prog) { p.Levels[4].P = 100000 }, false},
		{"P falling", func(p *impl.Prog) { p.Levels[2].P, p.Levels[3].P = 1, 0 }, false},
		{"only the first P greater", func(p *impl.Prog) { p.Levels[0].P = 5 }, false},
		{"a level with nothing", func(p *impl.Prog) { p.Levels[3].Lits = nil }, true},
		{"Lits passed by one", func(p *impl.Prog) { p.Levels[5].Lits = times(21, impl.WLit{L: 1, W: 1}) }, false},
		{"W passed by one", func(p *impl.Prog) { p.Levels[5].Lits[19].W = 1001 }, false},
		{"W passed below", func(p *impl.Prog) { p.Levels[5].Lits[19].W = -1001 }, false},
		{"the least number as W", func(p *impl.Prog) { p.Levels[5].Lits[19].W = math.MinInt }, false},
		{"literal 0", func(p *impl.Prog) { p.Levels[5].Lits[19].L = 0 }, false},
		{"literal 13", func(p *impl.Prog) { p.Levels[0].Lits[0].L = 13 }, false},
		{"literal -13", func(p *impl.Prog) { p.Levels[0].Lits[0].L = -13 }, false},
		{"the least number as literal", func(p *impl.Prog) { p.Levels[0].Lits[0].L = math.MinInt }, false},
		{"a literal above Atoms", func(p *impl.Prog) {
			*p = impl.Prog{Atoms: 2, Levels: []impl.Level{{Lits: []impl.WLit{{L: -3, W: 1}}}}}
		}, false},
		{"the same with more atoms", func(p *impl.Prog) {
			*p = impl.Prog{Atoms: 3, Levels: []impl.Level{{Lits: []impl.WLit{{L: -3, W: 1}}}}}
		}, true},
	})
}

func TestProgOkProject(t *testing.T) {
	checkChanges(t, []progCase{
		{"Project without ProjOn", func(p *impl.Prog) { p.ProjOn = false }, false},
		{"ProjOn without Project", func(p *impl.Prog) { p.Project = nil }, true},
		{"neither", func(p *impl.Prog) { p.ProjOn, p.Project = false, []int{} }, true},
		{"atom 0", func(p *impl.Prog) { p.Project = []int{0} }, false},
		{"atom 13", func(p *impl.Prog) { p.Project = []int{13} }, false},
		{"an atom twice", func(p *impl.Prog) { p.Project = []int{3, 3} }, false},
		{"falling", func(p *impl.Prog) { p.Project = []int{3, 2} }, false},
		{"a literal with a -", func(p *impl.Prog) { p.Project = []int{-3} }, false},
		{"an atom above Atoms", func(p *impl.Prog) { *p = impl.Prog{Atoms: 2, ProjOn: true, Project: []int{1, 3}} }, false},
		{"the same with more atoms", func(p *impl.Prog) { *p = impl.Prog{Atoms: 3, ProjOn: true, Project: []int{1, 3}} }, true},
	})
}

func TestProgOkShows(t *testing.T) {
	text := func(s string) func(p *impl.Prog) {
		return func(p *impl.Prog) { p.Shows[19].Text = s }
	}
	cond := func(lits ...int) func(p *impl.Prog) {
		return func(p *impl.Prog) { p.Shows[19].Cond = lits }
	}
	checkChanges(t, []progCase{
		{"shows passed by one", func(p *impl.Prog) { p.Shows = append(p.Shows, impl.Show{Text: "b"}) }, false},
		{"an empty text", text(""), false},
		{"a text of one byte", text("~"), true},
		{"a text of MaxLabel bytes", text("p(a,b)!p(a,b)!p(a,b)"), true},
		{"one byte more", text("p(a,b)!p(a,b)!p(a,b)!"), false},
		{"byte 33", text("a!"), true},
		{"byte 32", text("a b"), false},
		{"byte 32 ahead", text(" a"), false},
		{"byte 126", text("a~"), true},
		{"byte 127", text("a\x7f"), false},
		{"byte 0", text("a\x00"), false},
		{"byte 10", text("a\n"), false},
		{"byte 255", text("\xff"), false},
		{"a sign of two bytes", text("aé"), false},
		{"an empty text ahead", func(p *impl.Prog) { p.Shows[0].Text = "" }, false},
		{"no Cond", cond(), true},
		{"Cond passed by one", cond(times(21, 1)...), false},
		{"Cond with 0", cond(1, 0), false},
		{"Cond with 13", cond(13), false},
		{"Cond with -13", cond(-13), false},
		{"Cond with the least number", cond(math.MinInt), false},
		{"Cond above Atoms", func(p *impl.Prog) {
			*p = impl.Prog{Atoms: 2, Shows: []impl.Show{{Text: "a", Cond: []int{-3}}}}
		}, false},
		{"the same with more atoms", func(p *impl.Prog) {
			*p = impl.Prog{Atoms: 3, Shows: []impl.Show{{Text: "a", Cond: []int{-3}}}}
		}, true},
	})
}

func TestProgOkExtsAndAssume(t *testing.T) {
	checkChanges(t, []progCase{
		{"V 2", func(p *impl.Prog) { p.Exts[11].V = 2 }, true},
		{"V passed by one", func(p *impl.Prog) { p.Exts[11].V = 3 }, false},
		{"V below 0", func(p *impl.Prog) { p.Exts[11].V = -1 }, false},
		{"exts passed by one", func(p *impl.Prog) { p.Exts = append(p.Exts, impl.Ext{Atom: 12}) }, false},
		{"an atom twice", func(p *impl.Prog) { p.Exts[0].Atom = 2 }, false},
		{"atoms falling", func(p *impl.Prog) { p.Exts = []impl.Ext{{Atom: 2}, {Atom: 1}} }, false},
		{"atom 0", func(p *impl.Prog) { p.Exts[0].Atom = 0 }, false},
		{"atom -1", func(p *impl.Prog) { p.Exts[0].Atom = -1 }, false},
		{"atom 13", func(p *impl.Prog) { p.Exts[11].Atom = 13 }, false},
		{"some of the atoms", func(p *impl.Prog) { p.Exts = []impl.Ext{{Atom: 3}, {Atom: 12, V: 1}} }, true},
		{"an atom above Atoms", func(p *impl.Prog) { *p = impl.Prog{Atoms: 2, Exts: []impl.Ext{{Atom: 3}}} }, false},
		{"the same with more atoms", func(p *impl.Prog) { *p = impl.Prog{Atoms: 3, Exts: []impl.Ext{{Atom: 3}}} }, true},
		{"Assume passed by one", func(p *impl.Prog) { p.Assume = append(p.Assume, 1) }, false},
		{"Assume with both literals", func(p *impl.Prog) { p.Assume = []int{1, -1, 1} }, true},
		{"Assume with 0", func(p *impl.Prog) { p.Assume[19] = 0 }, false},
		{"Assume with 13", func(p *impl.Prog) { p.Assume[19] = 13 }, false},
		{"Assume with -13", func(p *impl.Prog) { p.Assume[0] = -13 }, false},
		{"Assume with the least number", func(p *impl.Prog) { p.Assume[0] = math.MinInt }, false},
		{"Assume above Atoms", func(p *impl.Prog) { *p = impl.Prog{Atoms: 2, Assume: []int{-3}} }, false},
		{"the same with more atoms", func(p *impl.Prog) { *p = impl.Prog{Atoms: 3, Assume: []int{-3}} }, true},
	})
}

func TestHolds(t *testing.T) {
	for _, x := range lists {
		m := stands(x)
		for a := 1; a <= 12; a++ {
			if impl.Holds(x, a) != m[a] || impl.Holds(x, -a) == m[a] {
				t.Errorf("Holds(%v, %d) and Holds(%v, %d) are not %v and %v", x, a, x, -a, m[a], !m[a])
			}
		}
		for _, l := range noAtoms {
			if sized(l) >= 1 && sized(l) <= 12 {
				continue
			}
			if impl.Holds(x, l) || impl.Holds(x, -l) {
				t.Errorf("Holds(%v, %d) or Holds(%v, %d) is true", x, l, x, -l)
			}
		}
	}
	if impl.Holds([]int{0, 13, -13, 99}, 0) || impl.Holds([]int{13, -13}, 13) || impl.Holds([]int{13}, -13) || impl.Holds([]int{-2}, -13) {
		t.Error("a literal of no atom holds where it stands in the list")
	}
	if impl.Holds([]int{-3}, 3) || !impl.Holds([]int{-3}, -3) {
		t.Error("a number that is no atom counts in a list")
	}
}

func TestBodyHoldsCases(t *testing.T) {
	row := []impl.WLit{{L: 2, W: 2}, {L: -3, W: 1}, {L: 2, W: 1}}
	two := []impl.WLit{{L: 1, W: 1000}, {L: -1, W: 999}}
	for _, c := range []struct {
		name string
		r    impl.Rule
		x    []int
		want bool
	}{
		{"an empty body", impl.Rule{}, nil, true},
		{"a literal", plain(1, 2), []int{2}, true},
		{"a literal that is not so", plain(1, 2), []int{1, 3}, false},
		{"one with a -", plain(1, -2), []int{1, 3}, true},
		{"one with a - that is not so", plain(1, -2), []int{2}, false},
		{"all", constraint(1, -2, 3), []int{3, 1}, true},
		{"all but one", constraint(1, -2, 3), []int{1}, false},
		{"all but the last", constraint(1, 3, -2), []int{1, 2, 3}, false},
		{"both literals of an atom", constraint(1, -1), []int{1}, false},
		{"a literal twice", constraint(1, 1), []int{1}, true},
		{"a literal twice that is not so", constraint(1, 1), nil, false},
		{"a choice", choice([]int{1, 2}, 3), []int{3}, true},
		{"a choice, not so", choice([]int{1, 2}, 3), []int{1, 2}, false},
		{"atoms twice in the list", constraint(1, -2), []int{1, 1, 0, 13, -2}, true},
		{"at the bound", weighed(nil, 4, row...), []int{2}, true},
		{"above the bound", weighed(nil, 3, row...), []int{2}, true},
		{"one below the bound", weighed(nil, 5, row...), []int{2}, false},
		{"a part of it", weighed(nil, 3, row...), []int{2, 3}, true},
		{"a part that is too little", weighed(nil, 4, row...), []int{2, 3}, false},
		{"the literal with a -", weighed(nil, 1, row...), nil, true},
		{"not even that", weighed(nil, 1, row...), []int{3}, false},
		{"bound 0", weighed(nil, 0, row...), []int{3}, true},
		{"a bound below 0", weighed(nil, -100000), nil, true},
		{"bound 0 of nothing", weighed(nil, 0), nil, true},
		{"bound 1 of nothing", weighed(nil, 1), []int{1}, false},
		{"not all need hold", weighed([]int{1}, 1, row...), []int{2, 3}, true},
		{"all W of 1", weighed(nil, 2, body(1, 2, 3)...), []int{1, 3}, true},
		{"all W of 1, too few", weighed(nil, 2, body(1, 2, 3)...), []int{3}, false},
		{"an atom's two literals, the first", weighed(nil, 1000, two...), []int{1}, true},
		{"an atom's two literals, the second", weighed(nil, 1000, two...), nil, false},
		{"a choice with weights", impl.Rule{Choice: true, Heads: []int{1, 2}, Weight: true, Bound: 1, Body: body(3)}, []int{3}, true},
		{"all W at the limit", weighed(nil, 20000, times(20, impl.WLit{L: 12, W: 1000})...), []int{12}, true},
		{"more than all", weighed(nil, 20001, times(20, impl.WLit{L: 12, W: 1000})...), []int{12}, false},
	} {
		if impl.BodyHolds(c.r, c.x) != c.want {
			t.Errorf("%s: BodyHolds(%+v, %v) is not %v", c.name, c.r, c.x, c.want)
		}
	}
}

// TestBodyHoldsBadRule: each of these bodies would hold, if the rule were one.
func TestBodyHoldsBadRule(t *testing.T) {
	x := []int{1, 2, 12}
	for _, r := range []impl.Rule{
		constraint(1, 0),
		constraint(13),
		constraint(-13),
		constraint(math.MinInt),
		constraint(times(21, 1)...),
		weighed(nil, 1, impl.WLit{L: 1, W: 1}, impl.WLit{L: 2, W: 0}),
		weighed(nil, 1, impl.WLit{L: 1, W: 1001}),
		weighed(nil, 1, impl.WLit{L: 1, W: 1}, impl.WLit{L: -13, W: 1}),
		weighed(nil, -100001),
		weighed(nil, 0, times(21, impl.WLit{L: 1, W: 1})...),
		{Body: []impl.WLit{{L: 1, W: 2}}},
		{Bound: -1, Body: body(1)},
		{Bound: 1, Body: body(1)},
		{Choice: true, Body: body(1)},
		{Heads: []int{1, 2}, Body: body(1)},
		{Heads: []int{13}, Body: body(1)},
		{Heads: []int{0}},
		choice([]int{2, 1}),
	} {
		if impl.BodyHolds(r, x) {
			t.Errorf("the body of %+v, which is not RuleOk, holds", r)
		}
	}
}

// someRule is a rule that is RuleOk with n, which is above 0.
func someRule(from *rand.Rand, n int) impl.Rule {
	var r impl.Rule
	if r.Choice = from.Intn(3) == 0; r.Choice {
		r.Heads = impl.SetOf(1 + from.Intn(1<<n-1))
	} else if from.Intn(4) != 0 {
		r.Heads = []int{1 + from.Intn(n)}
	}
	if r.Weight = from.Intn(3) == 0; r.Weight {
		r.Bound = from.Intn(12) - 2
	}
	for range from.Intn(5) {
		w := impl.WLit{L: 1 + from.Intn(n), W: 1}
		if from.Intn(2) == 0 {
			w.L = -w.L
		}
		if r.Weight {
			w.W += from.Intn(5)
		}
		r.Body = append(r.Body, w)
	}
	return r
}

// someProg is a program of n atoms that is ProgOk, with rules alone.
func someProg(from *rand.Rand, n, most int) impl.Prog {
	p := impl.Prog{Atoms: n}
	for range from.Intn(most + 1) {
		p.Rules = append(p.Rules, someRule(from, n))
	}
	return p
}

// bodyIs tells by the definition whether a rule's body holds.
func bodyIs(r impl.Rule, x []int) bool {
	m := stands(x)
	all, together := true, 0
	for _, w := range r.Body {
		if (w.L > 0 && m[w.L]) || (w.L < 0 && !m[-w.L]) {
			together += w.W
		} else {
			all = false
		}
	}
	if r.Weight {
		return together >= r.Bound
	}
	return all
}

// modelIs tells by the definition whether x is a model of rules.
func modelIs(rules []impl.Rule, x []int) bool {
	for _, r := range rules {
		found := false
		for _, a := range r.Heads {
			found = found || slices.Contains(x, a)
		}
		if !r.Choice && bodyIs(r, x) && !found {
			return false
		}
	}
	return true
}

func TestBodyHoldsAndModelOfMany(t *testing.T) {
	from := rand.New(rand.NewSource(2))
	held, models := 0, 0
	for range 400 {
		p := someProg(from, 4, 4)
		if !impl.ProgOk(p) {
			t.Fatalf("%+v is not ProgOk", p)
		}
		for num := range 16 {
			x := impl.SetOf(num)
			for _, r := range p.Rules {
				if impl.BodyHolds(r, x) != bodyIs(r, x) {
					t.Fatalf("BodyHolds(%+v, %v) is not %v", r, x, bodyIs(r, x))
				}
				if bodyIs(r, x) {
					held++
				}
			}
			if impl.Model(p, x) != modelIs(p.Rules, x) {
				t.Fatalf("Model(%+v, %v) is not %v", p, x, modelIs(p.Rules, x))
			}
			if modelIs(p.Rules, x) {
				models++
			}
		}
	}
	if held < 1000 || models < 1000 || models > 5400 {
		t.Errorf("the programs are too much alike: %d bodies hold, %d sets are models", held, models)
	}
}

func TestModelCases(t *testing.T) {
	heavy := weighed([]int{1}, 3, impl.WLit{L: 2, W: 2}, impl.WLit{L: -3, W: 1})
	for _, c := range []struct {
		name string
		p    impl.Prog
		x    []int
		want bool
	}{
		{"no rules", impl.Prog{}, nil, true},
		{"no rules, a set beyond Atoms", impl.Prog{}, []int{5}, true},
		{"a fact that is there", impl.Prog{Atoms: 2, Rules: []impl.Rule{plain(2)}}, []int{2}, true},
		{"a fact that is not there", impl.Prog{Atoms: 2, Rules: []impl.Rule{plain(2)}}, []int{1}, false},
		{"a rule whose body holds", impl.Prog{Atoms: 2, Rules: []impl.Rule{plain(1, -2)}}, nil, false},
		{"a rule whose body does not hold", impl.Prog{Atoms: 2, Rules: []impl.Rule{plain(1, -2)}}, []int{2}, true},
		{"a constraint that is broken", impl.Prog{Atoms: 2, Rules: []impl.Rule{constraint(1, 2)}}, []int{1, 2}, false},
		{"a constraint that is not", impl.Prog{Atoms: 2, Rules: []impl.Rule{constraint(1, 2)}}, []int{1}, true},
		{"a choice of none", impl.Prog{Atoms: 2, Rules: []impl.Rule{choice([]int{1, 2})}}, nil, true},
		{"a choice of one", impl.Prog{Atoms: 2, Rules: []impl.Rule{choice([]int{1, 2})}}, []int{2}, true},
		{"weights", impl.Prog{Atoms: 3, Rules: []impl.Rule{heavy}}, []int{2}, false},
		{"weights that give it", impl.Prog{Atoms: 3, Rules: []impl.Rule{heavy}}, []int{1, 2}, true},
		{"weights that do not reach", impl.Prog{Atoms: 3, Rules: []impl.Rule{heavy}}, []int{2, 3}, true},
		{"the last rule", impl.Prog{Atoms: 2, Rules: []impl.Rule{plain(1), constraint(2)}}, []int{1, 2}, false},
		{"a list that is no set", impl.Prog{Atoms: 2, Rules: []impl.Rule{plain(1), plain(2)}}, []int{2, 99, 1, 2, 0}, true},
		{"external atoms are not asked", impl.Prog{Atoms: 1, Exts: []impl.Ext{{Atom: 1, V: 1}}}, nil, true},
		{"nor is what is assumed", impl.Prog{Atoms: 1, Assume: []int{1}}, nil, true},
		{"Atoms too great", impl.Prog{Atoms: 13}, nil, false},
		{"a choice without a head", impl.Prog{Atoms: 2, Rules: []impl.Rule{{Choice: true}}}, nil, false},
		{"a literal above Atoms", impl.Prog{Atoms: 1, Rules: []impl.Rule{constraint(2)}}, nil, false},
		{"Project without ProjOn", impl.Prog{Atoms: 1, Project: []int{1}}, nil, false},
		{"a text with a blank", impl.Prog{Shows: []impl.Show{{Text: "a b"}}}, nil, false},
	} {
		if impl.Model(c.p, c.x) != c.want {
			t.Errorf("%s: Model(%+v, %v) is not %v", c.name, c.p, c.x, c.want)
		}
	}
}

func TestAtomsOf(t *testing.T) {
	for _, c := range []struct {
		r    impl.Rule
		want []int
	}{
		{impl.Rule{}, nil},
		{plain(3), []int{3}},
		{plain(3, -1, 2), []int{1, 2, 3}},
		{constraint(-12, 1, 12), []int{1, 12}},
		{choice([]int{2, 4}, 4, -2, 7), []int{2, 4, 7}},
		{weighed([]int{1}, 3, impl.WLit{L: 2, W: 2}, impl.WLit{L: -3, W: 1}, impl.WLit{L: 2, W: 1}), []int{1, 2, 3}},
		{weighed(nil, 100001, impl.WLit{L: -5, W: 0}), []int{5}},
		{choice([]int{9, 4, 9}, 3), []int{3, 4, 9}},
		{choice([]int{0, -4, 13, 6}, 0, 13, -13, 77, -8), []int{6, 8}},
		{constraint(math.MinInt, math.MaxInt, math.MinInt+1), nil},
		{constraint(times(30, 2)...), []int{2}},
	} {
		if got := impl.AtomsOf(c.r); !slices.Equal(got, c.want) {
			t.Errorf("AtomsOf(%+v) = %v, not %v", c.r, got, c.want)
		}
	}
}

func TestBothCases(t *testing.T) {
	p := impl.Prog{
		Atoms:   3,
		Rules:   []impl.Rule{plain(1, -2), choice([]int{2, 3})},
		Levels:  []impl.Level{{P: 1, Lits: []impl.WLit{{L: 1, W: -4}}}},
		ProjOn:  true,
		Project: []int{1, 3},
		Shows:   []impl.Show{{Text: "one", Cond: []int{1, -2}}},
		Exts:    []impl.Ext{{Atom: 2, V: 1}},
		Assume:  []int{-3},
	}
	q := impl.Prog{
		Atoms:  5,
		Rules:  []impl.Rule{plain(5), weighed(nil, 2, impl.WLit{L: 4, W: 2})},
		Levels: []impl.Level{{P: 2}, {P: 7}},
		Shows:  []impl.Show{{Text: "two"}},
		Exts:   []impl.Ext{{Atom: 4}, {Atom: 5}},
		Assume: []int{5, 4},
	}
	want := p
	want.Atoms = 5
	want.Rules = []impl.Rule{p.Rules[0], p.Rules[1], q.Rules[0], q.Rules[1]}
	if got, ok := impl.Both(p, q); !ok || !alike(got, want) {
		t.Errorf("Both = %+v, %v, not %+v", got, ok, want)
	}
	want = q
	want.Rules = []impl.Rule{q.Rules[0], q.Rules[1], p.Rules[0], p.Rules[1]}
	if got, ok := impl.Both(q, p); !ok || !alike(got, want) {
		t.Errorf("the other way round Both = %+v, %v, not %+v", got, ok, want)
	}
	if got, ok := impl.Both(p, impl.Prog{}); !ok || !alike(got, p) {
		t.Errorf("with the zero program Both = %+v, %v, not %+v", got, ok, p)
	}
	if got, ok := impl.Both(impl.Prog{}, impl.Prog{}); !ok || !alike(got, impl.Prog{}) {
		t.Errorf("of two zero programs Both = %+v, %v", got, ok)
	}
}

func TestBothRefuses(t *testing.T) {
	full := atLimits()
	room := impl.Prog{Atoms: 1, Rules: times(59, constraint(1))}
	one := impl.Prog{Atoms: 2, Rules: []impl.Rule{constraint(2)}}
	bad := impl.Prog{Atoms: 2, Rules: []impl.Rule{{Choice: true}}}
	// Each would be a part of a program that is ProgOk, if it were not asked by itself.
	badRest := impl.Prog{Atoms: 2, Assume: []int{0}}
	narrow := impl.Prog{Atoms: 1, Rules: []impl.Rule{plain(2)}}
	for _, c := range []struct {
		name string
		p, q impl.Prog
		want bool
	}{
		{"rules at the limit", room, one, true},
		{"rules at the limit, the other way round", one, room, true},
		{"rules passed by one", full, one, false},
		{"rules passed by one, the other way round", one, full, false},
		{"a full one and no rules", full, impl.Prog{Atoms: 12}, true},
		{"a bad first one", bad, one, false},
		{"a bad second one", one, bad, false},
		{"a second one bad beside its rules", one, badRest, false},
		{"a first one bad beside its rules", badRest, one, false},
		{"a rule above the first one's Atoms", narrow, one, false},
		{"a rule above the second one's Atoms", one, narrow, false},
		{"too many atoms", impl.Prog{Atoms: 13}, one, false},
		{"atoms below 0", one, impl.Prog{Atoms: -1}, false},
	} {
		got, ok := impl.Both(c.p, c.q)
		if ok != c.want {
			t.Errorf("%s: Both is not %v", c.name, c.want)
		}
		if !ok && !alike(got, impl.Prog{}) {
			t.Errorf("%s: %+v comes with false", c.name, got)
		}
	}
}

// TestConstraintLeavesModels: a constraint put to a program with room leaves those of its models that do not break it, whatever else is in the program.
func TestConstraintLeavesModels(t *testing.T) {
	from := rand.New(rand.NewSource(3))
	left, gone := 0, 0
	for range 300 {
		p := someProg(from, 4, 3)
		r := someRule(from, 4)
		r.Choice, r.Heads = false, nil
		both, ok := impl.Both(p, impl.Prog{Atoms: 4, Rules: []impl.Rule{r}})
		if !ok {
			t.Fatalf("%+v has no room", p)
		}
		for num := range 16 {
			x := impl.SetOf(num)
			want := impl.Model(p, x) && !impl.BodyHolds(r, x)
			if impl.Model(both, x) != want {
				t.Fatalf("with %+v, %v is another model of %+v", r, x, p)
			}
			if want {
				left++
			} else if impl.Model(p, x) {
				gone++
			}
		}
	}
	if left < 300 || gone < 300 {
		t.Errorf("the constraints are too much alike: %d models left, %d gone", left, gone)
	}
}

// odd are rules and programs that are none, for calls that must leave them as they are.
func odd() []impl.Prog {
	bad := atLimits()
	bad.Rules[3].Heads = []int{5, 2, 2, 99}
	bad.Rules[4].Body = body(0, 13, -13)
	bad.Levels[2].P = -7
	bad.Project = []int{9, 1}
	bad.Shows[5].Text = "a b"
	bad.Exts[4].Atom = 3
	bad.Assume = []int{0, 77}
	return []impl.Prog{bad, {}, {Atoms: 4, Rules: []impl.Rule{choice([]int{3, 1}, 2, 1, 2)}}}
}

func TestProgramArgumentsAreKept(t *testing.T) {
	for _, made := range append(odd(), atLimits(), impl.Prog{Atoms: 3, Rules: []impl.Rule{plain(1, -2), choice([]int{2, 3}, 1)}}) {
		keeping(t, "ProgOk", withSpare(made), func(p impl.Prog) { impl.ProgOk(p) })
		for _, x := range lists {
			list := withSpare(x)
			keeping(t, "Model", withSpare(made), func(p impl.Prog) { impl.Model(p, list) })
			for _, r := range made.Rules {
				keeping(t, "BodyHolds", withSpare(r), func(r impl.Rule) { impl.BodyHolds(r, list) })
			}
			impl.Holds(list, -2)
			checkKept(t, "Model, BodyHolds or Holds", list, x)
		}
		for _, r := range made.Rules {
			keeping(t, "RuleOk", withSpare(r), func(r impl.Rule) { impl.RuleOk(r, 12) })
			keeping(t, "AtomsOf", withSpare(r), func(r impl.Rule) { impl.AtomsOf(r) })
		}
		other := impl.Prog{Atoms: 12, Rules: []impl.Rule{choice([]int{2, 3}, 1)}}
		keeping(t, "Both", withSpare([]impl.Prog{made, other}), func(x []impl.Prog) {
			impl.Both(x[0], x[1])
			impl.Both(x[1], x[0])
		})
	}
}

func TestProgramAnswersAreNew(t *testing.T) {
	r := withSpare(plain(3, 1, 2))
	checkApart(t, "AtomsOf", r, impl.AtomsOf(r), impl.AtomsOf(r))
	full := atLimits()
	full.Rules = full.Rules[:20]
	for _, made := range []impl.Prog{full, {Atoms: 3, Rules: []impl.Rule{plain(1, -2), choice([]int{2, 3}, 1)}}, {}} {
		p, q := withSpare(made), withSpare(made)
		one, ok1 := impl.Both(p, q)
		two, ok2 := impl.Both(p, p)
		three, ok3 := impl.Both(q, impl.Prog{})
		if !ok1 || !ok2 || !ok3 {
			t.Fatalf("%+v has no room", made)
		}
		checkApart(t, "Both", p, q, one, two, three)
	}
}

// TestProgramSpareIsNotRead: a rule or a program counts by what is within the lengths of its lists.
func TestProgramSpareIsNotRead(t *testing.T) {
	from := rand.New(rand.NewSource(4))
	for range 60 {
		p := someProg(from, 4, 4)
		r := someRule(from, 4)
		if !impl.ProgOk(withSpare(p)) || !impl.RuleOk(withSpare(r), 4) {
			t.Fatalf("the room behind the lists of %+v or of %+v is read", p, r)
		}
		if !slices.Equal(impl.AtomsOf(withSpare(r)), impl.AtomsOf(r)) {
			t.Fatalf("AtomsOf reads the room behind the lists of %+v", r)
		}
		for num := range 16 {
			x := impl.SetOf(num)
			if impl.BodyHolds(withSpare(r), withSpare(x)) != impl.BodyHolds(r, x) || impl.Model(withSpare(p), withSpare(x)) != impl.Model(p, x) {
				t.Fatalf("the room behind the lists of %+v or of %+v is read", p, r)
			}
		}
		if both, ok := impl.Both(withSpare(p), withSpare(p)); !ok || !slices.EqualFunc(both.Rules, append(slices.Clone(p.Rules), p.Rules...), alike[impl.Rule]) {
			t.Fatalf("Both reads the room behind the lists of %+v", p)
		}
	}
	if !impl.ProgOk(withSpare(atLimits())) {
		t.Error("ProgOk reads the room behind the lists of a program at its limits")
	}
}
