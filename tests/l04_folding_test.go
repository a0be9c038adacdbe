package tests

import (
	"math"
	"math/rand"
	"reflect"
	"slices"
	"testing"

	"loop.example/g00554/impl"
)

// wl is a literal with its W.
func wl(l, w int) impl.WLit {
	return impl.WLit{L: l, W: w}
}

func weighedChoice(heads []int, bound int, row ...impl.WLit) impl.Rule {
	return impl.Rule{Choice: true, Heads: heads, Weight: true, Bound: bound, Body: row}
}

func checkFold(t *testing.T, name string, p, want impl.Prog) {
	t.Helper()
	if got, ok := impl.Fold(p); !ok || !alike(got, want) {
		t.Errorf("%s: Fold(%+v) = %+v, %v, not %+v", name, p, got, ok, want)
	}
}

func checkNoFold(t *testing.T, name string, p impl.Prog) {
	t.Helper()
	if got, ok := impl.Fold(p); ok || !alike(got, impl.Prog{}) {
		t.Errorf("%s: Fold = %+v, %v", name, got, ok)
	}
}

// allExts are external atoms 1, 2 and 3, with each V.
func allExts() []impl.Ext {
	return []impl.Ext{{Atom: 1, V: 0}, {Atom: 2, V: 1}, {Atom: 3, V: 2}}
}

func TestFoldExts(t *testing.T) {
	free, fact := choice([]int{1}), plain(2)
	heavy := weighed([]int{2}, 9)
	for _, c := range []struct {
		name  string
		rules []impl.Rule
		exts  []impl.Ext
		want  []impl.Rule
	}{
		{"none", []impl.Rule{plain(1)}, nil, nil},
		{"each V", nil, allExts(), []impl.Rule{free, fact}},
		{"behind the others", []impl.Rule{plain(4, 1), constraint(4)}, allExts(), []impl.Rule{free, fact}},
		{"atoms of bodies alone", []impl.Rule{plain(4, 1, -2, 3), constraint(-1)}, allExts(), []impl.Rule{free, fact}},
		{"the head of a rule", []impl.Rule{plain(2, 4)}, allExts(), []impl.Rule{free}},
		{"the head of the last rule", []impl.Rule{plain(4), constraint(1), plain(1, 4)}, allExts(), []impl.Rule{fact}},
		{"the head of one with V 2", []impl.Rule{plain(3)}, allExts(), []impl.Rule{free, fact}},
		{"some heads of a choice", []impl.Rule{choice([]int{2, 3, 4}, 1)}, allExts(), []impl.Rule{free}},
		{"all heads of a choice", []impl.Rule{choice([]int{1, 2, 3})}, allExts(), nil},
		{"the head of one with weights", []impl.Rule{heavy}, allExts(), []impl.Rule{free}},
		{"the head of a rule that can never give it", []impl.Rule{plain(1, 1, -1)}, allExts(), []impl.Rule{fact}},
		{"heads of two rules", []impl.Rule{plain(2), plain(1, 4)}, allExts(), nil},
		{"V 0 alone", nil, []impl.Ext{{Atom: 4}}, []impl.Rule{choice([]int{4})}},
		{"V 1 alone", nil, []impl.Ext{{Atom: 4, V: 1}}, []impl.Rule{plain(4)}},
		{"V 2 alone", nil, []impl.Ext{{Atom: 4, V: 2}}, nil},
		{"two with V 0 are two rules", nil, []impl.Ext{{Atom: 1}, {Atom: 4}}, []impl.Rule{free, choice([]int{4})}},
		{"in their order, whatever the V", nil, []impl.Ext{{Atom: 2, V: 1}, {Atom: 3}, {Atom: 4, V: 1}}, []impl.Rule{fact, choice([]int{3}), plain(4)}},
	} {
		p := impl.Prog{Atoms: 4, Rules: c.rules, Exts: c.exts}
		checkFold(t, c.name, p, impl.Prog{Atoms: 4, Rules: slices.Concat(c.rules, c.want)})
	}
}

func TestFoldAssume(t *testing.T) {
	for _, c := range []struct {
		name   string
		rules  []impl.Rule
		exts   []impl.Ext
		assume []int
		want   []impl.Rule
	}{
		{"above 0", nil, nil, []int{3}, []impl.Rule{constraint(-3)}},
		{"below 0", nil, nil, []int{-3}, []impl.Rule{constraint(3)}},
		{"in their order", nil, nil, []int{4, -1, 2}, []impl.Rule{constraint(-4), constraint(1), constraint(-2)}},
		{"the same twice", nil, nil, []int{1, 1}, []impl.Rule{constraint(-1), constraint(-1)}},
		{"both literals of an atom", nil, nil, []int{-1, 1}, []impl.Rule{constraint(1), constraint(-1)}},
		{"behind the others", []impl.Rule{plain(1), choice([]int{3})}, nil, []int{3}, []impl.Rule{constraint(-3)}},
		{"one that is there", []impl.Rule{constraint(-3)}, nil, []int{3}, []impl.Rule{constraint(-3)}},
		{"behind those of Exts", nil, allExts(), []int{-1, 3}, []impl.Rule{choice([]int{1}), plain(2), constraint(1), constraint(-3)}},
		{"an atom with V 2", nil, []impl.Ext{{Atom: 2, V: 2}}, []int{2}, []impl.Rule{constraint(-2)}},
		{"one of no head of Exts", []impl.Rule{plain(2)}, allExts(), []int{2}, []impl.Rule{choice([]int{1}), constraint(-2)}},
	} {
		p := impl.Prog{Atoms: 4, Rules: c.rules, Exts: c.exts, Assume: c.assume}
		checkFold(t, c.name, p, impl.Prog{Atoms: 4, Rules: slices.Concat(c.rules, c.want)})
	}
}

// TestFoldLeavesTheRest: rules are not tidied, and atoms that nothing mentions stay.
func TestFoldLeavesTheRest(t *testing.T) {
	p := wholeProg()
	p.Atoms = 12
	p.Rules = append(p.Rules, plain(7, 7, 3, 3, -3), weighed(nil, 3, wl(2, 9), wl(1, 1), wl(1, 1)), choice([]int{4, 6}, 6))
	want := deepCopy(p)
	want.Exts, want.Assume = nil, nil
	checkFold(t, "nothing to fold", want, want)
	want.Rules = append(want.Rules, plain(5), choice([]int{8}), constraint(9), constraint(-1))
	checkFold(t, "all kinds", p, want)
	checkFold(t, "folded twice", want, want)
	checkFold(t, "the zero program", impl.Prog{}, impl.Prog{})
	checkFold(t, "atoms alone", impl.Prog{Atoms: 12}, impl.Prog{Atoms: 12})
	checkFold(t, "ProjOn of none", impl.Prog{ProjOn: true}, impl.Prog{ProjOn: true})
}

// roomFor is a program of 12 atoms with room for n rules more, whose only head is 12.
func roomFor(n int) impl.Prog {
	return impl.Prog{Atoms: 12, Rules: times(60-n, plain(12, 1))}
}

func TestFoldRoom(t *testing.T) {
	some := []impl.Ext{{Atom: 1}, {Atom: 2, V: 1}, {Atom: 3, V: 2}, {Atom: 12, V: 1}}
	for _, c := range []struct {
		name   string
		room   int
		exts   []impl.Ext
		assume []int
		want   int
	}{
		{"full, and nothing to fold", 0, nil, nil, 0},
		{"full, and what asks for no rule", 0, []impl.Ext{{Atom: 3, V: 2}, {Atom: 12}}, nil, 0},
		{"full, and V 0", 0, []impl.Ext{{Atom: 1}}, nil, 1},
		{"full, and V 1", 0, []impl.Ext{{Atom: 1, V: 1}}, nil, 1},
		{"full, and one literal", 0, nil, []int{12}, 1},
		{"Exts with room", 2, some, nil, 2},
		{"Exts with room for one more", 3, some, nil, 2},
		{"Exts without room", 1, some, nil, 2},
		{"literals with room", 3, nil, []int{1, -2, 1}, 3},
		{"literals without room", 2, nil, []int{1, -2, 1}, 3},
		{"both with room", 5, some, []int{1, -2, 1}, 5},
		{"both without room", 4, some, []int{1, -2, 1}, 5},
		{"MaxBody literals with room", 20, nil, times(20, 1), 20},
		{"MaxBody literals without room", 19, nil, times(20, 1), 20},
	} {
		p := roomFor(c.room)
		p.Exts, p.Assume = c.exts, c.assume
		got, ok := impl.Fold(p)
		if ok != (c.want <= c.room) {
			t.Errorf("%s: Fold is %v", c.name, ok)
		}
		if ok && (len(got.Rules) != 60-c.room+c.want || !impl.ProgOk(got)) {
			t.Errorf("%s: Fold has %d rules", c.name, len(got.Rules))
		}
		if !ok {
			checkNoFold(t, c.name, p)
		}
	}
	checkNoFold(t, "a program at its limits", atLimits())
}

// noProgs are changes of wholeProg that leave it no longer ProgOk.
func noProgs() map[string]func(p *impl.Prog) {
	return map[string]func(p *impl.Prog){
		"Atoms passed by one":          func(p *impl.Prog) { p.Atoms = 13 },
		"Atoms below 0":                func(p *impl.Prog) { p.Atoms = -1 },
		"Atoms below what is there":    func(p *impl.Prog) { p.Atoms = 8 },
		"a rule with two heads":        func(p *impl.Prog) { p.Rules[0].Heads = []int{1, 2} },
		"a choice without a head":      func(p *impl.Prog) { p.Rules[1].Heads = nil },
		"W 2 without Weight":           func(p *impl.Prog) { p.Rules[0].Body[0].W = 2 },
		"a literal 0":                  func(p *impl.Prog) { p.Rules[2].Body[0].L = 0 },
		"rules passed by one":          func(p *impl.Prog) { p.Rules = times(61, plain(1, 1)) },
		"one level twice":              func(p *impl.Prog) { p.Levels[1].P = -1 },
		"Project without ProjOn":       func(p *impl.Prog) { p.ProjOn = false },
		"an empty Text":                func(p *impl.Prog) { p.Shows[0].Text = "" },
		"an external atom twice":       func(p *impl.Prog) { p.Exts[1].Atom = 5 },
		"V 3":                          func(p *impl.Prog) { p.Exts[0].V = 3 },
		"an external atom 0":           func(p *impl.Prog) { p.Exts[0].Atom = 0 },
		"literal 0 assumed":            func(p *impl.Prog) { p.Assume[1] = 0 },
		"a literal assumed above":      func(p *impl.Prog) { p.Assume[1] = -10 },
		"the least number assumed":     func(p *impl.Prog) { p.Assume[0] = math.MinInt },
		"more than MaxBody assumed":    func(p *impl.Prog) { p.Assume = times(21, 1) },
		"the greatest number of Atoms": func(p *impl.Prog) { p.Atoms = math.MaxInt },
	}
}

func TestFoldAndTidyOfNoProgram(t *testing.T) {
	for name, change := range noProgs() {
		p := wholeProg()
		change(&p)
		checkNoFold(t, name, p)
		if got := impl.Tidy(p); !alike(got, impl.Prog{}) {
			t.Errorf("%s: Tidy = %+v", name, got)
		}
	}
}

// leastOf is the least set that the rules give where what is below 0 is asked of x, by the definition of chapter 5.
func leastOf(rules []impl.Rule, x []int) []int {
	var s []int
	for {
		before := len(s)
		for _, r := range rules {
			if !gives(r, s, x) {
				continue
			}
			for _, a := range r.Heads {
				if !slices.Contains(s, a) && (!r.Choice || slices.Contains(x, a)) {
					s = append(s, a)
				}
			}
		}
		if len(s) == before {
			slices.Sort(s)
			return s
		}
	}
}

// gives tells whether a body holds where what is above 0 is asked of s, what is below 0 of x.
func gives(r impl.Rule, s, x []int) bool {
	held, together := 0, 0
	for _, w := range r.Body {
		if (w.L > 0 && slices.Contains(s, w.L)) || (w.L < 0 && !slices.Contains(x, -w.L)) {
			held++
			together += w.W
		}
	}
	if r.Weight {
		return together >= r.Bound
	}
	return held == len(r.Body)
}

// answersOf are the numbers of the answers of rules with n atoms.
func answersOf(rules []impl.Rule, n int) []int {
	var nums []int
	for num := range 1 << n {
		x := impl.SetOf(num)
		if modelIs(rules, x) && slices.Equal(leastOf(rules, x), x) {
			nums = append(nums, num)
		}
	}
	return nums
}

// answersOfWhole are those of a program with what is external and assumed taken as it is meant: facts for all external atoms that are true, or may be and are taken so; and only the sets in which all that is assumed holds.
func answersOfWhole(p impl.Prog) []int {
	var given, free, facts []int
	for _, r := range p.Rules {
		given = append(given, r.Heads...)
	}
	for _, e := range p.Exts {
		if slices.Contains(given, e.Atom) {
			continue
		}
		if e.V == 0 {
			free = append(free, e.Atom)
		} else if e.V == 1 {
			facts = append(facts, e.Atom)
		}
	}
	var nums []int
	for some := range 1 << len(free) {
		rules := slices.Clone(p.Rules)
		for _, a := range facts {
			rules = append(rules, plain(a))
		}
		for i, a := range free {
			if some>>i&1 == 1 {
				rules = append(rules, plain(a))
			}
		}
		for _, num := range answersOf(rules, p.Atoms) {
			if bodyIs(constraint(p.Assume...), impl.SetOf(num)) {
				nums = append(nums, num)
			}
		}
	}
	slices.Sort(nums)
	return nums
}

// TestFoldedAnswers: folded a program has the same answers.
func TestFoldedAnswers(t *testing.T) {
	from := rand.New(rand.NewSource(8))
	found := 0
	for range 1500 {
		p := someWhole(from, 1+from.Intn(5))
		q, ok := impl.Fold(p)
		if !ok || !impl.ProgOk(q) || len(q.Exts) != 0 || len(q.Assume) != 0 {
			t.Fatalf("Fold(%+v) = %+v, %v", p, q, ok)
		}
		want := answersOfWhole(p)
		if got := answersOf(q.Rules, q.Atoms); !slices.Equal(got, want) {
			t.Fatalf("folded %+v has the answers %v, not %v", p, got, want)
		}
		found += len(want)
		same := deepCopy(p)
		same.Rules = q.Rules
		same.Exts, same.Assume = nil, nil
		if !alike(q, same) || !alike(q.Rules[:len(p.Rules)], p.Rules) {
			t.Fatalf("Fold(%+v) = %+v changes what it should leave", p, q)
		}
		checkFold(t, "folded twice", q, q)
	}
	if found < 500 {
		t.Errorf("the programs are too much alike: %d answers", found)
	}
}

func checkTidy(t *testing.T, name string, r, want impl.Rule) {
	t.Helper()
	if got, ok := impl.TidyRule(r); !ok || !alike(got, want) {
		t.Errorf("%s: TidyRule(%+v) = %+v, %v, not %+v", name, r, got, ok, want)
	}
}

func checkGoes(t *testing.T, name string, r impl.Rule) {
	t.Helper()
	if got, ok := impl.TidyRule(r); ok || !alike(got, impl.Rule{}) {
		t.Errorf("%s: TidyRule(%+v) = %+v, %v", name, r, got, ok)
	}
}

func TestTidyRuleOfNoRule(t *testing.T) {
	for name, r := range map[string]impl.Rule{
		"two heads":                      {Heads: []int{1, 2}},
		"a choice without a head":        {Choice: true},
		"heads that fall":                choice([]int{2, 1}, 3),
		"a head 0":                       plain(0, 3),
		"a head 13":                      plain(13, 3),
		"a literal 0":                    plain(1, 2, 0),
		"a literal 13":                   plain(1, 13),
		"a literal -13":                  plain(1, -13),
		"the least number":               plain(1, math.MinInt),
		"one more than MaxBody":          plain(1, times(21, 2)...),
		"W 2 without Weight":             {Heads: []int{1}, Body: []impl.WLit{wl(2, 2)}},
		"W 0 without Weight":             {Heads: []int{1}, Body: []impl.WLit{wl(2, 0)}},
		"Bound without Weight":           {Heads: []int{1}, Bound: 1, Body: body(2)},
		"W 0":                            weighed(nil, 1, wl(1, 1), wl(2, 0)),
		"W below 0":                      weighed(nil, 1, wl(1, 2), wl(2, -1)),
		"W passed by one":                weighed(nil, 1, wl(1, 1001)),
		"Bound passed by one":            weighed(nil, 100001, wl(1, 1)),
		"Bound passed below":             weighed(nil, -100001, wl(1, 1)),
		"the least Bound of all":         weighed(nil, math.MinInt, wl(1, 1)),
		"a literal 0 with Bound 0":       weighed([]int{1}, 0, wl(0, 1)),
		"one more than MaxBody at Bound": weighed([]int{1}, 0, times(21, wl(2, 1))...),
		"two heads with Weight":          weighed([]int{1, 2}, 0),
	} {
		checkGoes(t, name, r)
	}
}

type tidyCase struct {
	name string
	r    impl.Rule
	want impl.Rule
}

func checkTidies(t *testing.T, cases []tidyCase) {
	t.Helper()
	for _, c := range cases {
		checkTidy(t, c.name, c.r, c.want)
	}
}

// TestTidyRuleOrder: step 3, in rules with Weight and without.
func TestTidyRuleOrder(t *testing.T) {
	all := []int{1, 2, -3, 4, -5, 6, 7, -8, 9, 10, -11}
	backward := slices.Clone(all)
	slices.Reverse(backward)
	bySize := []int{1, -12, 2, -11, 10, -3}
	checkTidies(t, []tidyCase{
		{"the zero rule", impl.Rule{}, impl.Rule{}},
		{"a fact", plain(12), plain(12)},
		{"a choice of all", choice(impl.SetOf(4095)), choice(impl.SetOf(4095))},
		{"in order", plain(12, all...), plain(12, all...)},
		{"the other way round", plain(12, backward...), plain(12, all...)},
		{"without a head", constraint(backward...), constraint(all...)},
		{"with Choice", choice([]int{12}, backward...), choice([]int{12}, all...)},
		{"whatever the sign", constraint(bySize...), constraint(1, 2, -3, 10, -11, -12)},
		{"a - does not come first", constraint(2, -1), constraint(-1, 2)},
		{"nor last", constraint(-2, 1, 3), constraint(1, -2, 3)},
		{"weights", weighed(nil, 2, wl(3, 1), wl(-1, 1), wl(2, 1)), weighed(nil, 2, wl(-1, 1), wl(2, 1), wl(3, 1))},
		{"weights of both literals", weighed(nil, 3, wl(-2, 1), wl(2, 2), wl(-1, 1), wl(1, 2)), weighed(nil, 3, wl(1, 2), wl(-1, 1), wl(2, 2), wl(-2, 1))},
		{"both literals, the one without a - ahead", weighed(nil, 3, wl(2, 2), wl(-2, 1), wl(1, 1)), weighed(nil, 3, wl(1, 1), wl(2, 2), wl(-2, 1))},
		{"a choice with weights", weighedChoice([]int{5, 9}, 2, wl(-9, 1), wl(5, 1), wl(1, 1)), weighedChoice([]int{5, 9}, 2, wl(1, 1), wl(5, 1), wl(-9, 1))},
	})
}

// TestTidyRulePlain: step 2.
func TestTidyRulePlain(t *testing.T) {
	checkTidies(t, []tidyCase{
		{"a literal twice", plain(1, 2, 2), plain(1, 2)},
		{"one with a - twice", plain(1, -2, -2), plain(1, -2)},
		{"apart", constraint(2, -1, 2, 3, -1), constraint(-1, 2, 3)},
		{"MaxBody times", constraint(times(20, -12)...), constraint(-12)},
		{"a head below 0 in the body", plain(1, -1), plain(1, -1)},
		{"a choice's head below 0", choice([]int{1, 2}, -1, -2), choice([]int{1, 2}, -1, -2)},
		{"a choice with a head in the body", choice([]int{1, 2, 3}, 2), choice([]int{1, 3}, 2)},
		{"a choice with the first head in the body", choice([]int{1, 2}, 3, 1), choice([]int{2}, 1, 3)},
		{"a choice with the last head in the body", choice([]int{1, 12}, 12, 12), choice([]int{1}, 12)},
		{"a choice with two heads in the body", choice([]int{1, 2, 3, 4}, 4, 3, -2), choice([]int{1, 2}, -2, 3, 4)},
		{"a choice with one head above 0 and one below", choice([]int{1, 2}, -2, 1), choice([]int{2}, 1, -2)},
		{"no head, and an atom of the body", constraint(1, 2), constraint(1, 2)},
		{"a choice without a body", choice([]int{2, 7}), choice([]int{2, 7})},
	})
	for name, r := range map[string]impl.Rule{
		"both literals":                        constraint(1, -1),
		"both literals, that with a - first":   constraint(-1, 1),
		"both literals apart":                  plain(4, 1, 2, -1),
		"both literals of the greatest atom":   plain(4, -12, 12, 12),
		"both literals and a choice":           choice([]int{3, 4}, 2, -2),
		"both literals of the head":            plain(1, 1, -1),
		"both literals of a choice's head":     choice([]int{1, 2}, 1, -1),
		"the head in the body":                 plain(1, 1),
		"the head in the body, behind others":  plain(1, 2, -3, 1),
		"the greatest head in the body":        plain(12, 12),
		"all heads of a choice":                choice([]int{1, 2}, 2, 1),
		"all heads of a choice and more":       choice([]int{2, 3}, 1, 2, 3, 4),
		"the one head of a choice in the body": choice([]int{5}, 5),
	} {
		checkGoes(t, name, r)
	}
}

// TestTidyRuleWeights: step 1, of rules that stay ones with Weight.
func TestTidyRuleWeights(t *testing.T) {
	checkTidies(t, []tidyCase{
		{"nothing to tidy", weighed([]int{3}, 3, wl(1, 2), wl(2, 1), wl(-4, 1)), weighed([]int{3}, 3, wl(1, 2), wl(2, 1), wl(-4, 1))},
		{"one literal twice", weighed(nil, 2, wl(1, 1), wl(2, 2), wl(1, 1)), weighed(nil, 2, wl(1, 2), wl(2, 2))},
		{"one literal with a - twice", weighed(nil, 2, wl(-1, 1), wl(2, 2), wl(-1, 1)), weighed(nil, 2, wl(-1, 2), wl(2, 2))},
		{"two literals of one atom are not one", weighed(nil, 2, wl(1, 1), wl(-1, 1), wl(2, 1)), weighed(nil, 2, wl(1, 1), wl(-1, 1), wl(2, 1))},
		{"both, each twice", weighed(nil, 3, wl(-1, 1), wl(1, 2), wl(-1, 2), wl(1, 1)), weighed(nil, 3, wl(1, 3), wl(-1, 3))},
		{"a W above Bound", weighed(nil, 3, wl(1, 9), wl(2, 1), wl(3, 3)), weighed(nil, 3, wl(1, 3), wl(2, 1), wl(3, 3))},
		{"a W above Bound by one", weighed(nil, 3, wl(1, 4), wl(2, 2)), weighed(nil, 3, wl(1, 3), wl(2, 2))},
		{"W above Bound together", weighed(nil, 3, wl(1, 2), wl(2, 1), wl(1, 2)), weighed(nil, 3, wl(1, 3), wl(2, 1))},
		{"each W above Bound", weighed(nil, 1, wl(1, 1000), wl(-2, 7)), weighed(nil, 1, wl(1, 1), wl(-2, 1))},
		{"Bound at MaxW", weighed(nil, 1000, wl(2, 600), wl(1, 1), wl(2, 600)), weighed(nil, 1000, wl(1, 1), wl(2, 1000))},
		{"one literal that is needed", weighed(nil, 3, wl(1, 2), wl(2, 1), wl(3, 1)), weighed(nil, 3, wl(1, 2), wl(2, 1), wl(3, 1))},
		{"all needed but the last", weighed(nil, 5, wl(1, 2), wl(2, 3), wl(3, 1)), weighed(nil, 5, wl(1, 2), wl(2, 3), wl(3, 1))},
		{"the head in the body", weighed([]int{1}, 1, wl(1, 1), wl(2, 1)), weighed([]int{1}, 1, wl(1, 1), wl(2, 1))},
		{"heads of a choice in the body", weighedChoice([]int{1, 2}, 1, wl(2, 1), wl(1, 1)), weighedChoice([]int{1, 2}, 1, wl(1, 1), wl(2, 1))},
		{"MaxBody literals", weighed(nil, 20, append(times(19, wl(12, 1)), wl(-12, 20))...), weighed(nil, 20, wl(12, 19), wl(-12, 20))},
	})
}

// TestTidyRuleWithoutWeight: step 1, of rules that become ones without Weight, and what step 2 does with them.
func TestTidyRuleWithoutWeight(t *testing.T) {
	checkTidies(t, []tidyCase{
		{"Bound 0", weighed([]int{3}, 0, wl(1, 2), wl(2, 1)), plain(3)},
		{"Bound 0 of nothing", weighed([]int{3}, 0), plain(3)},
		{"Bound below 0", weighed(nil, -1, wl(1, 2)), constraint()},
		{"the least Bound", weighedChoice([]int{1, 2}, -100000, wl(1, 2)), choice([]int{1, 2})},
		{"Bound 0 and the head in the body", weighed([]int{3}, 0, wl(3, 2)), plain(3)},
		{"Bound 0 and both literals", weighed([]int{3}, 0, wl(1, 2), wl(-1, 2)), plain(3)},
		{"Bound 0 and a choice's heads", weighedChoice([]int{1, 2}, 0, wl(1, 2), wl(2, 2)), choice([]int{1, 2})},
		{"all W just Bound", weighed([]int{3}, 3, wl(2, 2), wl(1, 1)), plain(3, 1, 2)},
		{"all needed, and more than Bound", weighed([]int{3}, 4, wl(2, 3), wl(-1, 2)), plain(3, -1, 2)},
		{"one literal", weighed(nil, 3, wl(2, 3)), constraint(2)},
		{"one literal of more than Bound", weighed(nil, 3, wl(-2, 1000)), constraint(-2)},
		{"one literal twice", weighed(nil, 3, wl(2, 2), wl(2, 2)), constraint(2)},
		{"one literal twice, just Bound", weighed(nil, 4, wl(2, 2), wl(2, 2)), constraint(2)},
		{"a literal in two, and another one", weighed([]int{3}, 4, wl(2, 1), wl(1, 2), wl(2, 1)), plain(3, 1, 2)},
		{"Bound above MaxW", weighed([]int{3}, 1001, wl(2, 1000), wl(1, 1000)), plain(3, 1, 2)},
		{"Bound above MaxW, one literal", weighed([]int{3}, 1001, wl(2, 1000), wl(2, 1000)), plain(3, 2)},
		{"Bound above MaxW, literals of more", weighed([]int{3}, 2500, wl(2, 1000), wl(1, 700), wl(2, 1000)), plain(3, 1, 2)},
		{"Bound above MaxW, all W", weighed(nil, 20000, append(times(10, wl(2, 1000)), times(10, wl(-1, 1000))...)...), constraint(-1, 2)},
		{"a choice with a head in what is left", weighedChoice([]int{1, 2, 4}, 3, wl(2, 2), wl(1, 1)), choice([]int{4}, 1, 2)},
		{"a choice with a head below 0 in what is left", weighedChoice([]int{1, 2}, 3, wl(-2, 2), wl(1, 1)), choice([]int{2}, 1, -2)},
		{"the head below 0 in what is left", weighed([]int{1}, 3, wl(-1, 3)), plain(1, -1)},
	})
	for name, r := range map[string]impl.Rule{
		"less than Bound together":           weighed([]int{3}, 4, wl(1, 2), wl(2, 1)),
		"less than Bound by far":             weighed([]int{3}, 100000, wl(1, 2), wl(2, 1)),
		"nothing, and Bound 1":               weighed(nil, 1),
		"nothing, and a choice":              weighedChoice([]int{1}, 1),
		"less than Bound above MaxW":         weighed(nil, 2001, wl(1, 1000), wl(2, 1000)),
		"all W at the limit":                 weighed(nil, 20001, times(20, wl(1, 1000))...),
		"both literals, just Bound":          weighed([]int{3}, 3, wl(1, 2), wl(-1, 1)),
		"both literals, each needed":         weighed([]int{3}, 4, wl(1, 2), wl(-1, 3), wl(1, 1)),
		"both literals above MaxW":           weighed([]int{3}, 1001, wl(-1, 1000), wl(1, 1)),
		"the head in what is left":           weighed([]int{2}, 3, wl(1, 2), wl(2, 1)),
		"the one head of a choice":           weighedChoice([]int{2}, 3, wl(1, 2), wl(2, 1)),
		"all heads of a choice":              weighedChoice([]int{1, 2}, 3, wl(1, 2), wl(2, 1)),
		"the head in one literal above MaxW": weighed([]int{2}, 1500, wl(2, 1000), wl(2, 500)),
	} {
		checkGoes(t, name, r)
	}
}

// TestTidyRuleAboveMaxW: where Bound is above MaxW, the WLits of a rule that stays one with Weight are but put in order.
func TestTidyRuleAboveMaxW(t *testing.T) {
	checkTidies(t, []tidyCase{
		{"one literal in two", weighed(nil, 1001, wl(2, 600), wl(1, 1000), wl(2, 500)), weighed(nil, 1001, wl(1, 1000), wl(2, 600), wl(2, 500))},
		{"alike ones as they came", weighed([]int{4}, 1001, wl(2, 500), wl(1, 1000), wl(2, 600), wl(2, 501)), weighed([]int{4}, 1001, wl(1, 1000), wl(2, 500), wl(2, 600), wl(2, 501))},
		{"also those of little W", weighed(nil, 1001, wl(2, 1), wl(3, 1), wl(1, 1000), wl(2, 1)), weighed(nil, 1001, wl(1, 1000), wl(2, 1), wl(2, 1), wl(3, 1))},
		{"more than Bound together", weighed(nil, 1001, wl(2, 900), wl(1, 1), wl(2, 900)), weighed(nil, 1001, wl(1, 1), wl(2, 900), wl(2, 900))},
		{"both literals", weighed(nil, 1200, wl(-2, 700), wl(2, 800), wl(1, 500), wl(-2, 9), wl(2, 3)), weighed(nil, 1200, wl(1, 500), wl(2, 800), wl(2, 3), wl(-2, 700), wl(-2, 9))},
		{"a choice, with a head in the body", weighedChoice([]int{1, 3}, 1001, wl(3, 900), wl(1, 2), wl(3, 900)), weighedChoice([]int{1, 3}, 1001, wl(1, 2), wl(3, 900), wl(3, 900))},
		{"all at the limit", weighed(nil, 19000, append(times(19, wl(5, 1000)), wl(4, 1000))...), weighed(nil, 19000, append([]impl.WLit{wl(4, 1000)}, times(19, wl(5, 1000))...)...)},
		{"Bound at MaxW is not above it", weighed(nil, 1000, wl(2, 600), wl(1, 1000), wl(2, 500)), weighed(nil, 1000, wl(1, 1000), wl(2, 1000))},
	})
	row := make([]impl.WLit, 0, 20)
	for i := range 20 {
		row = append(row, wl(2-i%2, 1000-i))
	}
	want := append([]impl.WLit{}, row...)
	for i := range 10 {
		want[i], want[10+i] = row[2*i+1], row[2*i]
	}
	checkTidy(t, "twenty of two literals", weighed(nil, 5000, row...), weighed(nil, 5000, want...))
}

// tidied does the steps as they are told, of a rule that is one.
func tidied(r impl.Rule) (impl.Rule, bool) {
	r = deepCopy(r)
	first := slices.Clone(r.Body)
	if r.Weight {
		sums := map[int]int{}
		for _, w := range r.Body {
			sums[w.L] += w.W
		}
		all := 0
		for l, sum := range sums {
			if r.Bound > 0 && sum > r.Bound {
				sums[l] = r.Bound
			}
			all += sums[l]
		}
		r.Body = nil
		needed := true
		for l, sum := range sums {
			r.Body = append(r.Body, wl(l, sum))
			needed = needed && all-sum < r.Bound
		}
		switch {
		case r.Bound <= 0:
			r.Weight, r.Bound, r.Body = false, 0, nil
		case all < r.Bound:
			return impl.Rule{}, false
		case needed:
			r.Weight, r.Bound = false, 0
		case r.Bound > 1000:
			r.Body = first
		}
	}
	if !r.Weight {
		lits := map[int]bool{}
		for _, w := range r.Body {
			lits[w.L] = true
		}
		r.Body = nil
		for l := range lits {
			if lits[-l] {
				return impl.Rule{}, false
			}
			r.Body = append(r.Body, wl(l, 1))
		}
		before := len(r.Heads)
		r.Heads = slices.DeleteFunc(r.Heads, func(a int) bool { return lits[a] })
		if before > 0 && len(r.Heads) == 0 {
			return impl.Rule{}, false
		}
	}
	var sorted []impl.WLit
	for a := 1; a <= 12; a++ {
		for _, l := range []int{a, -a} {
			for _, w := range r.Body {
				if w.L == l {
					sorted = append(sorted, w)
				}
			}
		}
	}
	r.Body = sorted
	return r, true
}

// someHeavy is a rule with Weight whose Bound is about what its W are together, with n atoms.
func someHeavy(from *rand.Rand, n int) impl.Rule {
	r := someRule(from, n)
	r.Weight = true
	most := []int{2, 5, 1000}[from.Intn(3)]
	all := 0
	r.Body = nil
	for range from.Intn([]int{4, 7, 21}[from.Intn(3)]) {
		w := wl((1+from.Intn(n))*(1-2*from.Intn(2)), 1+from.Intn(most))
		all += w.W
		r.Body = append(r.Body, w)
	}
	r.Bound = all - from.Intn(all+3) + 1
	if from.Intn(3) == 0 {
		r.Bound = all - from.Intn(most+2) + 1
	}
	return r
}

func someRuleOfAny(from *rand.Rand, n int) impl.Rule {
	if from.Intn(3) == 0 {
		return someRule(from, n)
	}
	return someHeavy(from, n)
}

// TestTidyRuleOfMany: of many rules just what the steps say is left, a rule again, which is tidy.
func TestTidyRuleOfMany(t *testing.T) {
	from := rand.New(rand.NewSource(9))
	stayed, gone, heavy, great := 0, 0, 0, 0
	for range 40000 {
		r := someRuleOfAny(from, 1+from.Intn(5))
		want, stays := tidied(r)
		got, ok := impl.TidyRule(r)
		if ok != stays || !alike(got, want) {
			t.Fatalf("TidyRule(%+v) = %+v, %v, not %+v, %v", r, got, ok, want, stays)
		}
		if !ok {
			gone++
			continue
		}
		stayed++
		if got.Weight {
			heavy++
			if got.Bound > 1000 {
				great++
			}
		}
		if !impl.RuleOk(got, 12) {
			t.Fatalf("TidyRule(%+v) = %+v, which is no rule", r, got)
		}
		checkTidy(t, "tidied twice", got, got)
	}
	if stayed < 10000 || gone < 5000 || heavy < 4000 || great < 1000 {
		t.Errorf("the rules are too much alike: %d stay, %d of them with Weight, %d above MaxW, and %d go", stayed, heavy, great, gone)
	}
}

// htModel tells by the definition of chapter 13 whether h and t are a pair of rules.
func htModel(rules []impl.Rule, h, t []int) bool {
	gave := func(r impl.Rule, s []int) bool {
		if r.Choice {
			return !slices.ContainsFunc(r.Heads, func(a int) bool { return slices.Contains(t, a) && !slices.Contains(s, a) })
		}
		return slices.ContainsFunc(r.Heads, func(a int) bool { return slices.Contains(s, a) })
	}
	for _, r := range rules {
		if gives(r, h, t) && !gave(r, h) || !r.Choice && gives(r, t, t) && !gave(r, t) {
			return false
		}
	}
	return true
}

// checkStrong fails where rules and others of n atoms do not make the same pairs.
func checkStrong(t *testing.T, rules, others []impl.Rule, n int) int {
	t.Helper()
	pairs := 0
	for there := range 1 << n {
		for here := range there + 1 {
			if here&^there != 0 {
				continue
			}
			x, y := impl.SetOf(here), impl.SetOf(there)
			is := htModel(rules, x, y)
			if htModel(others, x, y) != is {
				t.Fatalf("(%v, %v) is a pair of only one of %+v and %+v", x, y, rules, others)
			}
			if is {
				pairs++
			}
		}
	}
	return pairs
}

// TestTidyIsStrong: of a program without external atoms a tidy one is Strong with it, and has its answers whatever is put to it.
func TestTidyIsStrong(t *testing.T) {
	from := rand.New(rand.NewSource(10))
	pairs, less := 0, 0
	for range 1500 {
		p := impl.Prog{Atoms: 1 + from.Intn(4)}
		for range from.Intn(4) {
			p.Rules = append(p.Rules, someRuleOfAny(from, p.Atoms))
		}
		p.Assume = someLiterals(from, p.Atoms)
		q := impl.Tidy(p)
		if !impl.ProgOk(q) || q.Atoms != p.Atoms || !alike(q.Assume, p.Assume) {
			t.Fatalf("Tidy(%+v) = %+v", p, q)
		}
		if len(q.Rules) < len(p.Rules) {
			less++
		}
		folded, ok1 := impl.Fold(p)
		tidy, ok2 := impl.Fold(q)
		if !ok1 || !ok2 {
			t.Fatalf("%+v or %+v is not folded", p, q)
		}
		pairs += checkStrong(t, folded.Rules, tidy.Rules, p.Atoms)
		more := []impl.Rule{someRule(from, p.Atoms), someRule(from, p.Atoms)}
		one, two := slices.Concat(folded.Rules, more), slices.Concat(tidy.Rules, more)
		if !slices.Equal(answersOf(one, p.Atoms), answersOf(two, p.Atoms)) {
			t.Fatalf("with %+v, %+v has other answers than %+v", more, q, p)
		}
	}
	if pairs < 5000 || less < 300 {
		t.Errorf("the programs are too much alike: %d pairs, %d with a rule that goes", pairs, less)
	}
}

// TestTidyRuleAloneIsStrong: each rule by itself, so that no other one hides what it has lost.
func TestTidyRuleAloneIsStrong(t *testing.T) {
	from := rand.New(rand.NewSource(11))
	for range 3000 {
		r := someRuleOfAny(from, 3)
		var left []impl.Rule
		if tidy, ok := impl.TidyRule(r); ok {
			left = append(left, tidy)
		}
		checkStrong(t, []impl.Rule{r}, left, 3)
	}
}

func TestTidy(t *testing.T) {
	p := wholeProg()
	p.Atoms = 12
	p.Rules = []impl.Rule{
		plain(1, 1),
		plain(2, 3, -4, 3),
		weighed(nil, 9, wl(1, 1)),
		weighed([]int{5}, 0, wl(1, 1)),
		plain(2, 3, -4, 3),
		choice([]int{4, 6}, 6),
		constraint(7, -7),
		weighed(nil, 3, wl(2, 9), wl(1, 1), wl(1, 1)),
		constraint(),
		plain(8, -8, 8),
	}
	want := deepCopy(p)
	want.Rules = []impl.Rule{
		plain(2, 3, -4),
		plain(5),
		plain(2, 3, -4),
		choice([]int{4}, 6),
		weighed(nil, 3, wl(1, 2), wl(2, 3)),
		constraint(),
	}
	if got := impl.Tidy(p); !alike(got, want) {
		t.Errorf("Tidy(%+v) = %+v, not %+v", p, got, want)
	}
	if got := impl.Tidy(want); !alike(got, want) {
		t.Errorf("of a tidy program Tidy is %+v, not %+v", got, want)
	}
}

func TestTidyAtLimits(t *testing.T) {
	p := atLimits()
	want := deepCopy(p)
	// The first rule loses a head, the second one its body; the others of no use are gone.
	want.Rules = []impl.Rule{choice(impl.SetOf(2047), 12), constraint()}
	if got := impl.Tidy(p); !alike(got, want) {
		t.Errorf("at its limits Tidy is %+v, not %+v", got, want)
	}
	full := impl.Prog{Atoms: 12, Rules: times(60, plain(1, 3, 2))}
	want = impl.Prog{Atoms: 12, Rules: times(60, plain(1, 2, 3))}
	if got := impl.Tidy(full); !alike(got, want) {
		t.Errorf("of MaxRules rules that stay Tidy is %+v", got)
	}
	for _, p := range []impl.Prog{{}, {Atoms: 12}, {Atoms: 3, Rules: []impl.Rule{}}} {
		if got := impl.Tidy(p); !alike(got, p) {
			t.Errorf("Tidy(%+v) = %+v", p, got)
		}
	}
	gone := impl.Prog{Atoms: 2, Rules: times(60, plain(2, 2)), ProjOn: true, Exts: []impl.Ext{{Atom: 2}}}
	want = impl.Prog{Atoms: 2, ProjOn: true, Exts: []impl.Ext{{Atom: 2}}}
	if got := impl.Tidy(gone); !alike(got, want) {
		t.Errorf("of rules that all go Tidy is %+v", got)
	}
}

// foldable are programs, and what is none, for calls that must leave them as they are.
func foldable() []impl.Prog {
	some := append(odd(), atLimits(), wholeProg(), roomFor(3), impl.Prog{Atoms: 4, Exts: allExts(), Assume: []int{-1, 4}})
	heavy := impl.Prog{Atoms: 5, Rules: []impl.Rule{
		weighedChoice([]int{1, 2}, 3, wl(2, 9), wl(1, 1), wl(-1, 1), wl(1, 1)),
		weighedChoice([]int{1, 2, 4}, 3, wl(2, 2), wl(1, 1)),
		weighed([]int{3}, 1001, wl(2, 600), wl(1, 1000), wl(2, 500)),
		weighed([]int{3}, 3, wl(5, 2), wl(4, 1)),
		weighed([]int{3}, -5, wl(5, 2), wl(4, 1)),
		choice([]int{1, 4, 5}, 5, 5, -3),
		plain(2, 5, 4, 5),
		constraint(2, -1),
	}}
	return append(some, heavy)
}

func TestFoldingArgumentsAreKept(t *testing.T) {
	from := rand.New(rand.NewSource(12))
	for _, made := range foldable() {
		keeping(t, "Fold", withSpare(made), func(p impl.Prog) { impl.Fold(p) })
		keeping(t, "Tidy", withSpare(made), func(p impl.Prog) { impl.Tidy(p) })
		for _, r := range made.Rules {
			keeping(t, "TidyRule", withSpare(r), func(r impl.Rule) { impl.TidyRule(r) })
		}
	}
	for range 300 {
		keeping(t, "TidyRule", withSpare(someRuleOfAny(from, 4)), func(r impl.Rule) { impl.TidyRule(r) })
		keeping(t, "Fold", withSpare(someWhole(from, 5)), func(p impl.Prog) { impl.Fold(p) })
	}
}

func TestFoldingSpareIsNotRead(t *testing.T) {
	for _, made := range foldable() {
		p, ok := impl.Fold(made)
		q, again := impl.Fold(withSpare(made))
		if ok != again || !alike(p, q) || !alike(impl.Tidy(made), impl.Tidy(withSpare(made))) {
			t.Errorf("the room behind the lists of %+v is read", made)
		}
		for _, r := range made.Rules {
			one, ok := impl.TidyRule(r)
			two, again := impl.TidyRule(withSpare(r))
			if ok != again || !alike(one, two) {
				t.Errorf("the room behind the lists of %+v is read", r)
			}
		}
	}
}

// handsOutNothing fails where there is something in the room behind a list of v.
func handsOutNothing(t *testing.T, name string, v reflect.Value) {
	t.Helper()
	switch v.Kind() {
	case reflect.Slice:
		for i := range v.Len() {
			handsOutNothing(t, name, v.Index(i))
		}
		for i := v.Len(); i < v.Cap(); i++ {
			if !v.Slice(0, v.Cap()).Index(i).IsZero() {
				t.Errorf("%s: there is something behind a list's length", name)
				return
			}
		}
	case reflect.Struct:
		for i := range v.NumField() {
			handsOutNothing(t, name, v.Field(i))
		}
	}
}

func TestFoldingAnswersAreNew(t *testing.T) {
	for _, made := range foldable() {
		p := withSpare(made)
		one, _ := impl.Fold(p)
		two, _ := impl.Fold(p)
		checkApart(t, "Fold", p, one, two)
		handsOutNothing(t, "Fold", reflect.ValueOf(one))
		three, four := impl.Tidy(p), impl.Tidy(p)
		checkApart(t, "Tidy", p, three, four)
		handsOutNothing(t, "Tidy", reflect.ValueOf(three))
		for _, r := range p.Rules {
			one, _ := impl.TidyRule(r)
			two, _ := impl.TidyRule(r)
			checkApart(t, "TidyRule", r, one, two)
			handsOutNothing(t, "TidyRule", reflect.ValueOf(one))
		}
	}
}
