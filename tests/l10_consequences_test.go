package tests

import (
	"math"
	"math/rand"
	"reflect"
	"slices"
	"strings"
	"testing"

	"loop.example/g00554/impl"
)

// noAnswers stands for what is told where there are none.
const noAnswers = "no answers"

// toldText writes what Brave or Cautious tells.
func toldText(x []int, ok bool) string {
	switch {
	case ok:
		return textOf(x)
	case len(x) > 0:
		return "false, but " + textOf(x)
	}
	return noAnswers
}

func checkTold(t *testing.T, name string, p impl.Prog, brave, cautious string) {
	t.Helper()
	for which, call := range map[string]func(impl.Prog) ([]int, bool){"Brave": impl.Brave, "Cautious": impl.Cautious} {
		want := brave
		if which == "Cautious" {
			want = cautious
		}
		x, ok := call(p)
		if got := toldText(x, ok); got != want {
			t.Errorf("%s: %s(%+v) is %q, not %q", name, which, p, got, want)
		}
		if !impl.SetOk(x, max(p.Atoms, 0)) && len(x) > 0 {
			t.Errorf("%s: %s(%+v) = %v, which is no set", name, which, p, x)
		}
	}
}

func TestBraveAndCautious(t *testing.T) {
	three := []impl.Rule{plain(1, -2, -3), plain(2, -1, -3), plain(3, -1, -2)}
	for _, c := range []struct {
		name     string
		rules    []impl.Rule
		brave    string
		cautious string
	}{
		{"no rules", nil, "", ""},
		{"facts", []impl.Rule{plain(3), plain(1)}, "1 3", "1 3"},
		{"a fact of the last atom", []impl.Rule{plain(5)}, "5", "5"},
		{"all atoms", []impl.Rule{plain(1), plain(2), plain(3), plain(4), plain(5)}, "1 2 3 4 5", "1 2 3 4 5"},
		{"one answer", []impl.Rule{plain(1), plain(2, -3), plain(4, 1, -2)}, "1 2", "1 2"},
		{"one answer without an atom", loop(1, 2), "", ""},
		{"an odd circle", []impl.Rule{plain(1, -1)}, noAnswers, noAnswers},
		{"an odd circle beside facts", []impl.Rule{plain(2), plain(1, -1)}, noAnswers, noAnswers},
		{"a constraint of no literal", []impl.Rule{choice([]int{1, 2}), constraint()}, noAnswers, noAnswers},
		{"a constraint of each answer", []impl.Rule{choice([]int{1}), constraint(1), constraint(-1)}, noAnswers, noAnswers},
		{"a constraint leaves the empty set", []impl.Rule{choice([]int{1}), constraint(1)}, "", ""},
		{"a constraint leaves one atom", []impl.Rule{choice([]int{1}), constraint(-1)}, "1", "1"},
		{"either of two", either(1, 2), "1 2", ""},
		{"each of three but for the others", three, "1 2 3", ""},
		{"what comes of each of three", with(three, plain(4, 1), plain(4, 2), plain(4, 3), plain(5, 4, -1)), "1 2 3 4 5", "4"},
		{"what comes of two of three", with(three, plain(4, 1), plain(4, 3)), "1 2 3 4", ""},
		{"either of two beside a fact", with(either(1, 3), plain(2)), "1 2 3", "2"},
		{"either of two, and one that breaks", with(either(1, 3), constraint(3)), "1", "1"},
		{"either of two, and both break", with(either(1, 3), constraint(3), constraint(1)), noAnswers, noAnswers},
		{"the last answer lacks what all others have", []impl.Rule{choice([]int{5}), plain(1, -5)}, "1 5", ""},
		{"the first answer alone has it", []impl.Rule{choice([]int{4, 5}), plain(1, -4, -5)}, "1 4 5", ""},
		{"the middle ones alone have it", []impl.Rule{choice([]int{4, 5}), plain(1, 4, -5), plain(1, -4, 5)}, "1 4 5", ""},
		{"the middle one alone lacks it", []impl.Rule{choice([]int{4, 5}), constraint(4, 5), plain(1, -4), plain(1, 5)}, "1 4 5", ""},
		{"a choice", []impl.Rule{choice([]int{2, 4})}, "2 4", ""},
		{"a choice with one at least", []impl.Rule{choice([]int{2, 4}), constraint(-2, -4)}, "2 4", ""},
		{"a choice with a fact of it", []impl.Rule{choice([]int{2, 4}), plain(4)}, "2 4", "4"},
		{"a choice that may not be taken", []impl.Rule{choice([]int{2, 4}, 1), choice([]int{1}), constraint(1)}, "", ""},
		{"a choice that must be taken", []impl.Rule{choice([]int{2, 4}), constraint(-2), constraint(-4)}, "2 4", "2 4"},
		{"two of three by weights", []impl.Rule{choice([]int{1, 2, 3}), weighed(nil, 3, body(1, 2, 3)...), weighed(nil, 2, body(-1, -2, -3)...), weighed([]int{4}, 1, body(1, 2)...)}, "1 2 3 4", "4"},
		{"Bound 0", []impl.Rule{weighed([]int{2}, 0)}, "2", "2"},
		{"a circle through a choice", with(loop(1, 2), choice([]int{2})), "1 2", ""},
		{"an unfounded atom is not brave", with(loop(1, 2), plain(3, -1)), "3", "3"},
	} {
		checkTold(t, c.name, impl.Prog{Atoms: 5, Rules: c.rules}, c.brave, c.cautious)
	}
}

func TestBraveAndCautiousOfNoAtoms(t *testing.T) {
	for name, p := range map[string]impl.Prog{
		"the zero program":     {},
		"empty lists":          {Rules: []impl.Rule{}, Exts: []impl.Ext{}, Assume: []int{}},
		"ProjOn":               {ProjOn: true},
		"Bound above 0":        {Rules: []impl.Rule{weighed(nil, 1)}},
		"Shows without a Cond": {Shows: []impl.Show{{Text: "a"}}},
	} {
		checkTold(t, name, p, "", "")
	}
	checkTold(t, "a constraint of no literal", impl.Prog{Rules: []impl.Rule{constraint()}}, noAnswers, noAnswers)
	checkTold(t, "Bound 0", impl.Prog{Rules: []impl.Rule{weighed(nil, 0)}}, noAnswers, noAnswers)
}

func TestBraveAndCautiousOfExts(t *testing.T) {
	for _, c := range []struct {
		name     string
		rules    []impl.Rule
		exts     []impl.Ext
		brave    string
		cautious string
	}{
		{"V 0", nil, []impl.Ext{{Atom: 2}}, "2", ""},
		{"V 1", nil, []impl.Ext{{Atom: 2, V: 1}}, "2", "2"},
		{"V 2", nil, []impl.Ext{{Atom: 2, V: 2}}, "", ""},
		{"each V", nil, allExts(), "1 2", "2"},
		{"V 0, and what hangs on it", []impl.Rule{plain(2, 1), plain(3, -1)}, []impl.Ext{{Atom: 1}}, "1 2 3", ""},
		{"V 0, and what hangs on both", []impl.Rule{plain(2, 1), plain(2, -1)}, []impl.Ext{{Atom: 1}}, "1 2", "2"},
		{"V 1, and what hangs on it", []impl.Rule{plain(2, 1), plain(3, -1)}, []impl.Ext{{Atom: 1, V: 1}}, "1 2", "1 2"},
		{"V 2, and what hangs on it", []impl.Rule{plain(2, 1), plain(3, -1)}, []impl.Ext{{Atom: 1, V: 2}}, "3", "3"},
		{"V 0 of a head", []impl.Rule{plain(2, 1)}, []impl.Ext{{Atom: 2}}, "", ""},
		{"V 1 of a head", []impl.Rule{plain(2, 1)}, []impl.Ext{{Atom: 2, V: 1}}, "", ""},
		{"V 2 of a head", []impl.Rule{plain(2, -1)}, []impl.Ext{{Atom: 2, V: 2}}, "2", "2"},
		{"V 0 with a constraint", []impl.Rule{constraint(-2)}, []impl.Ext{{Atom: 2}}, "2", "2"},
		{"V 2 with a constraint", []impl.Rule{constraint(-2)}, []impl.Ext{{Atom: 2, V: 2}}, noAnswers, noAnswers},
	} {
		checkTold(t, c.name, impl.Prog{Atoms: 3, Rules: c.rules, Exts: c.exts}, c.brave, c.cautious)
	}
}

func TestBraveAndCautiousOfWhatIsAssumed(t *testing.T) {
	some := []impl.Rule{choice([]int{1, 2})}
	for _, c := range []struct {
		name     string
		rules    []impl.Rule
		assume   []int
		brave    string
		cautious string
	}{
		{"above 0", some, []int{1}, "1 2", "1"},
		{"below 0", some, []int{-1}, "2", ""},
		{"both atoms", some, []int{1, 2}, "1 2", "1 2"},
		{"one of each sign", some, []int{-1, 2}, "2", "2"},
		{"both of an atom", some, []int{2, -2}, noAnswers, noAnswers},
		{"what nothing gives", some, []int{3}, noAnswers, noAnswers},
		{"what nothing gives, below 0", some, []int{-3}, "1 2", ""},
		{"is no fact", loop(1, 2), []int{1}, noAnswers, noAnswers},
		{"of a circle", either(1, 2), []int{2}, "2", "2"},
		{"of a circle, below 0", either(1, 2), []int{-2}, "1", "1"},
		{"MaxBody literals", some, times(20, -2), "1", ""},
	} {
		checkTold(t, c.name, impl.Prog{Atoms: 3, Rules: c.rules, Assume: c.assume}, c.brave, c.cautious)
	}
}

// TestBraveAndCautiousOfMaxAtoms: what Project hides, Levels and Shows change nothing.
func TestBraveAndCautiousOfMaxAtoms(t *testing.T) {
	all := textOf(impl.SetOf(4095))
	checkTold(t, "a choice of all", open(12), all, "")
	checkTold(t, "no rules", impl.Prog{Atoms: 12}, "", "")
	checkTold(t, "an even circle", impl.Prog{Atoms: 12, Rules: evenCircle()}, all, "")
	most := open(12)
	most.Rules = append(most.Rules, weighed(nil, 2, body(-1, -2, -3, -4, -5, -6, -7, -8, -9, -10, -11, -12)...))
	checkTold(t, "all but one at least", most, all, "")
	most.Rules = append(most.Rules, constraint(1))
	checkTold(t, "all but the first", most, textOf(impl.SetOf(4094)), textOf(impl.SetOf(4094)))
	facts := impl.Prog{Atoms: 12}
	for a := 1; a <= 12; a++ {
		facts.Rules = append(facts.Rules, plain(a))
	}
	checkTold(t, "facts", facts, all, all)
	hidden := impl.Prog{
		Atoms:  4,
		Rules:  []impl.Rule{plain(1), choice([]int{2, 3})},
		ProjOn: true,
		Levels: []impl.Level{{P: 2, Lits: []impl.WLit{wl(2, 5), wl(-3, 7)}}},
		Shows:  []impl.Show{{Text: "a", Cond: []int{3}}},
	}
	checkTold(t, "an empty Project", hidden, "1 2 3", "1")
	hidden.Project = []int{3, 4}
	checkTold(t, "a Project", hidden, "1 2 3", "1")
}

// checkNoConsequences fails where something is told of answers that are not there, with values of many lengths.
func checkNoConsequences(t *testing.T, name string, p impl.Prog) {
	t.Helper()
	checkTold(t, name, p, noAnswers, noAnswers)
	if sets := impl.Projected(p); len(sets) != 0 {
		t.Errorf("%s: Projected(%+v) = %v", name, p, sets)
	}
	for n := range 14 {
		for value := range 3 {
			checkNoNarrow(t, name, p, times(n, value))
		}
	}
}

// checkBlind fails where something is seen or shown of any list.
func checkBlind(t *testing.T, name string, p impl.Prog) {
	t.Helper()
	for _, x := range append(slices.Clone(lists), []int{2, 9}, []int{1, 2, 6}) {
		if seen, texts := impl.Seen(p, x), impl.Shown(p, x); len(seen) != 0 || len(texts) != 0 {
			t.Errorf("%s: Seen(%+v, %v) = %v, Shown %q", name, p, x, seen, texts)
		}
	}
}

// TestConsequencesOfNoProgram: of each something would be told, seen and shown, but for one change.
func TestConsequencesOfNoProgram(t *testing.T) {
	whole := wholeProg()
	whole.Rules = append(whole.Rules, plain(9), plain(1))
	whole.Exts = []impl.Ext{{Atom: 5, V: 2}, {Atom: 8}}
	whole.Assume = []int{9, 1}
	checkTold(t, "without a change", whole, "1 2 3 8 9", "1 9")
	checkProjected(t, "without a change", whole, "1")
	checkSeen(t, "without a change", whole, []int{1, 2, 6}, "1 6")
	checkShown(t, "without a change", whole, []int{2, 9}, "ab 12")
	checkNarrow(t, "without a change", whole, "?????????", "+??----?+")
	for name, change := range noProgs() {
		p := deepCopy(whole)
		change(&p)
		checkNoConsequences(t, name, p)
		checkBlind(t, name, p)
	}
	for _, p := range append(odd(), atLimits(), impl.Prog{Atoms: -1}, impl.Prog{Atoms: 13}, impl.Prog{Atoms: math.MinInt}, impl.Prog{Atoms: math.MaxInt}) {
		if _, ok := impl.Fold(p); !ok {
			checkNoConsequences(t, "an odd program", p)
		}
		if !impl.ProgOk(p) {
			checkBlind(t, "an odd program", p)
		}
	}
}

// TestConsequencesAndRoom: with just MaxRules rules of Fold there are answers, with one more there are none; what is seen and shown of a set asks for no room.
func TestConsequencesAndRoom(t *testing.T) {
	free := []impl.Ext{{Atom: 1}}
	for _, c := range []struct {
		name     string
		rules    int
		exts     []impl.Ext
		assume   []int
		brave    string
		cautious string
		narrow   string
	}{
		{"MaxRules rules", 60, nil, nil, "12", "12", "-----------+"},
		{"MaxRules rules with V 0", 59, free, nil, "1 12", "12", "?----------+"},
		{"one more with V 0", 60, free, nil, noAnswers, noAnswers, ""},
		{"MaxRules rules with V 1", 59, []impl.Ext{{Atom: 1, V: 1}}, nil, "1 12", "1 12", "+----------+"},
		{"one more with V 1", 60, []impl.Ext{{Atom: 1, V: 1}}, nil, noAnswers, noAnswers, ""},
		{"V 2 is no rule", 60, []impl.Ext{{Atom: 1, V: 2}}, nil, "12", "12", "-----------+"},
		{"an external head is no rule", 60, []impl.Ext{{Atom: 12}}, nil, "12", "12", "-----------+"},
		{"MaxRules rules with what is assumed", 58, nil, []int{12, -1}, "12", "12", "-----------+"},
		{"one more with what is assumed", 59, nil, []int{12, -1}, noAnswers, noAnswers, ""},
		{"MaxRules rules with both", 57, free, []int{12, -2}, "1 12", "12", "?----------+"},
		{"one more with both", 58, free, []int{12, -2}, noAnswers, noAnswers, ""},
	} {
		p := impl.Prog{Atoms: 12, Rules: times(c.rules, plain(12)), Exts: c.exts, Assume: c.assume, ProjOn: true, Project: []int{2, 12}}
		p.Shows = []impl.Show{{Text: "last", Cond: []int{12}}, {Text: "first", Cond: []int{1}}}
		checkTold(t, c.name, p, c.brave, c.cautious)
		if c.narrow == "" {
			checkNoConsequences(t, c.name, p)
		} else {
			checkNarrow(t, c.name, p, strings.Repeat("?", 12), c.narrow)
			checkProjected(t, c.name, p, "12")
		}
		checkSeen(t, c.name, p, []int{1, 2, 12}, "2 12")
		checkShown(t, c.name, p, []int{12}, "last")
	}
	full := atLimits()
	checkNoConsequences(t, "a program at its limits", full)
	checkSeen(t, "a program at its limits", full, []int{3, 12}, "3 12")
	label := strings.Repeat("!~", 10)
	checkShown(t, "a program at its limits", full, []int{3}, "a")
	checkShown(t, "a program at its limits", full, []int{12, 3}, "a"+strings.Repeat(" "+label, 19))
}

func checkSeen(t *testing.T, name string, p impl.Prog, x []int, want string) {
	t.Helper()
	got := impl.Seen(p, x)
	if textOf(got) != want {
		t.Errorf("%s: Seen(%+v, %v) = %v, not %s", name, p, x, got, want)
	}
	if !impl.SetOk(got, p.Atoms) && len(got) > 0 {
		t.Errorf("%s: Seen(%+v, %v) = %v, which is no set", name, p, x, got)
	}
}

func TestSeen(t *testing.T) {
	some := []int{2, 3, 5}
	for _, c := range []struct {
		name    string
		atoms   int
		on      bool
		project []int
		x       []int
		want    string
	}{
		{"without ProjOn", 6, false, nil, []int{1, 3, 6}, "1 3 6"},
		{"without ProjOn, an empty list", 6, false, []int{}, []int{1, 3, 6}, "1 3 6"},
		{"without ProjOn, nothing", 6, false, nil, nil, ""},
		{"without ProjOn, all", 6, false, nil, []int{1, 2, 3, 4, 5, 6}, "1 2 3 4 5 6"},
		{"without ProjOn, above Atoms", 6, false, nil, []int{2, 6, 7, 12}, "2 6"},
		{"without ProjOn, above Atoms alone", 6, false, nil, []int{7, 12}, ""},
		{"without ProjOn, falling", 6, false, nil, []int{6, 4, 1}, "1 4 6"},
		{"without ProjOn, an atom twice", 6, false, nil, []int{4, 1, 4, 4, 1}, "1 4"},
		{"without ProjOn, no atoms", 6, false, nil, []int{0, 13, -2, math.MinInt, math.MaxInt, 1<<32 + 2, 258}, ""},
		{"without ProjOn, no atoms among some", 6, false, nil, []int{0, 5, 13, 2, -3, 77}, "2 5"},
		{"an empty Project", 6, true, nil, []int{1, 3, 6}, ""},
		{"an empty Project that is a list", 6, true, []int{}, []int{1, 2, 3, 4, 5, 6}, ""},
		{"an empty Project, nothing", 6, true, nil, nil, ""},
		{"an empty Project, above Atoms", 6, true, nil, []int{7}, ""},
		{"a Project", 6, true, some, []int{1, 3, 5, 6}, "3 5"},
		{"a Project, just that", 6, true, some, some, "2 3 5"},
		{"a Project, all", 6, true, some, []int{1, 2, 3, 4, 5, 6}, "2 3 5"},
		{"a Project, nothing", 6, true, some, nil, ""},
		{"a Project, none of it", 6, true, some, []int{1, 4, 6}, ""},
		{"a Project, above Atoms", 6, true, some, []int{5, 7, 12}, "5"},
		{"a Project, falling", 6, true, some, []int{6, 5, 3, 1}, "3 5"},
		{"a Project, an atom twice", 6, true, some, []int{5, 2, 5, 1, 2, 1}, "2 5"},
		{"a Project, no atoms among some", 6, true, some, []int{math.MinInt, 5, 0, -3, 13, 1<<32 + 3, 1}, "5"},
		{"a Project of one", 6, true, []int{6}, []int{1, 6}, "6"},
		{"a Project of all", 6, true, []int{1, 2, 3, 4, 5, 6}, []int{2, 6, 7}, "2 6"},
		{"0 atoms", 0, false, nil, []int{1, 2, 12}, ""},
		{"0 atoms, ProjOn", 0, true, nil, []int{1, 2, 12}, ""},
		{"MaxAtoms", 12, false, nil, impl.SetOf(4095), textOf(impl.SetOf(4095))},
		{"MaxAtoms, falling", 12, false, nil, []int{13, 12, 11, 2, 1, 0}, "1 2 11 12"},
		{"MaxAtoms, a Project of the ends", 12, true, []int{1, 12}, impl.SetOf(4095), "1 12"},
	} {
		p := impl.Prog{Atoms: c.atoms, ProjOn: c.on, Project: c.project}
		checkSeen(t, c.name, p, c.x, c.want)
		// Nothing else of a program is asked, nor whether the set is an answer.
		p.Rules = []impl.Rule{constraint()}
		p.Shows = []impl.Show{{Text: "a"}}
		checkSeen(t, c.name+", no answer", p, c.x, c.want)
		if c.atoms > 3 {
			p.Exts = []impl.Ext{{Atom: 3, V: 2}}
			p.Assume = []int{-3}
			checkSeen(t, c.name+", external and assumed", p, c.x, c.want)
		}
	}
}

// checkProjected fails where Projected of p are others than those that are wanted.
func checkProjected(t *testing.T, name string, p impl.Prog, want ...string) {
	t.Helper()
	sets := impl.Projected(p)
	if got := textsOf(sets); !slices.Equal(got, want) {
		t.Errorf("%s: Projected(%+v) = %q, not %q", name, p, got, want)
	}
	for _, s := range sets {
		if !impl.SetOk(s.A, p.Atoms) {
			t.Errorf("%s: Projected(%+v) has %v, which is no set", name, p, s.A)
		}
	}
}

func TestProjected(t *testing.T) {
	three := []impl.Rule{plain(1, -2, -3), plain(2, -1, -3), plain(3, -1, -2)}
	all := []impl.Rule{choice([]int{1, 2, 3, 4})}
	apart := []impl.Rule{choice([]int{3, 4}), constraint(3, 4), constraint(-3, -4), plain(2, 3), plain(1, 4)}
	for _, c := range []struct {
		name    string
		rules   []impl.Rule
		on      bool
		project []int
		want    []string
	}{
		{"without ProjOn", three, false, nil, []string{"1", "2", "3"}},
		{"without ProjOn, one answer", []impl.Rule{plain(2)}, false, nil, []string{"2"}},
		{"without ProjOn, the empty set", nil, false, nil, []string{""}},
		{"without ProjOn, no answers", []impl.Rule{constraint()}, false, nil, nil},
		{"without ProjOn, an empty list", either(1, 4), false, []int{}, []string{"1", "4"}},
		{"an empty Project", three, true, nil, []string{""}},
		{"an empty Project, one answer", []impl.Rule{plain(2)}, true, nil, []string{""}},
		{"an empty Project, all sets", all, true, []int{}, []string{""}},
		{"an empty Project, the empty set", nil, true, nil, []string{""}},
		{"an empty Project, no answers", []impl.Rule{plain(2), constraint()}, true, nil, nil},
		{"a Project, no answers", []impl.Rule{plain(1, -1)}, true, []int{1, 2}, nil},
		{"one atom of three", three, true, []int{1}, []string{"", "1"}},
		{"another one of three", three, true, []int{3}, []string{"", "3"}},
		{"two atoms of three", three, true, []int{1, 3}, []string{"", "1", "3"}},
		{"three of three", three, true, []int{1, 2, 3}, []string{"1", "2", "3"}},
		{"an atom that none has", three, true, []int{4}, []string{""}},
		{"an atom that all have", with(three, plain(4, -5)), true, []int{4}, []string{"4"}},
		{"an atom that all have, and one that none has", with(three, plain(4)), true, []int{4, 5}, []string{"4"}},
		{"an atom that all have, and one that some have", with(three, plain(4)), true, []int{2, 4}, []string{"4", "2 4"}},
		{"the ends of all sets", all, true, []int{1, 4}, []string{"", "1", "4", "1 4"}},
		{"the middle of all sets", all, true, []int{2, 3}, []string{"", "2", "3", "2 3"}},
		{"the last of all sets", all, true, []int{4, 5}, []string{"", "4"}},
		{"all of all sets", []impl.Rule{choice([]int{1, 2, 3})}, true, []int{1, 2, 3, 4, 5}, []string{"", "1", "2", "1 2", "3", "1 3", "2 3", "1 2 3"}},
		{"another order than that of the answers", apart, true, []int{1, 2}, []string{"1", "2"}},
		{"the order of the answers", apart, true, []int{3, 4}, []string{"3", "4"}},
		{"the order of the answers, without ProjOn", apart, false, nil, []string{"2 3", "1 4"}},
		{"the greater number of less atoms", []impl.Rule{choice([]int{5}), plain(1, -5), plain(2, -5), plain(3, 5)}, true, []int{1, 2, 3}, []string{"1 2", "3"}},
		{"the greater number first among the answers", []impl.Rule{choice([]int{5}), plain(3, -5), plain(1, 5), plain(2, 5)}, true, []int{1, 2, 3}, []string{"1 2", "3"}},
		{"alike ones apart among the answers", []impl.Rule{choice([]int{4, 5}), plain(1, 4, -5), plain(1, -4, 5), plain(2, 4, 5), plain(2, -4, -5)}, true, []int{1, 2}, []string{"1", "2"}},
	} {
		checkProjected(t, c.name, impl.Prog{Atoms: 5, Rules: c.rules, ProjOn: c.on, Project: c.project}, c.want...)
	}
}

func TestProjectedOfNoAtoms(t *testing.T) {
	checkProjected(t, "the zero program", impl.Prog{}, "")
	checkProjected(t, "ProjOn", impl.Prog{ProjOn: true}, "")
	checkProjected(t, "no answers", impl.Prog{Rules: []impl.Rule{constraint()}})
	checkProjected(t, "no answers, ProjOn", impl.Prog{ProjOn: true, Rules: []impl.Rule{constraint()}})
}

func TestProjectedOfExtsAndWhatIsAssumed(t *testing.T) {
	for _, c := range []struct {
		name    string
		exts    []impl.Ext
		assume  []int
		project []int
		want    []string
	}{
		{"V 0", []impl.Ext{{Atom: 2}}, nil, []int{1, 2}, []string{"1", "2"}},
		{"V 0 that is not seen", []impl.Ext{{Atom: 2}}, nil, []int{1}, []string{"", "1"}},
		{"V 0, and what is assumed", []impl.Ext{{Atom: 2}}, []int{2}, []int{1, 2}, []string{"2"}},
		{"V 1", []impl.Ext{{Atom: 2, V: 1}}, nil, []int{1, 2}, []string{"2"}},
		{"V 2", []impl.Ext{{Atom: 2, V: 2}}, nil, []int{1, 2}, []string{"1"}},
		{"V 1, and what breaks it", []impl.Ext{{Atom: 2, V: 1}}, []int{-2}, []int{1, 2}, nil},
		{"assumed alone", nil, []int{-3}, []int{1, 2, 3}, []string{"1"}},
		{"assumed alone, no answers", nil, []int{2}, []int{1, 2, 3}, nil},
		{"each V", []impl.Ext{{Atom: 2, V: 2}, {Atom: 3, V: 1}, {Atom: 4}}, nil, []int{1, 4}, []string{"1", "1 4"}},
	} {
		p := impl.Prog{Atoms: 4, Rules: []impl.Rule{plain(1, -2)}, ProjOn: true, Project: c.project, Exts: c.exts, Assume: c.assume}
		checkProjected(t, c.name, p, c.want...)
	}
}

// TestProjectedOfMaxAtoms: of all sets all sets of what is seen, in their order.
func TestProjectedOfMaxAtoms(t *testing.T) {
	p := open(12)
	for _, num := range []int{0, 1, 2048, 2049, 1365, 2730, 4094, 4095} {
		p.ProjOn, p.Project = true, impl.SetOf(num)
		var want []string
		for some := range 4096 {
			if some&^num == 0 {
				want = append(want, textOf(impl.SetOf(some)))
			}
		}
		checkProjected(t, "MaxAtoms", p, want...)
	}
	p.ProjOn, p.Project = false, nil
	if nums := numsOf(impl.Projected(p)); len(nums) != 4096 || !slices.Equal(nums, numsOf(impl.Answers(p))) {
		t.Errorf("without ProjOn %d sets of all are seen", len(nums))
	}
}

// checkShown fails where other texts are shown than those that are wanted, told with blanks between.
func checkShown(t *testing.T, name string, p impl.Prog, x []int, want string) {
	t.Helper()
	if got := strings.Join(impl.Shown(p, x), " "); got != want {
		t.Errorf("%s: Shown(%+v, %v) is %q, not %q", name, p, x, got, want)
	}
}

func TestShown(t *testing.T) {
	one := func(cond ...int) []impl.Show { return []impl.Show{{Text: "a", Cond: cond}} }
	abc := []impl.Show{{Text: "c", Cond: []int{3}}, {Text: "a", Cond: []int{1}}, {Text: "b", Cond: []int{2}}}
	for _, c := range []struct {
		name  string
		shows []impl.Show
		x     []int
		want  string
	}{
		{"none", nil, []int{1, 2}, ""},
		{"an empty list", []impl.Show{}, []int{1, 2}, ""},
		{"no literals", one(), []int{1}, "a"},
		{"no literals, the empty set", one(), nil, "a"},
		{"above 0, that holds", one(2), []int{1, 2}, "a"},
		{"above 0, that does not", one(2), []int{1, 3}, ""},
		{"above 0, the empty set", one(2), nil, ""},
		{"below 0, that holds", one(-2), []int{1, 3}, "a"},
		{"below 0, that does not", one(-2), []int{1, 2}, ""},
		{"below 0, the empty set", one(-2), nil, "a"},
		{"the last atom", one(5), []int{5}, "a"},
		{"the last atom, below 0", one(-5), []int{5}, ""},
		{"both hold", one(1, -2), []int{1}, "a"},
		{"the first alone holds", one(1, -2), []int{1, 2}, ""},
		{"the last alone holds", one(1, -2), nil, ""},
		{"neither holds", one(1, -2), []int{2}, ""},
		{"all above 0", one(1, 2, 3), []int{1, 2, 3}, "a"},
		{"all but the middle", one(1, 2, 3), []int{1, 3}, ""},
		{"all below 0", one(-1, -2, -3), []int{4, 5}, "a"},
		{"all below 0 but the last", one(-1, -2, -3), []int{3}, ""},
		{"a literal twice", one(2, 2), []int{2}, "a"},
		{"both of an atom", one(2, -2), []int{2}, ""},
		{"both of an atom, the empty set", one(2, -2), nil, ""},
		{"MaxBody literals", one(append(times(19, 1), -2)...), []int{1}, "a"},
		{"MaxBody literals, the last not", one(append(times(19, 1), -2)...), []int{1, 2}, ""},
		{"the order of Shows", abc, []int{1, 2, 3}, "c a b"},
		{"the first left out", abc, []int{1, 2}, "a b"},
		{"the middle left out", abc, []int{2, 3}, "c b"},
		{"the last left out", abc, []int{1, 3}, "c a"},
		{"all left out", abc, []int{4}, ""},
		{"two of one Text", []impl.Show{{Text: "a", Cond: []int{1}}, {Text: "a", Cond: []int{2}}}, []int{1, 2}, "a a"},
		{"two of one Text, the first", []impl.Show{{Text: "a", Cond: []int{1}}, {Text: "a", Cond: []int{2}}}, []int{1}, "a"},
		{"two of one Text, the last", []impl.Show{{Text: "a", Cond: []int{1}}, {Text: "a", Cond: []int{2}}}, []int{2}, "a"},
		{"two of one Text, another between", []impl.Show{{Text: "a"}, {Text: "b"}, {Text: "a"}}, nil, "a b a"},
		{"two alike", []impl.Show{{Text: "a", Cond: []int{1}}, {Text: "a", Cond: []int{1}}}, []int{1}, "a a"},
		{"all kinds of signs", []impl.Show{{Text: "p(1,-2)"}, {Text: "!~\"%\\"}, {Text: "0"}}, nil, "p(1,-2) !~\"%\\ 0"},
		{"MaxShows", times(20, impl.Show{Text: "ab", Cond: []int{-1}}), nil, strings.Repeat(" ab", 20)[1:]},
		{"MaxLabel bytes", []impl.Show{{Text: "abcdefghijklmnopqrst", Cond: []int{1}}}, []int{1}, "abcdefghijklmnopqrst"},
		{"falling", abc, []int{3, 1}, "c a"},
		{"an atom twice", abc, []int{2, 1, 2, 1}, "a b"},
		{"falling, below 0", one(-3, -1), []int{3, 1}, ""},
		{"falling, below 0, one lacking", one(-2, 1), []int{3, 1}, "a"},
		{"no atoms", one(-1, -2), []int{0, -1, 13, math.MinInt, math.MaxInt, 1<<32 + 1, 258}, "a"},
		{"no atoms above 0", one(1), []int{0, -1, 13, math.MinInt, math.MaxInt, 1<<32 + 1, 257}, ""},
		{"no atoms among some", one(1, -2), []int{-2, 13, 1, 0}, "a"},
		{"atoms above Atoms", one(1, -2), []int{1, 6, 12}, "a"},
		{"atoms above Atoms alone", one(-1), []int{6, 12}, "a"},
	} {
		p := impl.Prog{Atoms: 5, Shows: c.shows}
		checkShown(t, c.name, p, c.x, c.want)
		// Whether the set is an answer, and what is seen of it, is not asked.
		p.Rules = []impl.Rule{constraint(), plain(2)}
		p.ProjOn, p.Project = true, []int{4}
		p.Exts, p.Assume = []impl.Ext{{Atom: 1, V: 1}, {Atom: 3, V: 2}}, []int{-1}
		checkShown(t, c.name+", no answer", p, c.x, c.want)
	}
	checkShown(t, "0 atoms", impl.Prog{Shows: []impl.Show{{Text: "a"}, {Text: "b"}}}, []int{1}, "a b")
	checkShown(t, "0 atoms, none", impl.Prog{}, []int{1}, "")
	checkShown(t, "MaxAtoms", impl.Prog{Atoms: 12, Shows: one(12, -11)}, []int{12, 13}, "a")
	checkShown(t, "MaxAtoms, not so", impl.Prog{Atoms: 12, Shows: one(12, -11)}, impl.SetOf(4095), "")
}

func checkNarrow(t *testing.T, name string, p impl.Prog, v, want string) {
	t.Helper()
	got, ok := impl.Narrow(p, valuesOf(v))
	if want == noAnswers {
		if ok || len(got) != 0 {
			t.Errorf("%s: Narrow(%+v, %s) = %v, %v, and no answer agrees", name, p, v, got, ok)
		}
	} else if !ok || valuesText(got) != want {
		t.Errorf("%s: Narrow(%+v, %s) = %s, %v, not %s", name, p, v, valuesText(got), ok, want)
	}
}

func checkNoNarrow(t *testing.T, name string, p impl.Prog, v []int) {
	t.Helper()
	if got, ok := impl.Narrow(p, v); ok || len(got) != 0 {
		t.Errorf("%s: Narrow(%+v, %v) = %v, %v", name, p, v, got, ok)
	}
}

type narrowCase struct {
	name  string
	rules []impl.Rule
	v     string
	want  string
}

func checkNarrows(t *testing.T, cases []narrowCase) {
	t.Helper()
	for _, c := range cases {
		checkNarrow(t, c.name, impl.Prog{Atoms: len(c.v), Rules: c.rules}, c.v, c.want)
	}
}

func TestNarrow(t *testing.T) {
	three := []impl.Rule{plain(1, -2, -3), plain(2, -1, -3), plain(3, -1, -2)}
	pairs := []impl.Rule{choice([]int{1, 2, 3}), weighed(nil, 3, body(1, 2, 3)...), weighed(nil, 2, body(-1, -2, -3)...)}
	checkNarrows(t, []narrowCase{
		{"no rules", nil, "???", "---"},
		{"no rules, IsFalse", nil, "-?-", "---"},
		{"no rules, IsTrue", nil, "?+?", noAnswers},
		{"facts", []impl.Rule{plain(1), plain(3)}, "???", "+-+"},
		{"facts, all known", []impl.Rule{plain(1), plain(3)}, "+-+", "+-+"},
		{"facts, one IsFalse", []impl.Rule{plain(1), plain(3)}, "-??", noAnswers},
		{"facts, one that none has", []impl.Rule{plain(1), plain(3)}, "?+?", noAnswers},
		{"no answers", []impl.Rule{plain(1, -1)}, "??", noAnswers},
		{"no answers, all known", []impl.Rule{choice([]int{1}), constraint()}, "+-", noAnswers},
		{"open", []impl.Rule{choice([]int{1, 2})}, "??", "??"},
		{"open, IsTrue", []impl.Rule{choice([]int{1, 2})}, "+?", "+?"},
		{"open, IsFalse", []impl.Rule{choice([]int{1, 2})}, "?-", "?-"},
		{"open, all known", []impl.Rule{choice([]int{1, 2})}, "+-", "+-"},
		{"open, all IsTrue", []impl.Rule{choice([]int{1, 2})}, "++", "++"},
		{"open, all IsFalse", []impl.Rule{choice([]int{1, 2})}, "--", "--"},
		{"either of two", either(1, 2), "??", "??"},
		{"either of two, IsTrue", either(1, 2), "+?", "+-"},
		{"either of two, IsFalse", either(1, 2), "-?", "-+"},
		{"either of two, both", either(1, 2), "++", noAnswers},
		{"either of two, neither", either(1, 2), "--", noAnswers},
		{"one of three", three, "???", "???"},
		{"one of three, IsTrue", three, "?+?", "-+-"},
		{"one of three, IsFalse", three, "?-?", "?-?"},
		{"one of three, two IsFalse", three, "?--", "+--"},
		{"one of three, all IsFalse", three, "---", noAnswers},
		{"one of three, two IsTrue", three, "++?", noAnswers},
		{"what all have", with(three, plain(4, 1), plain(4, 2), plain(4, 3)), "????", "???+"},
		{"what none has", with(three, plain(4, 1, 2)), "????", "???-"},
		{"what two of three have", with(three, plain(4, 1), plain(4, 3)), "????", "????"},
		{"what two of three have, IsTrue", with(three, plain(4, 1), plain(4, 3)), "???+", "?-?+"},
		{"what two of three have, IsFalse", with(three, plain(4, 1), plain(4, 3)), "???-", "-+--"},
		{"all, none and some at once", with(three, plain(4, 1), plain(4, 2), plain(5, 4, -1), plain(6, 7), plain(8, -6)), "??-?????", "??-+?--+"},
		{"two of three", pairs, "???", "???"},
		{"two of three, one IsFalse", pairs, "?-?", "+-+"},
		{"two of three, one IsTrue", pairs, "+??", "+??"},
		{"two of three, two IsTrue", pairs, "+?+", "+-+"},
		{"two of three, three IsTrue", pairs, "+++", noAnswers},
		{"a circle", loop(1, 2), "??", "--"},
		{"a circle, IsTrue", loop(1, 2), "+?", noAnswers},
		{"a circle through a choice", with(loop(1, 2), choice([]int{2})), "+?", "++"},
		{"a circle through a choice, IsFalse", with(loop(1, 2), choice([]int{2})), "?-", "--"},
	})
}

// TestNarrowTellsMore: more than Propagate does, which looks at one rule at a time.
func TestNarrowTellsMore(t *testing.T) {
	checkAllCome(t, []comesCase{
		{"told backwards, by Propagate", []impl.Rule{choice([]int{1, 2}), constraint(-1)}, "??", "??"},
		{"an odd circle, by Propagate", []impl.Rule{plain(1, -2), plain(2, -3), plain(3, -1)}, "???", "???"},
		{"by cases, by Propagate", with(either(1, 2), plain(3, 1), plain(3, 2)), "???", "???"},
	})
	checkNarrows(t, []narrowCase{
		{"told backwards", []impl.Rule{choice([]int{1, 2}), constraint(-1)}, "??", "+?"},
		{"told backwards, IsFalse", []impl.Rule{choice([]int{1, 2}), constraint(-1)}, "-?", noAnswers},
		{"told backwards by a head", []impl.Rule{choice([]int{2}), plain(1, 2)}, "-?", "--"},
		{"told backwards by the only rule", []impl.Rule{choice([]int{2}), plain(1, 2)}, "+?", "++"},
		{"an odd circle", []impl.Rule{plain(1, -2), plain(2, -3), plain(3, -1)}, "???", noAnswers},
		{"an odd circle hung on one", []impl.Rule{choice([]int{1}), plain(2, -2, 1)}, "??", "--"},
		{"by cases", with(either(1, 2), plain(3, 1), plain(3, 2)), "???", "??+"},
		{"by cases, IsFalse", with(either(1, 2), plain(3, 1), plain(3, 2)), "??-", noAnswers},
	})
}

func TestNarrowOfNoAtoms(t *testing.T) {
	for name, p := range map[string]impl.Prog{"the zero program": {}, "Bound above 0": {Rules: []impl.Rule{weighed(nil, 1)}}} {
		checkNarrow(t, name, p, "", "")
		checkNoNarrow(t, name, p, []int{0})
		if v, ok := impl.Narrow(p, []int{}); !ok || len(v) != 0 {
			t.Errorf("%s: Narrow of an empty list is %v, %v", name, v, ok)
		}
	}
	checkNarrow(t, "a constraint of no literal", impl.Prog{Rules: []impl.Rule{constraint()}}, "", noAnswers)
}

// TestNarrowOfNoValues: the answers of three open atoms agree with each list that is one of values.
func TestNarrowOfNoValues(t *testing.T) {
	three := open(3)
	checkNarrow(t, "values", three, "?+-", "?+-")
	for name, v := range map[string][]int{
		"none":                nil,
		"an empty list":       {},
		"one too few":         {1, 2},
		"one too many":        {0, 1, 2, 0},
		"as many as MaxAtoms": times(12, 0),
		"many":                times(1000, 0),
		"below 0":             {0, -1, 0},
		"below 0 at last":     {0, 0, -1},
		"above 2 at first":    {3, 0, 0},
		"above 2":             {1, 2, 3},
		"the least number":    {0, 0, math.MinInt},
		"the greatest number": {math.MaxInt, 0, 0},
		"of which a byte is":  {0, 256, 0},
		"of which 32 bits":    {0, 0, 1<<32 + 1},
	} {
		checkNoNarrow(t, name, three, v)
	}
	checkNoNarrow(t, "one less than MaxAtoms", open(12), times(11, 0))
	checkNoNarrow(t, "one more than MaxAtoms", open(12), times(13, 0))
}

func TestNarrowOfExtsAndWhatIsAssumed(t *testing.T) {
	hanging := []impl.Rule{plain(2, 1), plain(3, -1)}
	for _, c := range []struct {
		name   string
		rules  []impl.Rule
		exts   []impl.Ext
		assume []int
		v      string
		want   string
	}{
		{"V 0", nil, []impl.Ext{{Atom: 2}}, nil, "???", "-?-"},
		{"V 0, IsTrue", nil, []impl.Ext{{Atom: 2}}, nil, "?+?", "-+-"},
		{"V 0, IsFalse", nil, []impl.Ext{{Atom: 2}}, nil, "?-?", "---"},
		{"V 1", nil, []impl.Ext{{Atom: 2, V: 1}}, nil, "???", "-+-"},
		{"V 1, IsFalse", nil, []impl.Ext{{Atom: 2, V: 1}}, nil, "?-?", noAnswers},
		{"V 2", nil, []impl.Ext{{Atom: 2, V: 2}}, nil, "???", "---"},
		{"V 2, IsTrue", nil, []impl.Ext{{Atom: 2, V: 2}}, nil, "?+?", noAnswers},
		{"each V", nil, allExts(), nil, "???", "?+-"},
		{"V 0, and what hangs on it", hanging, []impl.Ext{{Atom: 1}}, nil, "???", "???"},
		{"V 0, known by what hangs on it", hanging, []impl.Ext{{Atom: 1}}, nil, "??-", "++-"},
		{"V 1, and what hangs on it", hanging, []impl.Ext{{Atom: 1, V: 1}}, nil, "???", "++-"},
		{"V 2, and what hangs on it", hanging, []impl.Ext{{Atom: 1, V: 2}}, nil, "???", "--+"},
		{"V 1 of a head", hanging, []impl.Ext{{Atom: 2, V: 1}}, nil, "???", "--+"},
		{"assumed", []impl.Rule{choice([]int{1, 2})}, nil, []int{1}, "???", "+?-"},
		{"assumed, IsFalse", []impl.Rule{choice([]int{1, 2})}, nil, []int{1}, "-??", noAnswers},
		{"assumed below 0", []impl.Rule{choice([]int{1, 2})}, nil, []int{-1}, "???", "-?-"},
		{"assumed below 0, IsTrue", []impl.Rule{choice([]int{1, 2})}, nil, []int{-1}, "+??", noAnswers},
		{"assumed, and known another one", either(1, 2), nil, []int{1}, "?+?", noAnswers},
		{"both of an atom assumed", []impl.Rule{choice([]int{1, 2})}, nil, []int{1, -1}, "???", noAnswers},
		{"V 0, and assumed", hanging, []impl.Ext{{Atom: 1}}, []int{-3}, "???", "++-"},
		{"V 2, and assumed", nil, []impl.Ext{{Atom: 1, V: 2}}, []int{1}, "???", noAnswers},
	} {
		checkNarrow(t, c.name, impl.Prog{Atoms: 3, Rules: c.rules, Exts: c.exts, Assume: c.assume}, c.v, c.want)
	}
}

func TestNarrowOfMaxAtoms(t *testing.T) {
	checkNarrows(t, []narrowCase{
		{"open", open(12).Rules, "????????????", "????????????"},
		{"open, some known", open(12).Rules, "+??????????-", "+??????????-"},
		{"open, all known", open(12).Rules, "+-+-+-+-+-+-", "+-+-+-+-+-+-"},
		{"an even circle", evenCircle(), "????????????", "????????????"},
		{"an even circle, the last one", evenCircle(), "???????????+", "-+-+-+-+-+-+"},
		{"an even circle, two that clash", evenCircle(), "?????+?????-", noAnswers},
		{"two circles", with(either(1, 12), either(6, 7)...), "????????????", "?----??----?"},
		{"two circles, one known", with(either(1, 12), either(6, 7)...), "???????????-", "+----??-----"},
	})
}

// sharedBy are the values that those answers share which agree with v, by the definition; noAnswers where none does.
func sharedBy(answers []int, v []int) string {
	some, all, found := 0, -1, false
	for _, x := range answers {
		if agrees(impl.SetOf(x), v) {
			some, all, found = some|x, all&x, true
		}
	}
	if !found {
		return noAnswers
	}
	shared := make([]int, len(v))
	for i := range shared {
		switch {
		case all>>i&1 == 1:
			shared[i] = 1
		case some>>i&1 == 0:
			shared[i] = 2
		}
	}
	return valuesText(shared)
}

// toldBy are the sets of the atoms that some of the answers have, and that all have, by the definition.
func toldBy(answers []int) (brave, cautious string) {
	if len(answers) == 0 {
		return noAnswers, noAnswers
	}
	has := func(a int) func(x int) bool { return func(x int) bool { return x>>(a-1)&1 == 1 } }
	lacks := func(a int) func(x int) bool { return func(x int) bool { return x>>(a-1)&1 == 0 } }
	some := rising(func(a int) bool { return slices.ContainsFunc(answers, has(a)) })
	all := rising(func(a int) bool { return !slices.ContainsFunc(answers, lacks(a)) })
	return textOf(some), textOf(all)
}

// withAssumed is p with one literal assumed more.
func withAssumed(p impl.Prog, l int) impl.Prog {
	p = deepCopy(p)
	p.Assume = append(p.Assume, l)
	return p
}

// checkOneAssumptionMore fails where an atom is brave, and with it assumed there is no answer, or the other way round; or where it is cautious, and with its opposite assumed there is one.
func checkOneAssumptionMore(t *testing.T, p impl.Prog) {
	t.Helper()
	brave, any := impl.Brave(p)
	cautious, is := impl.Cautious(p)
	if any != is || any != (impl.Count(p) > 0) || !impl.SetIn(cautious, brave) {
		t.Fatalf("Brave(%+v) = %v, %v, Cautious = %v, %v", p, brave, any, cautious, is)
	}
	for a := 1; a <= p.Atoms; a++ {
		with, without := impl.Answers(withAssumed(p, a)), impl.Answers(withAssumed(p, -a))
		if slices.Contains(brave, a) != (len(with) > 0) {
			t.Fatalf("Brave(%+v) = %v, and with %d assumed there are %d answers", p, brave, a, len(with))
		}
		if slices.Contains(cautious, a) != (any && len(without) == 0) {
			t.Fatalf("Cautious(%+v) = %v, and with %d assumed there are %d answers", p, cautious, -a, len(without))
		}
		if len(with)+len(without) != impl.Count(p) {
			t.Fatalf("of %+v there are %d answers with %d assumed, %d with %d", p, len(with), a, len(without), -a)
		}
	}
}

// TestBraveAndCautiousOfMany: of many programs what the definition tells, and what answers with one assumption more tell.
func TestBraveAndCautiousOfMany(t *testing.T) {
	from := rand.New(rand.NewSource(40))
	none, apart, same, empty := 0, 0, 0, 0
	for range 3000 {
		p := someFree(from, 1+from.Intn(6))
		brave, cautious := toldBy(answersOfWhole(p))
		checkTold(t, "one of many", p, brave, cautious)
		checkOneAssumptionMore(t, p)
		switch {
		case brave == noAnswers:
			none++
		case brave == cautious:
			same++
		case cautious == "":
			empty++
		default:
			apart++
		}
	}
	if none < 300 || apart < 300 || same < 300 || empty < 100 {
		t.Errorf("the programs are too much alike: %d without answers, %d with one set told, %d with nothing cautious, %d with two sets apart", none, same, empty, apart)
	}
}

// TestOneAssumptionMoreOfMaxAtoms: the same of programs with as many atoms as there may be, and of one with just room for it.
func TestOneAssumptionMoreOfMaxAtoms(t *testing.T) {
	from := rand.New(rand.NewSource(41))
	for range 40 {
		p := someFree(from, 12)
		brave, cautious := toldBy(numsOf(impl.Answers(p)))
		checkTold(t, "MaxAtoms", p, brave, cautious)
		checkOneAssumptionMore(t, p)
	}
	room := impl.Prog{Atoms: 12, Rules: append(times(35, plain(12)), with(either(2, 3), plain(4, 2), plain(4, 3))...)}
	room.Exts, room.Assume = []impl.Ext{{Atom: 1}}, times(19, 12)
	checkTold(t, "room for one rule", room, "1 2 3 4 12", "4 12")
	checkOneAssumptionMore(t, room)
	room.Rules = append(room.Rules, plain(12))
	checkTold(t, "room for no rule", room, "1 2 3 4 12", "4 12")
	if impl.Count(withAssumed(room, 1)) != 0 {
		t.Error("there is room for one rule more")
	}
}

// seenBy is what is seen of the set of a number, by the definition.
func seenBy(p impl.Prog, num int) int {
	seen := 0
	for _, a := range impl.SetOf(num) {
		if a <= p.Atoms && (!p.ProjOn || slices.Contains(p.Project, a)) {
			seen += 1 << (a - 1)
		}
	}
	return seen
}

// TestProjectedOfMany: each set that is seen of an answer is listed once, and no other one, by its number.
func TestProjectedOfMany(t *testing.T) {
	from := rand.New(rand.NewSource(42))
	fewer, mixed, none, all := 0, 0, 0, 0
	for range 3000 {
		p := someFree(from, 1+from.Intn(6))
		if p.ProjOn = from.Intn(4) > 0; p.ProjOn {
			p.Project = impl.SetOf(from.Intn(1 << p.Atoms))
		} else {
			p.Project = nil
		}
		answers := answersOfWhole(p)
		var seen []int
		for _, x := range answers {
			seen = append(seen, seenBy(p, x))
			if got := impl.SetNum(impl.Seen(p, impl.SetOf(x))); got != seenBy(p, x) {
				t.Fatalf("Seen(%+v, %v) has the number %d", p, impl.SetOf(x), got)
			}
		}
		if !slices.IsSorted(seen) {
			mixed++
		}
		slices.Sort(seen)
		seen = slices.Compact(seen)
		var want []string
		for _, num := range seen {
			want = append(want, textOf(impl.SetOf(num)))
		}
		checkProjected(t, "one of many", p, want...)
		switch {
		case len(answers) == 0:
			none++
		case len(seen) < len(answers):
			fewer++
		default:
			all++
		}
	}
	if fewer < 500 || mixed < 100 || none < 300 || all < 500 {
		t.Errorf("the programs are too much alike: %d with less sets than answers, %d in another order, %d without answers, %d with as many", fewer, mixed, none, all)
	}
}

// TestSeenAndShownOfMany: of many programs and all lists, also ones that are no sets, what the definitions tell.
func TestSeenAndShownOfMany(t *testing.T) {
	from := rand.New(rand.NewSource(43))
	shown, hidden, less := 0, 0, 0
	for range 4000 {
		p := someWhole(from, 1+from.Intn(12))
		var x []int
		for range from.Intn(16) {
			x = append(x, from.Intn(18)-2)
		}
		stand := stands(x)
		want := rising(func(a int) bool { return stand[a] && a <= p.Atoms && (!p.ProjOn || slices.Contains(p.Project, a)) })
		checkSeen(t, "one of many", p, x, textOf(want))
		if len(want) < len(rising(func(a int) bool { return stand[a] })) {
			less++
		}
		var texts []string
		for _, s := range p.Shows {
			if slices.ContainsFunc(s.Cond, func(l int) bool { return l > 0 && !stand[l] || l < 0 && stand[-l] }) {
				hidden++
				continue
			}
			texts = append(texts, s.Text)
			shown++
		}
		if got := impl.Shown(p, x); !slices.Equal(got, texts) {
			t.Fatalf("Shown(%+v, %v) = %q, not %q", p, x, got, texts)
		}
	}
	if shown < 1000 || hidden < 1000 || less < 1000 {
		t.Errorf("the programs are too much alike: %d texts shown, %d not, %d lists with atoms that are not seen", shown, hidden, less)
	}
}

// TestNarrowOfMany: of many programs and all their values what the definition tells; it is no less than what Propagate tells, and nothing comes of it but itself.
func TestNarrowOfMany(t *testing.T) {
	from := rand.New(rand.NewSource(44))
	none, still, more, beyond, sooner := 0, 0, 0, 0, 0
	for range 800 {
		n := 1 + from.Intn(5)
		p := someFree(from, n)
		answers := answersOfWhole(p)
		for num := range power(n, 3) {
			v := valuesNum(num, n)
			want := sharedBy(answers, v)
			checkNarrow(t, "one of many", p, valuesText(v), want)
			come, ok := impl.Propagate(p, v)
			narrow, is := impl.Narrow(p, v)
			if is && (!ok || !tellsMore(narrow, come) || !tellsMore(narrow, v)) {
				t.Fatalf("Narrow(%+v, %v) = %v, but Propagate %v, %v", p, v, narrow, come, ok)
			}
			switch {
			case !is && ok:
				sooner++
			case !is:
				none++
			case slices.Equal(narrow, v):
				still++
			case slices.Equal(narrow, come):
				more++
			default:
				beyond++
			}
			if is {
				checkNarrow(t, "narrowed", p, want, want)
			}
			if ok {
				checkNarrow(t, "with what comes", p, valuesText(come), want)
			}
		}
	}
	if none < 10000 || still < 2000 || more < 1000 || beyond < 300 || sooner < 300 {
		t.Errorf("the programs are too much alike: no answer agrees with %d values, and with %d that Propagate lets pass; %d stay, of %d comes what Propagate tells, of %d more", none, sooner, still, more, beyond)
	}
}

// TestNarrowOfNothingKnown: what is IsTrue is cautious, what is not IsFalse is brave; with one atom known it is what is told with that assumed.
func TestNarrowOfNothingKnown(t *testing.T) {
	from := rand.New(rand.NewSource(45))
	found := 0
	for range 800 {
		n := 1 + from.Intn(8)
		p := someFree(from, n)
		for l := -n; l <= n; l++ {
			v, q := times(n, impl.UnKnown), p
			if l > 0 {
				v[l-1] = impl.IsTrue
			} else if l < 0 {
				v[-l-1] = impl.IsFalse
			}
			if l != 0 {
				q = withAssumed(p, l)
			}
			narrow, ok := impl.Narrow(p, v)
			brave, any := impl.Brave(q)
			cautious, is := impl.Cautious(q)
			if ok != any || ok != is {
				t.Fatalf("Narrow(%+v, %v) is %v, Brave %v, Cautious %v of %+v", p, v, ok, any, is, q)
			}
			if !ok {
				continue
			}
			found++
			notFalse := rising(func(a int) bool { return a <= n && narrow[a-1] != impl.IsFalse })
			if !slices.Equal(impl.TrueOf(narrow), cautious) || !slices.Equal(notFalse, brave) {
				t.Fatalf("Narrow(%+v, %v) = %v, but %v are brave, %v cautious", p, v, narrow, brave, cautious)
			}
		}
	}
	if found < 3000 {
		t.Errorf("the programs are too much alike: %d with answers", found)
	}
}

// TestConsequencesAreAlwaysTheSame: however often they are asked, by however many at once.
func TestConsequencesAreAlwaysTheSame(t *testing.T) {
	p := impl.Prog{Atoms: 7, Rules: []impl.Rule{choice([]int{1, 3, 5, 6, 7}), plain(2, 3, -4), plain(4, -2, 1), constraint(1, 5)}, ProjOn: true, Project: []int{1, 2, 3, 4, 7}}
	p.Shows = []impl.Show{{Text: "a", Cond: []int{1}}, {Text: "b", Cond: []int{-2}}, {Text: "a"}}
	sets, texts := textsOf(impl.Projected(p)), impl.Shown(p, []int{1, 3})
	answers := answersOfWhole(p)
	brave, cautious := toldBy(answers)
	narrow := sharedBy(answers, valuesOf("+?????-"))
	byMany(50, func() {
		checkProjected(t, "again", p, sets...)
		checkTold(t, "again", p, brave, cautious)
		checkNarrow(t, "again", p, "+?????-", narrow)
		if !slices.Equal(impl.Shown(p, []int{1, 3}), texts) {
			t.Errorf("again: Shown(%+v) is another one", p)
		}
	})
}

// consequential are programs, and what is none, of which some is seen, shown and told.
func consequential() []impl.Prog {
	shows := []impl.Show{{Text: "a", Cond: []int{1}}, {Text: "b", Cond: []int{-2}}, {Text: "a"}, {Text: "c", Cond: []int{3, -1}}}
	return append(searchable(),
		impl.Prog{Atoms: 4, Rules: []impl.Rule{choice([]int{1, 2, 3, 4})}, ProjOn: true, Project: []int{2, 3}, Shows: shows},
		impl.Prog{Atoms: 4, Rules: either(1, 3), ProjOn: true, Shows: shows, Exts: []impl.Ext{{Atom: 2}, {Atom: 4, V: 1}}, Assume: []int{4, -2}},
		impl.Prog{Atoms: 3, Rules: []impl.Rule{choice([]int{1, 2, 3}), constraint(1, 2, 3)}, Shows: shows},
	)
}

func TestConsequencesArgumentsAreKept(t *testing.T) {
	for _, made := range consequential() {
		keeping(t, "Brave", withSpare(made), func(p impl.Prog) { impl.Brave(p) })
		keeping(t, "Cautious", withSpare(made), func(p impl.Prog) { impl.Cautious(p) })
		keeping(t, "Projected", withSpare(made), func(p impl.Prog) { impl.Projected(p) })
		for _, x := range lists {
			list := withSpare(x)
			keeping(t, "Seen", withSpare(made), func(p impl.Prog) { impl.Seen(p, list) })
			keeping(t, "Shown", withSpare(made), func(p impl.Prog) { impl.Shown(p, list) })
			checkKept(t, "Seen or Shown", list, x)
		}
		for _, v := range valued(made.Atoms) {
			list := withSpare(v)
			keeping(t, "Narrow", withSpare(made), func(p impl.Prog) { impl.Narrow(p, list) })
			checkKept(t, "Narrow", list, v)
		}
	}
}

func TestConsequencesSpareIsNotRead(t *testing.T) {
	for _, made := range consequential() {
		p := withSpare(made)
		for _, call := range []func(impl.Prog) ([]int, bool){impl.Brave, impl.Cautious} {
			one, ok := call(made)
			if two, same := call(p); ok != same || !slices.Equal(one, two) {
				t.Errorf("the room behind the lists of %+v is read", made)
			}
		}
		if !alike(impl.Projected(p), impl.Projected(made)) {
			t.Errorf("the room behind the lists of %+v is read", made)
		}
		for _, x := range lists {
			list := withSpare(x)
			if !slices.Equal(impl.Seen(p, list), impl.Seen(made, x)) || !slices.Equal(impl.Shown(p, list), impl.Shown(made, x)) {
				t.Errorf("the room behind the lists of %+v or %v is read", made, x)
			}
		}
		for _, v := range valued(made.Atoms) {
			one, ok := impl.Narrow(made, v)
			if two, same := impl.Narrow(p, withSpare(v)); ok != same || !slices.Equal(one, two) {
				t.Errorf("the room behind the lists of %+v or %v is read", made, v)
			}
		}
	}
	behind := impl.Prog{Atoms: 4, ProjOn: true, Project: []int{1, 2, 3}[:2], Shows: []impl.Show{{Text: "a", Cond: []int{1, -2}[:1]}, {Text: "b"}}[:1]}
	checkSeen(t, "atoms behind Project", behind, []int{2, 3, 4}, "2")
	checkSeen(t, "atoms behind a list", behind, []int{2, 1}[:1], "2")
	checkShown(t, "a literal behind Cond, a Show behind Shows", behind, []int{1, 2}, "a")
	checkShown(t, "atoms behind a list", behind, []int{2, 1}[:1], "")
	checkNarrow(t, "values", open(2), "+?", "+?")
	if v, ok := impl.Narrow(open(2), []int{1, 0, 3}[:2]); !ok || valuesText(v) != "+?" {
		t.Errorf("what lies behind a list's length is read: %v, %v", v, ok)
	}
}

func TestConsequencesAreNew(t *testing.T) {
	for _, made := range consequential() {
		p := withSpare(made)
		var all []any
		for range 2 {
			brave, _ := impl.Brave(p)
			cautious, _ := impl.Cautious(p)
			all = append(all, brave, cautious, impl.Projected(p))
			for _, x := range lists {
				list := withSpare(x)
				all = append(all, list, impl.Seen(p, list), impl.Shown(p, list))
			}
			for _, v := range valued(made.Atoms) {
				list := withSpare(v)
				narrow, _ := impl.Narrow(p, list)
				handsOutNothing(t, "Narrow", reflect.ValueOf(narrow))
				all = append(all, list, narrow)
			}
			handsOutNothing(t, "Brave", reflect.ValueOf(brave))
			handsOutNothing(t, "Cautious", reflect.ValueOf(cautious))
			handsOutNothing(t, "Projected", reflect.ValueOf(impl.Projected(p)))
			handsOutNothing(t, "Seen", reflect.ValueOf(impl.Seen(p, []int{3, 2})))
			handsOutNothing(t, "Shown", reflect.ValueOf(impl.Shown(p, []int{3, 1})))
		}
		checkApart(t, "chapter 10", append(all, p)...)
	}
	p := open(3)
	p.ProjOn, p.Project = true, []int{1, 2, 3}
	for _, s := range impl.Projected(p) {
		overwrite(s.A, -1)
	}
	overwrite(impl.Seen(p, p.Project), -1)
	brave, _ := impl.Brave(p)
	overwrite(brave, -1)
	still := []int{1, 2, 2}
	narrow, _ := impl.Narrow(p, still)
	overwrite(narrow, -1)
	if textOf(p.Project) != "1 2 3" || textOf(still) != "1 2 2" {
		t.Errorf("where an answer is written into, the arguments are %v, %v", p.Project, still)
	}
	checkProjected(t, "where one is written into", p, "", "1", "2", "1 2", "3", "1 3", "2 3", "1 2 3")
	checkTold(t, "where one is written into", p, "1 2 3", "")
	checkNarrow(t, "where one is written into", p, "+--", "+--")
}
