package tests

import (
	"math"
	"math/rand"
	"reflect"
	"slices"
	"strings"
	"testing"

	"loop.example/g00554/impl"
)

func TestValueNames(t *testing.T) {
	if got := []int{impl.UnKnown, impl.IsTrue, impl.IsFalse}; !slices.Equal(got, []int{0, 1, 2}) {
		t.Fatal(got)
	}
}

// valuesOf reads values as they are written in these tests: ? of an atom that is UnKnown, + of one that is IsTrue, - of one that is IsFalse.
func valuesOf(text string) []int {
	var v []int
	for i := range len(text) {
		v = append(v, strings.IndexByte("?+-", text[i]))
	}
	return v
}

// valuesText writes them, and ! for what is none of the three.
func valuesText(v []int) string {
	text := make([]byte, 0, len(v))
	for _, value := range v {
		if value < 0 || value > 2 {
			text = append(text, '!')
		} else {
			text = append(text, "?+-"[value])
		}
	}
	return string(text)
}

// valuesNum are the values of n atoms that have a number below 3 to the n.
func valuesNum(num, n int) []int {
	v := make([]int, n)
	for i := range v {
		v[i] = num % 3
		num /= 3
	}
	return v
}

func power(n, of int) int {
	all := 1
	for range n {
		all *= of
	}
	return all
}

// clash stands for what comes where there is a clash.
const clash = "clash"

// checkComes fails where something else comes of values that are ValsOk.
func checkComes(t *testing.T, name string, p impl.Prog, v, want string) {
	t.Helper()
	if !impl.ValsOk(p, valuesOf(v)) {
		t.Errorf("%s: ValsOk(%+v, %s) is false", name, p, v)
	}
	got, ok := impl.Propagate(p, valuesOf(v))
	if want == clash {
		if ok || len(got) != 0 {
			t.Errorf("%s: Propagate(%+v, %s) = %s, %v, and there is a clash", name, p, v, valuesText(got), ok)
		}
	} else if !ok || valuesText(got) != want {
		t.Errorf("%s: Propagate(%+v, %s) = %s, %v, not %s", name, p, v, valuesText(got), ok, want)
	}
}

// checkNoValues fails where v passes for values of p.
func checkNoValues(t *testing.T, name string, p impl.Prog, v []int) {
	t.Helper()
	if impl.ValsOk(p, v) {
		t.Errorf("%s: ValsOk(%+v, %v) is true", name, p, v)
	}
	if got, ok := impl.Propagate(p, v); ok || len(got) != 0 {
		t.Errorf("%s: Propagate(%+v, %v) = %v, %v", name, p, v, got, ok)
	}
}

type comesCase struct {
	name  string
	rules []impl.Rule
	v     string
	want  string
}

// with are the rules of a list, and some more behind them, in memory of their own.
func with(rules []impl.Rule, more ...impl.Rule) []impl.Rule {
	return slices.Concat(rules, more)
}

// checkAllCome asks of programs with as many atoms as there are values.
func checkAllCome(t *testing.T, cases []comesCase) {
	t.Helper()
	for _, c := range cases {
		checkComes(t, c.name, impl.Prog{Atoms: len(c.v), Rules: c.rules}, c.v, c.want)
	}
}

// checkAllMust asks likewise, with a choice of all atoms put to the rules at each place in turn: then each atom that is not IsFalse may come.
func checkAllMust(t *testing.T, cases []comesCase) {
	t.Helper()
	for _, c := range cases {
		all := choice(impl.SetOf(1<<len(c.v) - 1))
		for i := range len(c.rules) + 1 {
			p := impl.Prog{Atoms: len(c.v), Rules: slices.Insert(slices.Clone(c.rules), i, all)}
			checkComes(t, c.name, p, c.v, c.want)
		}
	}
}

func TestValsOk(t *testing.T) {
	three := impl.Prog{Atoms: 3, Rules: []impl.Rule{choice([]int{1, 2, 3})}}
	for _, v := range []string{"???", "+++", "---", "?+-", "-?+", "+-?"} {
		checkComes(t, "values", three, v, v)
	}
	for name, v := range map[string][]int{
		"none":                     nil,
		"an empty list":            {},
		"one":                      {1},
		"one too few":              {1, 2},
		"one too many":             {0, 1, 2, 0},
		"one too many, IsTrue":     {0, 1, 2, 1},
		"as many as MaxAtoms":      times(12, 0),
		"many":                     times(1000, 0),
		"below 0":                  {0, -1, 0},
		"below 0 at first":         {-1, 0, 0},
		"below 0 at last":          {0, 0, -1},
		"above 2":                  {0, 3, 0},
		"above 2 at first":         {3, 0, 0},
		"above 2 at last":          {1, 2, 3},
		"the least number":         {0, 0, math.MinInt},
		"the greatest number":      {math.MaxInt, 0, 0},
		"of which a byte is":       {0, 256, 0},
		"of which 32 bits are":     {0, 0, 1<<32 + 1},
		"both a fault and too few": {0, 3},
	} {
		checkNoValues(t, name, three, v)
	}
	all := impl.Prog{Atoms: 12, Rules: []impl.Rule{choice(impl.SetOf(4095))}}
	checkComes(t, "of MaxAtoms", all, "?+-?+-?+-?+-", "?+-?+-?+-?+-")
	checkNoValues(t, "one less than MaxAtoms", all, times(11, 0))
	checkNoValues(t, "one more than MaxAtoms", all, times(13, 0))
	checkNoValues(t, "the last of MaxAtoms", all, append(times(11, 1), 3))
}

func TestValuesOfNoAtoms(t *testing.T) {
	for name, p := range map[string]impl.Prog{
		"the zero program": {},
		"empty lists":      {Rules: []impl.Rule{}, Exts: []impl.Ext{}, Assume: []int{}},
		"Bound above 0":    {Rules: []impl.Rule{weighed(nil, 1)}},
	} {
		checkComes(t, name, p, "", "")
		checkNoValues(t, name, p, []int{0})
		if v, ok := impl.Propagate(p, []int{}); !ok || len(v) != 0 {
			t.Errorf("%s: Propagate of an empty list is %v, %v", name, v, ok)
		}
	}
	checkComes(t, "a constraint of no literal", impl.Prog{Rules: []impl.Rule{constraint()}}, "", clash)
	checkComes(t, "Bound 0", impl.Prog{Rules: []impl.Rule{weighed(nil, 0)}}, "", clash)
}

// TestValuesOfNoProgram: each would have values of which others come, but for one change.
func TestValuesOfNoProgram(t *testing.T) {
	whole := wholeProg()
	whole.Rules = append(whole.Rules, plain(9), plain(1))
	whole.Exts = []impl.Ext{{Atom: 5, V: 2}, {Atom: 8}}
	whole.Assume = []int{9, 1}
	checkComes(t, "without a change", whole, strings.Repeat("?", 9), "+??----?+")
	for name, change := range noProgs() {
		p := deepCopy(whole)
		change(&p)
		for _, n := range []int{0, 8, 9, 12, 13} {
			for value := range 3 {
				checkNoValues(t, name, p, times(n, value))
			}
		}
	}
	for _, p := range append(odd(), atLimits(), impl.Prog{Atoms: -1}, impl.Prog{Atoms: 13}, impl.Prog{Atoms: math.MinInt}, impl.Prog{Atoms: math.MaxInt}) {
		if _, ok := impl.Fold(p); !ok {
			for n := range 15 {
				checkNoValues(t, "an odd program", p, times(n, n%3))
			}
		}
	}
}

// TestValuesAndRoom: with just MaxRules rules of Fold something comes, with one more there is nothing.
func TestValuesAndRoom(t *testing.T) {
	for _, c := range []struct {
		name   string
		rules  int
		exts   []impl.Ext
		assume []int
		want   string
	}{
		{"MaxRules rules", 60, nil, nil, "-----------+"},
		{"MaxRules rules with V 0", 59, []impl.Ext{{Atom: 1}}, nil, "?----------+"},
		{"one more with V 0", 60, []impl.Ext{{Atom: 1}}, nil, ""},
		{"MaxRules rules with V 1", 59, []impl.Ext{{Atom: 1, V: 1}}, nil, "+----------+"},
		{"one more with V 1", 60, []impl.Ext{{Atom: 1, V: 1}}, nil, ""},
		{"V 2 is no rule", 60, []impl.Ext{{Atom: 1, V: 2}}, nil, "-----------+"},
		{"an external head is no rule", 60, []impl.Ext{{Atom: 12}}, nil, "-----------+"},
		{"MaxRules rules with what is assumed", 58, nil, []int{12, -1}, "-----------+"},
		{"MaxRules rules, and the last one a clash", 58, nil, []int{12, 1}, clash},
		{"one more with what is assumed", 59, nil, []int{12, -1}, ""},
		{"MaxRules rules with both", 57, []impl.Ext{{Atom: 1}}, []int{12, -2}, "?----------+"},
		{"one more with both", 58, []impl.Ext{{Atom: 1}}, []int{12, -2}, ""},
	} {
		p := impl.Prog{Atoms: 12, Rules: times(c.rules, plain(12)), Exts: c.exts, Assume: c.assume}
		if c.want == "" {
			checkNoValues(t, c.name, p, times(12, 0))
			checkNoValues(t, c.name, p, valuesOf("-----------+"))
			continue
		}
		checkComes(t, c.name, p, strings.Repeat("?", 12), c.want)
	}
}

func TestWhole(t *testing.T) {
	for _, c := range []struct {
		name string
		v    []int
		want bool
	}{
		{"none", nil, true},
		{"an empty list", []int{}, true},
		{"UnKnown", []int{0}, false},
		{"IsTrue", []int{1}, true},
		{"IsFalse", []int{2}, true},
		{"all known", []int{1, 2, 2, 1}, true},
		{"the first UnKnown", []int{0, 1, 2}, false},
		{"one UnKnown", []int{1, 0, 2}, false},
		{"the last UnKnown", []int{1, 2, 0}, false},
		{"all UnKnown", times(12, 0), false},
		{"MaxAtoms, all known", times(12, 2), true},
		{"MaxAtoms, the last UnKnown", append(times(11, 2), 0), false},
		{"more than MaxAtoms, all known", times(13, 1), true},
		{"more than MaxAtoms, the last UnKnown", append(times(12, 1), 0), false},
		{"many, all known", times(1000, 2), true},
		{"many, one far behind UnKnown", slices.Insert(times(1000, 2), 70, 0), false},
		{"many, the last UnKnown", append(times(1000, 2), 0), false},
		{"above the three", []int{3}, true},
		{"below the three", []int{-1}, true},
		{"of which no bit below is set", []int{256, 1 << 16, 1 << 32, math.MinInt}, true},
		{"none of the three", []int{math.MinInt, math.MaxInt, -2, 4, 99}, true},
		{"none of the three, and one UnKnown", []int{3, -1, 0, 7}, false},
	} {
		if impl.Whole(c.v) != c.want {
			t.Errorf("%s: Whole(%v) is not %v", c.name, c.v, c.want)
		}
	}
}

func TestTrueOf(t *testing.T) {
	for _, c := range []struct {
		name string
		v    []int
		want string
	}{
		{"none", nil, ""},
		{"an empty list", []int{}, ""},
		{"UnKnown", []int{0}, ""},
		{"IsTrue", []int{1}, "1"},
		{"IsFalse", []int{2}, ""},
		{"the second one", []int{0, 1}, "2"},
		{"some of each", []int{1, 2, 1, 0, 2, 1, 0}, "1 3 6"},
		{"all IsTrue", []int{1, 1, 1}, "1 2 3"},
		{"one less than MaxAtoms", times(11, 1), textOf(impl.SetOf(2047))},
		{"MaxAtoms", times(12, 1), textOf(impl.SetOf(4095))},
		{"the last of MaxAtoms", append(times(11, 0), 1), "12"},
		{"one more than MaxAtoms", times(13, 1), textOf(impl.SetOf(4095))},
		{"the one behind MaxAtoms alone", append(times(12, 0), 1), ""},
		{"the last of MaxAtoms, and behind", append(times(11, 2), 1, 2, 1), "12"},
		{"behind MaxAtoms alone", append(times(12, 2), times(1000, 1)...), ""},
		{"some of many", slices.Concat([]int{0, 1}, times(300, 2), times(300, 1)), "2"},
		{"none of the three", []int{3, -1, 4, 257, math.MinInt, math.MaxInt, 1<<32 + 1}, ""},
		{"none of the three, and one IsTrue", []int{3, -1, 1, 257}, "3"},
	} {
		got := impl.TrueOf(c.v)
		if textOf(got) != c.want || !impl.SetOk(got, 12) {
			t.Errorf("%s: TrueOf(%v) = %v, not %s", c.name, c.v, got, c.want)
		}
	}
}

func TestAgrees(t *testing.T) {
	for _, c := range []struct {
		name string
		x    []int
		v    []int
		want bool
	}{
		{"nothing and no values", nil, nil, true},
		{"a set and no values", []int{1, 2}, nil, true},
		{"nothing and UnKnown", nil, []int{0}, true},
		{"nothing and IsTrue", nil, []int{1}, false},
		{"nothing and IsFalse", nil, []int{2}, true},
		{"an atom UnKnown", []int{1}, []int{0}, true},
		{"an atom IsTrue", []int{1}, []int{1}, true},
		{"an atom IsFalse", []int{1}, []int{2}, false},
		{"another one IsTrue", []int{1}, []int{0, 1}, false},
		{"another one IsFalse", []int{1}, []int{0, 2}, true},
		{"each as it is", []int{1, 4}, []int{1, 2, 0, 0, 2}, true},
		{"each as it is, whole", []int{1, 4}, []int{1, 2, 2, 1}, true},
		{"all but the first", []int{1, 4}, []int{2, 2, 2, 1}, false},
		{"all but one in the middle, IsTrue", []int{1, 4}, []int{1, 2, 1, 1}, false},
		{"all but the last", []int{1, 4}, []int{1, 2, 2, 2}, false},
		{"all but the last, IsTrue", []int{1, 4}, []int{1, 2, 2, 1, 1}, false},
		{"atoms above those of v", []int{1, 3, 12}, []int{1, 2}, true},
		{"atoms above those of v, and one that is not so", []int{2, 3, 12}, []int{1, 2}, false},
		{"atoms above those of v alone", []int{5, 12}, []int{2, 0, 2, 2}, true},
		{"v is shorter, and one is lacking", []int{5, 12}, []int{2, 0, 2, 1}, false},
		{"falling", []int{4, 2, 1}, []int{1, 1, 2, 1}, true},
		{"falling, one not so", []int{4, 2, 1}, []int{1, 2, 2, 1}, false},
		{"an atom twice", []int{2, 1, 2, 2}, []int{1, 1, 2}, true},
		{"an atom twice, IsFalse", []int{2, 1, 2, 2}, []int{1, 2, 2}, false},
		{"numbers that are no atoms", []int{0, 13, -1, math.MinInt, math.MaxInt, 1<<32 + 1, 257}, times(12, 2), true},
		{"numbers that are no atoms, and one lacking", []int{0, 13, -2, 1<<32 + 2}, []int{2, 1}, false},
		{"numbers that are no atoms, and all that is there", []int{99, 2, 0, -1}, []int{2, 1}, true},
		{"all of MaxAtoms", impl.SetOf(4095), times(12, 1), true},
		{"all but the last one of MaxAtoms", impl.SetOf(2047), times(12, 1), false},
		{"all but the last one of MaxAtoms, so told", impl.SetOf(2047), append(times(11, 1), 2), true},
		{"the last one of MaxAtoms", []int{12}, append(times(11, 2), 2), false},
		{"more than MaxAtoms, IsTrue behind", []int{1}, append(append([]int{1}, times(11, 2)...), 1, 1), true},
		{"more than MaxAtoms, IsFalse behind", []int{1, 13, 14}, append(append([]int{1}, times(11, 2)...), 2, 2), true},
		{"more than MaxAtoms, one of them not so", []int{2}, append(append([]int{1}, times(11, 2)...), 1, 1), false},
		{"many behind MaxAtoms", nil, append(times(12, 2), times(1000, 1)...), true},
		{"none of the three", []int{1, 2}, []int{3, -1, 3, -1, 4}, true},
		{"of which a byte is one of the three", []int{1, 3}, []int{258, 257, 1<<32 + 2, 1<<32 + 1, math.MinInt}, true},
		{"none of the three, and one not so", []int{1, 2}, []int{3, 2, 3}, false},
		{"none of the three, and one so", []int{1, 2}, []int{3, 1, 3}, true},
	} {
		if impl.Agrees(c.x, c.v) != c.want {
			t.Errorf("%s: Agrees(%v, %v) is not %v", c.name, c.x, c.v, c.want)
		}
	}
}

// agrees tells by the definition whether x agrees with v.
func agrees(x, v []int) bool {
	for a := 1; a <= 12 && a <= len(v); a++ {
		if v[a-1] == 1 && !slices.Contains(x, a) || v[a-1] == 2 && slices.Contains(x, a) {
			return false
		}
	}
	return true
}

// TestValuesOfManyLists: what Whole, TrueOf and Agrees tell, by the definitions.
func TestValuesOfManyLists(t *testing.T) {
	from := rand.New(rand.NewSource(28))
	yes, no := 0, 0
	for range 20000 {
		v := make([]int, from.Intn(16))
		for i := range v {
			v[i] = from.Intn(5) - 1
		}
		want := rising(func(a int) bool { return a <= len(v) && v[a-1] == 1 })
		if got := impl.TrueOf(v); !slices.Equal(got, want) {
			t.Fatalf("TrueOf(%v) = %v, not %v", v, got, want)
		}
		if impl.Whole(v) == slices.Contains(v, 0) {
			t.Fatalf("Whole(%v) is %v", v, impl.Whole(v))
		}
		for range 4 {
			x := slices.DeleteFunc(slices.Clone(want), func(int) bool { return from.Intn(8) == 0 })
			for range from.Intn(4) {
				x = slices.Insert(x, from.Intn(len(x)+1), from.Intn(16)-1)
			}
			if impl.Agrees(x, v) != agrees(x, v) {
				t.Fatalf("Agrees(%v, %v) is not %v", x, v, agrees(x, v))
			}
			if agrees(x, v) {
				yes++
			} else {
				no++
			}
		}
		if !impl.Agrees(want, v) {
			t.Fatalf("TrueOf(%v) = %v does not agree", v, want)
		}
	}
	if yes < 10000 || no < 10000 {
		t.Errorf("the lists are too much alike: %d agree, %d do not", yes, no)
	}
}

// TestMustByRules: (1) of rules without Weight.
func TestMustByRules(t *testing.T) {
	checkAllMust(t, []comesCase{
		{"no rules", nil, "?+-", "?+-"},
		{"a fact", []impl.Rule{plain(2)}, "???", "?+?"},
		{"a fact that is IsTrue", []impl.Rule{plain(2)}, "?+?", "?+?"},
		{"a fact that is IsFalse", []impl.Rule{plain(2)}, "?-?", clash},
		{"above 0, IsTrue", []impl.Rule{plain(1, 2)}, "?+?", "++?"},
		{"above 0, IsTrue, the head IsTrue", []impl.Rule{plain(1, 2)}, "++?", "++?"},
		{"above 0, IsTrue, the head IsFalse", []impl.Rule{plain(1, 2)}, "-+?", clash},
		{"above 0, UnKnown", []impl.Rule{plain(1, 2)}, "???", "???"},
		{"above 0, UnKnown, the head IsFalse", []impl.Rule{plain(1, 2)}, "-??", "-??"},
		{"above 0, UnKnown, the head IsTrue", []impl.Rule{plain(1, 2)}, "+??", "+??"},
		{"above 0, IsFalse", []impl.Rule{plain(1, 2)}, "?-?", "?-?"},
		{"above 0, IsFalse, the head IsFalse", []impl.Rule{plain(1, 2)}, "--?", "--?"},
		{"below 0, IsFalse", []impl.Rule{plain(1, -2)}, "?-?", "+-?"},
		{"below 0, IsFalse, the head IsFalse", []impl.Rule{plain(1, -2)}, "--?", clash},
		{"below 0, UnKnown", []impl.Rule{plain(1, -2)}, "???", "???"},
		{"below 0, UnKnown, the head IsFalse", []impl.Rule{plain(1, -2)}, "-??", "-??"},
		{"below 0, IsTrue", []impl.Rule{plain(1, -2)}, "?+?", "?+?"},
		{"both so", []impl.Rule{plain(1, 2, -3)}, "?+-", "++-"},
		{"the first UnKnown", []impl.Rule{plain(1, 2, -3)}, "??-", "??-"},
		{"the last UnKnown", []impl.Rule{plain(1, 2, -3)}, "?+?", "?+?"},
		{"the first not so", []impl.Rule{plain(1, 2, -3)}, "?--", "?--"},
		{"the last not so", []impl.Rule{plain(1, 2, -3)}, "?++", "?++"},
		{"a literal twice", []impl.Rule{plain(1, 2, 2)}, "?+?", "++?"},
		{"a literal twice, UnKnown", []impl.Rule{plain(1, 2, 2)}, "???", "???"},
		{"both literals of an atom, UnKnown", []impl.Rule{plain(1, 2, -2)}, "???", "???"},
		{"both literals of an atom, IsTrue", []impl.Rule{plain(1, 2, -2)}, "?+?", "?+?"},
		{"both literals of an atom, IsFalse", []impl.Rule{plain(1, 2, -2)}, "?-?", "?-?"},
		{"itself above 0, IsTrue", []impl.Rule{plain(1, 1)}, "+??", "+??"},
		{"itself above 0, UnKnown", []impl.Rule{plain(1, 1)}, "???", "???"},
		{"itself below 0, IsFalse", []impl.Rule{plain(1, -1)}, "-??", clash},
		{"itself below 0, UnKnown", []impl.Rule{plain(1, -1)}, "???", "???"},
		{"itself below 0, IsTrue", []impl.Rule{plain(1, -1)}, "+??", "+??"},
		{"two rules of one head, the second", []impl.Rule{plain(1, 2), plain(1, 3)}, "??+", "+?+"},
		{"two rules of one head, neither", []impl.Rule{plain(1, 2), plain(1, -2)}, "???", "???"},
		{"a chain", []impl.Rule{plain(3), plain(2, 3), plain(1, 2)}, "????", "+++?"},
		{"a chain, behind each other", []impl.Rule{plain(1, 2), plain(2, 3), plain(3)}, "????", "+++?"},
		{"a chain to a clash", []impl.Rule{plain(1, 2), plain(2, 3), plain(3)}, "-???", clash},
		{"a chain to a constraint", []impl.Rule{constraint(1), plain(1, 2), plain(2, 3), plain(3)}, "????", clash},
		{"a chain that is open", []impl.Rule{plain(1, 2), plain(2, 3, 4), plain(3)}, "????", "??+?"},
		{"a chain of constraints", []impl.Rule{constraint(1, 2), constraint(2, 3)}, "+?+?", "+?+?"},
		{"nothing is told backwards", []impl.Rule{plain(1, 2), plain(1, 3)}, "-?+?", clash},
		{"no atom is told backwards", []impl.Rule{plain(1, 2)}, "-???", "-???"},
	})
}

func TestMustByConstraints(t *testing.T) {
	checkAllMust(t, []comesCase{
		{"of no literal", []impl.Rule{constraint()}, "???", clash},
		{"of no literal, all known", []impl.Rule{constraint()}, "+-+", clash},
		{"above 0, IsTrue", []impl.Rule{constraint(2)}, "?+?", clash},
		{"above 0, UnKnown", []impl.Rule{constraint(2)}, "???", "???"},
		{"above 0, IsFalse", []impl.Rule{constraint(2)}, "?-?", "?-?"},
		{"below 0, IsFalse", []impl.Rule{constraint(-2)}, "?-?", clash},
		{"below 0, UnKnown", []impl.Rule{constraint(-2)}, "???", "???"},
		{"below 0, IsTrue", []impl.Rule{constraint(-2)}, "?+?", "?+?"},
		{"both so", []impl.Rule{constraint(1, -3)}, "+?-", clash},
		{"the first so", []impl.Rule{constraint(1, -3)}, "+??", "+??"},
		{"the last so", []impl.Rule{constraint(1, -3)}, "??-", "??-"},
		{"the second constraint", []impl.Rule{constraint(1), constraint(2)}, "?+?", clash},
		{"weights that are reached", []impl.Rule{weighed(nil, 3, wl(1, 2), wl(-2, 1), wl(3, 1))}, "+-?", clash},
		{"weights that may be reached", []impl.Rule{weighed(nil, 3, wl(1, 2), wl(-2, 1), wl(3, 1))}, "+??", "+??"},
		{"weights that may not be reached", []impl.Rule{weighed(nil, 3, wl(1, 2), wl(-2, 1), wl(3, 1))}, "-??", "-??"},
		{"Bound 0", []impl.Rule{weighed(nil, 0, wl(1, 2))}, "???", clash},
		{"Bound below 0", []impl.Rule{weighed(nil, -5, wl(1, 2))}, "-??", clash},
		{"Bound above the sum", []impl.Rule{weighed(nil, 3, wl(1, 2))}, "+??", "+??"},
		{"ahead of what makes it hold", []impl.Rule{constraint(2), plain(2, 1)}, "+??", clash},
		{"behind what makes it hold", []impl.Rule{plain(2, 1), constraint(2)}, "+??", clash},
	})
}

// TestMustByChoice: a rule with Choice leaves its heads as they are, whatever its body.
func TestMustByChoice(t *testing.T) {
	checkAllMust(t, []comesCase{
		{"its body must hold", []impl.Rule{choice([]int{1, 2}, 3)}, "??+", "??+"},
		{"its body must hold, a head IsFalse", []impl.Rule{choice([]int{1, 2}, 3)}, "-?+", "-?+"},
		{"its body must hold, all heads IsFalse", []impl.Rule{choice([]int{1, 2}, 3)}, "--+", "--+"},
		{"its body must hold, a head IsTrue", []impl.Rule{choice([]int{1, 2}, 3)}, "?++", "?++"},
		{"one head alone", []impl.Rule{choice([]int{1}, 3)}, "??+", "??+"},
		{"weights that are reached", []impl.Rule{weighedChoice([]int{1, 2}, 1, wl(3, 1))}, "??+", "??+"},
		{"Bound below 0", []impl.Rule{weighedChoice([]int{1, 2}, -1)}, "?-?", "?-?"},
		{"a fact of a head behind it", []impl.Rule{choice([]int{1, 2}, 3), plain(1, 3)}, "??+", "+?+"},
	})
	checkAllCome(t, []comesCase{
		{"no body", []impl.Rule{choice([]int{1, 2})}, "???", "??-"},
		{"its body must hold", []impl.Rule{plain(3), choice([]int{1, 2}, 3)}, "???", "??+"},
		{"its body must hold, a head IsFalse", []impl.Rule{plain(3), choice([]int{1, 2}, 3)}, "-??", "-?+"},
		{"its body must hold, a head IsTrue", []impl.Rule{plain(3), choice([]int{1, 2}, 3)}, "?+?", "?++"},
		{"its body may hold", []impl.Rule{choice([]int{3}), choice([]int{1, 2}, 3)}, "???", "???"},
		{"its body may not hold", []impl.Rule{plain(3), choice([]int{1, 2}, -3)}, "???", "--+"},
		{"its body may not hold, a head IsTrue", []impl.Rule{plain(3), choice([]int{1, 2}, -3)}, "+??", clash},
		{"its heads in its body", []impl.Rule{choice([]int{1, 2}, 1)}, "???", "---"},
		{"one head on the other one", []impl.Rule{choice([]int{1, 2}, 1), choice([]int{1})}, "???", "??-"},
	})
}

func TestMustByWeights(t *testing.T) {
	row := []impl.WLit{wl(2, 2), wl(-3, 1), wl(4, 4)}
	checkAllMust(t, []comesCase{
		{"Bound below 0", []impl.Rule{weighed([]int{1}, -1, row...)}, "????", "+???"},
		{"Bound below 0, none so", []impl.Rule{weighed([]int{1}, -100000, row...)}, "?-+-", "+-+-"},
		{"Bound below 0, the head IsFalse", []impl.Rule{weighed([]int{1}, -1, row...)}, "-???", clash},
		{"Bound 0", []impl.Rule{weighed([]int{1}, 0, row...)}, "????", "+???"},
		{"Bound 0, none so", []impl.Rule{weighed([]int{1}, 0, row...)}, "?-+-", "+-+-"},
		{"Bound 0 of nothing", []impl.Rule{weighed([]int{1}, 0)}, "????", "+???"},
		{"Bound 1 of nothing", []impl.Rule{weighed([]int{1}, 1)}, "????", "????"},
		{"Bound 1, all UnKnown", []impl.Rule{weighed([]int{1}, 1, row...)}, "????", "????"},
		{"just reached by one", []impl.Rule{weighed([]int{1}, 2, row...)}, "?+??", "++??"},
		{"just reached by one below 0", []impl.Rule{weighed([]int{1}, 1, row...)}, "??-?", "+?-?"},
		{"just reached by two", []impl.Rule{weighed([]int{1}, 3, row...)}, "?+-?", "++-?"},
		{"just reached by all", []impl.Rule{weighed([]int{1}, 7, row...)}, "?+-+", "++-+"},
		{"passed", []impl.Rule{weighed([]int{1}, 3, row...)}, "???+", "+??+"},
		{"one too little", []impl.Rule{weighed([]int{1}, 4, row...)}, "?+-?", "?+-?"},
		{"one below 0 not so", []impl.Rule{weighed([]int{1}, 3, row...)}, "?++?", "?++?"},
		{"one above 0 not so", []impl.Rule{weighed([]int{1}, 2, row...)}, "?--?", "?--?"},
		{"Bound above the sum", []impl.Rule{weighed([]int{1}, 8, row...)}, "?+-+", "?+-+"},
		{"a literal twice", []impl.Rule{weighed([]int{1}, 4, wl(2, 2), wl(2, 2))}, "?+??", "++??"},
		{"a literal twice, too little", []impl.Rule{weighed([]int{1}, 5, wl(2, 2), wl(2, 2))}, "?+??", "?+??"},
		{"a literal twice, below 0", []impl.Rule{weighed([]int{1}, 4, wl(-2, 3), wl(3, 9), wl(-2, 1))}, "?-??", "+-??"},
		{"both literals of an atom, UnKnown", []impl.Rule{weighed([]int{1}, 1, wl(2, 1), wl(-2, 1))}, "????", "????"},
		{"both literals of an atom, IsTrue", []impl.Rule{weighed([]int{1}, 1, wl(2, 1), wl(-2, 1))}, "?+??", "++??"},
		{"both literals of an atom, IsFalse", []impl.Rule{weighed([]int{1}, 1, wl(2, 1), wl(-2, 1))}, "?-??", "+-??"},
		{"both literals of an atom, too little", []impl.Rule{weighed([]int{1}, 2, wl(2, 1), wl(-2, 1))}, "?+??", "?+??"},
		{"itself", []impl.Rule{weighed([]int{1}, 1, wl(1, 1), wl(2, 1))}, "????", "????"},
		{"the greatest W and Bound", []impl.Rule{weighed([]int{1}, 20000, times(20, wl(2, 1000))...)}, "?+??", "++??"},
		{"the greatest W, one too little", []impl.Rule{weighed([]int{1}, 20000, times(19, wl(2, 1000))...)}, "?+??", "?+??"},
	})
}

// TestMayCome: (2) of rules without Weight.
func TestMayCome(t *testing.T) {
	checkAllCome(t, []comesCase{
		{"no rules", nil, "??", "--"},
		{"no rules, IsFalse", nil, "--", "--"},
		{"no rules, IsTrue", nil, "?+", clash},
		{"the head of no rule", []impl.Rule{choice([]int{1})}, "??", "?-"},
		{"the head of no rule, IsTrue", []impl.Rule{choice([]int{1})}, "?+", clash},
		{"only in bodies", []impl.Rule{choice([]int{1}, -2), constraint(-2, 1)}, "??", "?-"},
		{"above 0, may come", []impl.Rule{choice([]int{2}), choice([]int{1}, 2)}, "??", "??"},
		{"above 0, IsTrue", []impl.Rule{choice([]int{2}), choice([]int{1}, 2)}, "?+", "?+"},
		{"above 0, IsFalse", []impl.Rule{choice([]int{2}), choice([]int{1}, 2)}, "?-", "--"},
		{"above 0, IsFalse, the head IsTrue", []impl.Rule{choice([]int{2}), choice([]int{1}, 2)}, "+-", clash},
		{"above 0, may not come", []impl.Rule{choice([]int{1}, 2)}, "??", "--"},
		{"above 0, may not come, the head IsTrue", []impl.Rule{choice([]int{1}, 2)}, "+?", clash},
		{"below 0, IsTrue", []impl.Rule{choice([]int{2}), choice([]int{1}, -2)}, "?+", "-+"},
		{"below 0, IsTrue, the head IsTrue", []impl.Rule{choice([]int{2}), choice([]int{1}, -2)}, "++", clash},
		{"below 0, UnKnown", []impl.Rule{choice([]int{2}), choice([]int{1}, -2)}, "??", "??"},
		{"below 0, IsFalse", []impl.Rule{choice([]int{2}), choice([]int{1}, -2)}, "?-", "?-"},
		{"both may hold", []impl.Rule{choice([]int{2, 3}), choice([]int{1}, 2, -3)}, "???", "???"},
		{"the first not so", []impl.Rule{choice([]int{2, 3}), choice([]int{1}, 2, -3)}, "?-?", "--?"},
		{"the last not so", []impl.Rule{choice([]int{2, 3}), choice([]int{1}, 2, -3)}, "??+", "-?+"},
		{"both literals of an atom, UnKnown", []impl.Rule{choice([]int{2}), choice([]int{1}, 2, -2)}, "??", "??"},
		{"both literals of an atom, IsTrue", []impl.Rule{choice([]int{2}), choice([]int{1}, 2, -2)}, "?+", "-+"},
		{"both literals of an atom, IsFalse", []impl.Rule{choice([]int{2}), choice([]int{1}, 2, -2)}, "?-", "--"},
		{"two rules of one head, the second", []impl.Rule{choice([]int{1}, 2), choice([]int{1}, -2)}, "??", "?-"},
		{"a rule without Choice", []impl.Rule{choice([]int{2}), plain(1, 2)}, "??", "??"},
		{"a rule without Choice, not so", []impl.Rule{choice([]int{2}), plain(1, 2)}, "?-", "--"},
		{"a rule without Choice, not so, the head IsTrue", []impl.Rule{choice([]int{2}), plain(1, 2)}, "+-", clash},
		{"a chain, behind each other", []impl.Rule{choice([]int{1}, 2), choice([]int{2}, 3), choice([]int{3})}, "????", "???-"},
		{"a chain that is cut", []impl.Rule{choice([]int{1}, 2), choice([]int{2}, 3), choice([]int{3})}, "??-?", "----"},
		{"a chain that is cut, its end IsTrue", []impl.Rule{choice([]int{1}, 2), choice([]int{2}, 3), choice([]int{3})}, "+?-?", clash},
		{"a constraint lets nothing come", []impl.Rule{constraint(-1), choice([]int{2})}, "??", clash},
		{"itself below 0", []impl.Rule{plain(1, -1)}, "??", "?-"},
		{"itself below 0, IsTrue", []impl.Rule{plain(1, -1)}, "+?", clash},
	})
}

// TestMayComeInCircles: what an atom asks for it cannot bring about itself.
func TestMayComeInCircles(t *testing.T) {
	three := loop(1, 2, 3)
	checkAllCome(t, []comesCase{
		{"itself", []impl.Rule{plain(1, 1)}, "??", "--"},
		{"itself, by choice", []impl.Rule{choice([]int{1}, 1)}, "??", "--"},
		{"itself, IsTrue", []impl.Rule{plain(1, 1)}, "+?", clash},
		{"itself, IsTrue, by choice", []impl.Rule{choice([]int{1}, 1)}, "+?", clash},
		{"a circle", three, "????", "----"},
		{"a circle by choice", []impl.Rule{choice([]int{1}, 2), choice([]int{2}, 1)}, "??", "--"},
		{"a circle through an atom that is IsTrue", three, "?+??", clash},
		{"a circle, all IsTrue", three, "+++-", clash},
		{"a circle through an atom that is IsFalse", three, "?-??", "----"},
		{"a circle that one open atom lets come", with(three, choice([]int{4}), choice([]int{2}, 4)), "????", "????"},
		{"and that atom is IsFalse", with(three, choice([]int{4}), choice([]int{2}, 4)), "???-", "----"},
		{"and that atom is IsTrue", with(three, choice([]int{4}), choice([]int{2}, 4)), "???+", "???+"},
		{"and that atom is IsTrue and must bring it", with(three, choice([]int{4}), plain(2, 4)), "???+", "++++"},
		{"that one open atom lets come, if it is not there", with(three, choice([]int{4}), choice([]int{3}, -4)), "????", "????"},
		{"and that atom is there", with(three, choice([]int{4}), choice([]int{3}, -4)), "???+", "---+"},
		{"and that atom is there, one of the circle IsTrue", with(three, choice([]int{4}), choice([]int{3}, -4)), "+??+", clash},
		{"an open one of the circle", with(three, choice([]int{2})), "????", "???-"},
		{"an open one of the circle, IsTrue", with(three, choice([]int{2})), "?+??", "+++-"},
		{"an open one of the circle, IsFalse", with(three, choice([]int{2})), "?-??", "----"},
		{"an open one of the circle, another IsTrue", with(three, choice([]int{2})), "+???", "+++-"},
		{"an open one of the circle, what it asks for IsFalse", with(three, choice([]int{2})), "??-?", "??--"},
		{"two circles, one open", with(loop(1, 2), with(loop(3, 4), choice([]int{4}))...), "????", "--??"},
		{"a circle on a circle", with(loop(1, 2), with(loop(3, 4), plain(4, 1))...), "????", "----"},
		{"a circle through what is below 0", []impl.Rule{plain(1, -2), plain(2, -1)}, "??", "??"},
		{"a circle through what is below 0, one IsTrue", []impl.Rule{plain(1, -2), plain(2, -1)}, "+?", "+-"},
		{"a circle through what is below 0, one IsFalse", []impl.Rule{plain(1, -2), plain(2, -1)}, "?-", "+-"},
		{"a circle through what is below 0, both IsFalse", []impl.Rule{plain(1, -2), plain(2, -1)}, "--", clash},
		{"a circle through what is below 0, both IsTrue", []impl.Rule{plain(1, -2), plain(2, -1)}, "++", clash},
		{"a circle of weights", []impl.Rule{weighed([]int{1}, 2, wl(2, 2)), weighed([]int{2}, 1, wl(1, 3))}, "??", "--"},
		{"a circle of weights with a way in", []impl.Rule{weighed([]int{1}, 2, wl(2, 2), wl(-3, 2)), weighed([]int{2}, 1, wl(1, 3)), choice([]int{3})}, "???", "???"},
		{"a circle of weights, the way in closed", []impl.Rule{weighed([]int{1}, 2, wl(2, 2), wl(-3, 2)), weighed([]int{2}, 1, wl(1, 3)), choice([]int{3})}, "??+", "--+"},
		{"a circle of weights, the way in open", []impl.Rule{weighed([]int{1}, 2, wl(2, 2), wl(-3, 2)), weighed([]int{2}, 1, wl(1, 3)), choice([]int{3})}, "??-", "++-"},
	})
}

// TestMayComeOfHeadsThatAreIsFalse: such a head is not in s, and lets nothing come, though its own body may hold.
func TestMayComeOfHeadsThatAreIsFalse(t *testing.T) {
	checkAllCome(t, []comesCase{
		{"an open one", []impl.Rule{choice([]int{1}), choice([]int{2}, 1)}, "-?", "--"},
		{"one of two heads", []impl.Rule{choice([]int{1, 2}), choice([]int{3}, 1), choice([]int{4}, 2)}, "-???", "-?-?"},
		{"all heads", []impl.Rule{choice([]int{1, 2}), choice([]int{3}, 1), choice([]int{4}, 2)}, "--??", "----"},
		{"what comes of it by another way", []impl.Rule{choice([]int{1}), choice([]int{2}, 1), choice([]int{2}, -1)}, "-?", "-?"},
		{"what it lets come is IsTrue", []impl.Rule{choice([]int{1}), choice([]int{2}, 1)}, "-+", clash},
		{"in the midst of a chain", []impl.Rule{choice([]int{1}), choice([]int{2}, 1), choice([]int{3}, 2)}, "?-?", "?--"},
		{"by weights with others", []impl.Rule{choice([]int{1, 2}), weighedChoice([]int{3}, 2, wl(1, 1), wl(2, 1))}, "-??", "-?-"},
		{"by weights without it", []impl.Rule{choice([]int{1, 2}), weighedChoice([]int{3}, 1, wl(1, 1), wl(2, 1))}, "-??", "-??"},
		{"a rule without Choice", []impl.Rule{choice([]int{3}), plain(1, 3), choice([]int{2}, 1)}, "-??", "--?"},
	})
}

func TestMayComeByWeights(t *testing.T) {
	row := []impl.WLit{wl(2, 2), wl(-3, 1), wl(4, 4)}
	open := choice([]int{2, 3})
	checkAllCome(t, []comesCase{
		{"Bound below 0", []impl.Rule{open, weighedChoice([]int{1}, -1, row...)}, "?-+?", "?-+-"},
		{"Bound 0", []impl.Rule{open, weighedChoice([]int{1}, 0, row...)}, "?-+?", "?-+-"},
		{"Bound 0 of nothing", []impl.Rule{weighedChoice([]int{1}, 0)}, "??", "?-"},
		{"Bound 1 of nothing", []impl.Rule{weighedChoice([]int{1}, 1)}, "??", "--"},
		{"Bound 1, none may be so", []impl.Rule{open, weighedChoice([]int{1}, 1, row...)}, "?-+?", "--+-"},
		{"Bound 1, none may be so, the head IsTrue", []impl.Rule{open, weighedChoice([]int{1}, 1, row...)}, "+-+?", clash},
		{"just reached by what may be", []impl.Rule{open, weighedChoice([]int{1}, 3, row...)}, "????", "???-"},
		{"one too little", []impl.Rule{open, weighedChoice([]int{1}, 4, row...)}, "????", "-??-"},
		{"just reached by one above 0", []impl.Rule{open, weighedChoice([]int{1}, 2, row...)}, "??+?", "??+-"},
		{"just reached by one below 0", []impl.Rule{open, weighedChoice([]int{1}, 1, row...)}, "?-??", "?-?-"},
		{"one below 0 IsTrue", []impl.Rule{open, weighedChoice([]int{1}, 3, row...)}, "??+?", "-?+-"},
		{"one above 0 IsFalse", []impl.Rule{open, weighedChoice([]int{1}, 2, row...)}, "?-??", "--?-"},
		{"one above 0 that may come", []impl.Rule{open, choice([]int{4}), weighedChoice([]int{1}, 7, row...)}, "????", "????"},
		{"one above 0 that may come, IsTrue", []impl.Rule{open, choice([]int{4}), weighedChoice([]int{1}, 7, row...)}, "???+", "???+"},
		{"one above 0 that may not come", []impl.Rule{open, choice([]int{4}, 4), weighedChoice([]int{1}, 7, row...)}, "????", "-??-"},
		{"Bound above the sum", []impl.Rule{open, choice([]int{4}), weighedChoice([]int{1}, 8, row...)}, "????", "-???"},
		{"a literal twice", []impl.Rule{open, weighedChoice([]int{1}, 4, wl(2, 2), wl(2, 2))}, "???", "???"},
		{"a literal twice, too little", []impl.Rule{open, weighedChoice([]int{1}, 5, wl(2, 2), wl(2, 2))}, "???", "-??"},
		{"a literal twice, below 0", []impl.Rule{open, weighedChoice([]int{1}, 4, wl(-2, 3), wl(-2, 1))}, "?-?", "?-?"},
		{"both literals of an atom, UnKnown", []impl.Rule{open, weighedChoice([]int{1}, 2, wl(2, 1), wl(-2, 1))}, "???", "???"},
		{"both literals of an atom, IsTrue", []impl.Rule{open, weighedChoice([]int{1}, 2, wl(2, 1), wl(-2, 1))}, "?+?", "-+?"},
		{"both literals of an atom, IsFalse", []impl.Rule{open, weighedChoice([]int{1}, 2, wl(2, 1), wl(-2, 1))}, "?-?", "--?"},
		{"itself alone", []impl.Rule{open, weighedChoice([]int{1}, 1, wl(1, 5))}, "???", "-??"},
		{"itself and another one", []impl.Rule{open, weighedChoice([]int{1}, 2, wl(1, 1), wl(2, 1))}, "???", "-??"},
		{"itself, and no need of it", []impl.Rule{open, weighedChoice([]int{1}, 1, wl(1, 1), wl(2, 1))}, "???", "???"},
		{"without Choice", []impl.Rule{open, weighed([]int{1}, 2, row...)}, "??+?", "??+-"},
		{"without Choice, not so", []impl.Rule{open, weighed([]int{1}, 2, row...)}, "?-??", "--?-"},
	})
}

// TestMustAndMayCome: each of the two has something to do only where the other one has set something.
func TestMustAndMayCome(t *testing.T) {
	checkAllCome(t, []comesCase{
		{"(1) after (2)", []impl.Rule{plain(1, -2)}, "??", "+-"},
		{"(1) after (2), a clash of a constraint", []impl.Rule{constraint(-2), choice([]int{1})}, "??", clash},
		{"(1) after (2), a clash of a head", []impl.Rule{plain(1, -2)}, "-?", clash},
		{"(1) after (2), by weights", []impl.Rule{weighed([]int{1}, 2, wl(-2, 1), wl(-3, 1))}, "???", "+--"},
		{"(1) after (2), of a circle", with(loop(2, 3), plain(1, -2)), "???", "+--"},
		{"(1) after (2), a chain", []impl.Rule{plain(1, 2), plain(2, -3)}, "???", "++-"},
		{"(2) after (1)", []impl.Rule{plain(1), choice([]int{2}, -1)}, "??", "+-"},
		{"(2) after (1), a clash", []impl.Rule{plain(1), choice([]int{2}, -1)}, "?+", clash},
		{"(2) after (1), by weights", []impl.Rule{plain(1), weighedChoice([]int{2}, 2, wl(-1, 1), wl(-3, 1))}, "???", "+--"},
		{"(2) after (1), of a circle", []impl.Rule{plain(1), choice([]int{2}, 3), choice([]int{3}, 2), choice([]int{3}, -1)}, "???", "+--"},
		{"(2) after (1) after (2)", []impl.Rule{plain(1, -4), choice([]int{2}, -1)}, "????", "+---"},
		{"(1) after (2) after (1)", []impl.Rule{plain(1), choice([]int{2}, -1), plain(3, -2)}, "???", "+-+"},
		{"(1) after (2) after (1), a clash", []impl.Rule{plain(1), choice([]int{2}, -1), constraint(-2)}, "???", clash},
		{"again and again", []impl.Rule{plain(6, -7), plain(5, -6), plain(4, -5), plain(3, -4), plain(2, -3), plain(1, -2)}, "???????", "-+-+-+-"},
		{"again and again, the other way round", []impl.Rule{plain(1, -2), plain(2, -3), plain(3, -4), plain(4, -5), plain(5, -6), plain(6, -7)}, "???????", "-+-+-+-"},
		{"again and again to a clash", []impl.Rule{plain(6, -7), plain(5, -6), plain(4, -5), plain(3, -4), plain(2, -3), plain(1, -2), constraint(-1)}, "???????", clash},
		{"until both are open", []impl.Rule{plain(1), plain(2, -1), plain(3, 2), plain(4, -5), plain(5, -4)}, "?????", "+--??"},
		{"an odd circle stays open", []impl.Rule{plain(1, -2), plain(2, -3), plain(3, -1)}, "???", "???"},
		{"an odd circle, one IsTrue", []impl.Rule{plain(1, -2), plain(2, -3), plain(3, -1)}, "+??", clash},
		{"an odd circle, one IsFalse", []impl.Rule{plain(1, -2), plain(2, -3), plain(3, -1)}, "-??", clash},
		{"what must be may come no other way", []impl.Rule{choice([]int{1}), plain(2, 1)}, "?+", "?+"},
		{"what must be, and may not come", []impl.Rule{plain(1, 2), choice([]int{2})}, "+-", clash},
	})
}

// TestWholeValues: of values that are whole they come themselves, where they tell an answer, and there is a clash where they tell none.
func TestWholeValues(t *testing.T) {
	checkAllCome(t, []comesCase{
		{"an answer", []impl.Rule{plain(1, -2), plain(2, -1)}, "+-", "+-"},
		{"no model", []impl.Rule{plain(1, -2), plain(2, -1)}, "--", clash},
		{"unfounded", []impl.Rule{plain(1, -2), plain(2, -1)}, "++", clash},
		{"chosen", []impl.Rule{choice([]int{1, 2, 3}), constraint(1, 2)}, "+-+", "+-+"},
		{"chosen, all", []impl.Rule{choice([]int{1, 2, 3}), constraint(1, 2)}, "+++", clash},
		{"a circle", loop(1, 2), "++", clash},
		{"a circle, not there", loop(1, 2), "--", "--"},
		{"MaxAtoms, the first answer", evenCircle(), "+-+-+-+-+-+-", "+-+-+-+-+-+-"},
		{"MaxAtoms, the last answer", evenCircle(), "-+-+-+-+-+-+", "-+-+-+-+-+-+"},
		{"MaxAtoms, none", evenCircle(), "-+-+-+-+-+++", clash},
		{"MaxAtoms, from one on", evenCircle(), "+???????????", "+-+-+-+-+-+-"},
		{"MaxAtoms, from the last one on", evenCircle(), "???????????-", "+-+-+-+-+-+-"},
		{"MaxAtoms, nothing known", evenCircle(), "????????????", "????????????"},
	})
}

func TestPropagateOfExts(t *testing.T) {
	hanging := []impl.Rule{plain(2, 1), plain(3, -1)}
	for _, c := range []struct {
		name  string
		rules []impl.Rule
		exts  []impl.Ext
		v     string
		want  string
	}{
		{"none", nil, nil, "???", "---"},
		{"V 0", nil, []impl.Ext{{Atom: 2}}, "???", "-?-"},
		{"V 0, IsTrue", nil, []impl.Ext{{Atom: 2}}, "?+?", "-+-"},
		{"V 0, IsFalse", nil, []impl.Ext{{Atom: 2}}, "?-?", "---"},
		{"V 1", nil, []impl.Ext{{Atom: 2, V: 1}}, "???", "-+-"},
		{"V 1, IsFalse", nil, []impl.Ext{{Atom: 2, V: 1}}, "?-?", clash},
		{"V 2", nil, []impl.Ext{{Atom: 2, V: 2}}, "???", "---"},
		{"V 2, IsTrue", nil, []impl.Ext{{Atom: 2, V: 2}}, "?+?", clash},
		{"each V", nil, allExts(), "???", "?+-"},
		{"V 0, and what hangs on it", hanging, []impl.Ext{{Atom: 1}}, "???", "???"},
		{"V 0, IsTrue, and what hangs on it", hanging, []impl.Ext{{Atom: 1}}, "+??", "++-"},
		{"V 0, IsFalse, and what hangs on it", hanging, []impl.Ext{{Atom: 1}}, "-??", "--+"},
		{"V 1, and what hangs on it", hanging, []impl.Ext{{Atom: 1, V: 1}}, "???", "++-"},
		{"V 2, and what hangs on it", hanging, []impl.Ext{{Atom: 1, V: 2}}, "???", "--+"},
		{"V 0 of a head", hanging, []impl.Ext{{Atom: 2}}, "???", "--+"},
		{"V 1 of a head", hanging, []impl.Ext{{Atom: 2, V: 1}}, "???", "--+"},
		{"V 1 of a head, IsTrue", hanging, []impl.Ext{{Atom: 2, V: 1}}, "?+?", clash},
		{"V 2 of a head", hanging, []impl.Ext{{Atom: 3, V: 2}}, "???", "--+"},
	} {
		checkComes(t, c.name, impl.Prog{Atoms: 3, Rules: c.rules, Exts: c.exts}, c.v, c.want)
	}
}

// TestPropagateOfWhatIsAssumed: it clashes with what is known, and tells of nothing that is not.
func TestPropagateOfWhatIsAssumed(t *testing.T) {
	open := []impl.Rule{choice([]int{1, 2})}
	for _, c := range []struct {
		name   string
		rules  []impl.Rule
		exts   []impl.Ext
		assume []int
		v      string
		want   string
	}{
		{"above 0, UnKnown", open, nil, []int{1}, "???", "??-"},
		{"above 0, IsTrue", open, nil, []int{1}, "+??", "+?-"},
		{"above 0, IsFalse", open, nil, []int{1}, "-??", clash},
		{"above 0, may not come", open, nil, []int{3}, "???", clash},
		{"above 0, a fact", []impl.Rule{plain(1)}, nil, []int{1}, "???", "+--"},
		{"below 0, UnKnown", open, nil, []int{-1}, "???", "??-"},
		{"below 0, IsTrue", open, nil, []int{-1}, "+??", clash},
		{"below 0, IsFalse", open, nil, []int{-1}, "-??", "-?-"},
		{"below 0, may not come", open, nil, []int{-3}, "???", "??-"},
		{"below 0, a fact", []impl.Rule{plain(1)}, nil, []int{-1}, "???", clash},
		{"the last of some", open, nil, []int{1, -2, 1, 2}, "+-?", clash},
		{"both of an atom, UnKnown", open, nil, []int{1, -1}, "???", "??-"},
		{"both of an atom, IsTrue", open, nil, []int{1, -1}, "+??", clash},
		{"lets nothing come", nil, nil, []int{1}, "+??", clash},
		{"a circle", loop(1, 2), nil, []int{1}, "???", clash},
		{"external with V 0", nil, []impl.Ext{{Atom: 1}}, []int{1}, "???", "?--"},
		{"external with V 0, IsFalse", nil, []impl.Ext{{Atom: 1}}, []int{1}, "-??", clash},
		{"external with V 1", nil, []impl.Ext{{Atom: 1, V: 1}}, []int{1}, "???", "+--"},
		{"external with V 1, below 0", nil, []impl.Ext{{Atom: 1, V: 1}}, []int{-1}, "???", clash},
		{"external with V 2", nil, []impl.Ext{{Atom: 1, V: 2}}, []int{1}, "???", clash},
		{"external with V 2, below 0", nil, []impl.Ext{{Atom: 1, V: 2}}, []int{-1}, "???", "---"},
	} {
		checkComes(t, c.name, impl.Prog{Atoms: 3, Rules: c.rules, Exts: c.exts, Assume: c.assume}, c.v, c.want)
	}
}

// TestPropagateOfMaxAtoms: a long way to all atoms, and of all rules.
func TestPropagateOfMaxAtoms(t *testing.T) {
	var chain []impl.Rule
	for a := 1; a < 12; a++ {
		chain = append(chain, plain(a, a+1))
	}
	checkAllCome(t, []comesCase{
		{"a chain", with(chain, plain(12)), "????????????", "++++++++++++"},
		{"a chain that may come", with(chain, choice([]int{12})), "????????????", "????????????"},
		{"a chain that may not come", chain, "????????????", "------------"},
		{"a chain to its end", with(chain, choice([]int{12})), "-??????????+", clash},
		{"a chain from the midst on", with(chain, choice([]int{12}), choice([]int{6})), "?????+?????-", "++++++------"},
		{"MaxRules rules, the last one tells", append(times(59, plain(1, 12)), plain(12)), "????????????", "+----------+"},
		{"MaxRules rules, the first one tells", append([]impl.Rule{plain(12)}, times(59, plain(1, 12))...), "????????????", "+----------+"},
		{"MaxRules rules, the last one clashes", append(times(59, plain(12)), constraint(12)), "????????????", clash},
	})
}

// mustBy tells by the definition whether a body must hold, with the values v.
func mustBy(r impl.Rule, v []int) bool {
	return countedBy(r, func(a int) bool { return v[a-1] == 1 }, func(a int) bool { return v[a-1] == 2 })
}

// mayBy tells whether it may hold where of literals above 0 only those count whose atom is in s.
func mayBy(r impl.Rule, v, s []int) bool {
	return countedBy(r, func(a int) bool { return v[a-1] != 2 && slices.Contains(s, a) }, func(a int) bool { return v[a-1] != 1 })
}

// countedBy tells whether a body holds where only those literals count of whose atoms it is so, above 0 and below.
func countedBy(r impl.Rule, above, below func(a int) bool) bool {
	together, counted := 0, 0
	for _, w := range r.Body {
		if w.L > 0 && above(w.L) || w.L < 0 && below(-w.L) {
			together += w.W
			counted++
		}
	}
	if r.Weight {
		return together >= r.Bound
	}
	return counted == len(r.Body)
}

// comeBy is the number of the least set of atoms that may come: what is in all sets that have each head, if it is not IsFalse, of each rule whose body may hold.
func comeBy(rules []impl.Rule, n int, v []int) int {
	come := 1<<n - 1
	for num := range 1 << n {
		s := impl.SetOf(num)
		lacks := slices.ContainsFunc(rules, func(r impl.Rule) bool {
			return mayBy(r, v, s) && slices.ContainsFunc(r.Heads, func(a int) bool { return v[a-1] != 2 && !slices.Contains(s, a) })
		})
		if !lacks {
			come &= num
		}
	}
	return come
}

// restBy tells whether of the values v nothing comes but themselves, without a clash.
func restBy(rules []impl.Rule, n int, v []int) bool {
	for _, r := range rules {
		if !r.Choice && mustBy(r, v) && (len(r.Heads) == 0 || v[r.Heads[0]-1] != 1) {
			return false
		}
	}
	come := impl.SetOf(comeBy(rules, n, v))
	for a := 1; a <= n; a++ {
		if v[a-1] != 2 && !slices.Contains(come, a) {
			return false
		}
	}
	return true
}

// tellsMore tells whether w has all that v tells.
func tellsMore(w, v []int) bool {
	for i := range v {
		if v[i] != 0 && w[i] != v[i] {
			return false
		}
	}
	return true
}

// comesBy is what comes of v, told without beginning anywhere: what all values share that have what v tells and are at rest; a clash, if there are none.
func comesBy(resting [][]int, v []int) string {
	var shared []int
	for _, w := range resting {
		if !tellsMore(w, v) {
			continue
		}
		if shared == nil {
			shared = slices.Clone(w)
		}
		for i := range w {
			if shared[i] != w[i] {
				shared[i] = 0
			}
		}
	}
	if shared == nil {
		return clash
	}
	return valuesText(shared)
}

// someOpen is a program of n atoms with some of each kind, less of it assumed, so that there are answers more often.
func someOpen(from *rand.Rand, n int) impl.Prog {
	p := someWhole(from, n)
	if from.Intn(3) > 0 {
		p.Assume = nil
	}
	for i, r := range p.Rules {
		if len(r.Heads) == 0 && from.Intn(2) > 0 {
			p.Rules[i].Heads = []int{1 + from.Intn(n)}
		}
	}
	for range from.Intn(2 * n) {
		p.Rules = slices.Insert(p.Rules, from.Intn(len(p.Rules)+1), plain(1+from.Intn(n), someLiterals(from, n)...))
	}
	return p
}

// TestPropagateOfMany: of many programs, and all values, what comes as the definitions tell.
func TestPropagateOfMany(t *testing.T) {
	from := rand.New(rand.NewSource(29))
	clashes, more, still := 0, 0, 0
	for range 1500 {
		n := 1 + from.Intn(4)
		p := someOpen(from, n)
		folded, ok := impl.Fold(p)
		if !ok {
			t.Fatalf("%+v is not folded", p)
		}
		var resting [][]int
		for num := range power(n, 3) {
			if v := valuesNum(num, n); restBy(folded.Rules, n, v) {
				resting = append(resting, v)
			}
		}
		for num := range power(n, 3) {
			v := valuesText(valuesNum(num, n))
			want := comesBy(resting, valuesOf(v))
			checkComes(t, "one of many", p, v, want)
			switch want {
			case clash:
				clashes++
			case v:
				still++
			default:
				more++
			}
		}
	}
	if clashes < 10000 || more < 3000 || still < 3000 {
		t.Errorf("the programs are too much alike: %d clashes, %d values of which more comes, %d at rest", clashes, more, still)
	}
}

// TestAnswersAgreeWithWhatComes: an answer that agrees with values agrees with what comes of them, so that none agrees where there is a clash; whole values that come are an answer; what comes has what was known, and nothing comes of it but itself.
func TestAnswersAgreeWithWhatComes(t *testing.T) {
	from := rand.New(rand.NewSource(30))
	agreed, told, whole, clashes := 0, 0, 0, 0
	for range 1200 {
		n := 1 + from.Intn(5)
		p := someOpen(from, n)
		answers := answersOfWhole(p)
		if got := numsOf(impl.Answers(p)); !slices.Equal(got, answers) {
			t.Fatalf("Answers(%+v) = %v, not %v", p, got, answers)
		}
		for num := range power(n, 3) {
			v := valuesNum(num, n)
			come, ok := impl.Propagate(p, v)
			if !ok {
				clashes++
			} else if again, ok := impl.Propagate(p, come); !ok || !slices.Equal(again, come) || !impl.ValsOk(p, come) || !tellsMore(come, v) {
				t.Fatalf("Propagate(%+v, %v) = %v, and of that comes %v, %v", p, v, come, again, ok)
			}
			for _, x := range answers {
				if agrees(impl.SetOf(x), v) && (!ok || !agrees(impl.SetOf(x), come) || !impl.Agrees(impl.SetOf(x), come)) {
					t.Fatalf("Propagate(%+v, %v) = %v, %v, with which the answer %v does not agree", p, v, come, ok, impl.SetOf(x))
				}
				if agrees(impl.SetOf(x), v) {
					agreed++
					if !slices.Equal(come, v) {
						told++
					}
				}
			}
			if ok && impl.Whole(come) {
				whole++
				if x := impl.TrueOf(come); !slices.Contains(answers, impl.SetNum(x)) || !impl.Answer(p, x) || !impl.Agrees(x, come) || !impl.Agrees(x, v) {
					t.Fatalf("Propagate(%+v, %v) = %v, which is no answer", p, v, come)
				}
			}
		}
	}
	if agreed < 10000 || told < 5000 || whole < 5000 || clashes < 10000 {
		t.Errorf("the programs are too much alike: %d answers agree, %d of them with more than was known, %d values come whole, %d clashes", agreed, told, whole, clashes)
	}
}

// TestWholeValuesAreAnswers: of values that are whole nothing else comes, and there is no clash just where they tell an answer.
func TestWholeValuesAreAnswers(t *testing.T) {
	from := rand.New(rand.NewSource(31))
	found, none := 0, 0
	for range 1500 {
		n := 1 + from.Intn(6)
		p := someOpen(from, n)
		answers := answersOfWhole(p)
		for num := range 1 << n {
			v := times(n, impl.IsFalse)
			for _, a := range impl.SetOf(num) {
				v[a-1] = impl.IsTrue
			}
			want := clash
			if slices.Contains(answers, num) {
				want = valuesText(v)
				found++
			} else {
				none++
			}
			checkComes(t, "whole values", p, valuesText(v), want)
		}
	}
	if found < 500 || none < 5000 {
		t.Errorf("the programs are too much alike: %d answers, %d others", found, none)
	}
}

// TestMoreKnownTellsMore: of values with more known at least as much comes, or a clash; and in what order the rules stand is all the same.
func TestMoreKnownTellsMore(t *testing.T) {
	from := rand.New(rand.NewSource(32))
	compared := 0
	for range 3000 {
		n := 1 + from.Intn(12)
		p := someOpen(from, n)
		v := times(n, impl.UnKnown)
		come, ok := impl.Propagate(p, v)
		for range n {
			mixed := deepCopy(p)
			from.Shuffle(len(mixed.Rules), func(i, j int) { mixed.Rules[i], mixed.Rules[j] = mixed.Rules[j], mixed.Rules[i] })
			if other, same := impl.Propagate(mixed, v); same != ok || !slices.Equal(other, come) {
				t.Fatalf("Propagate(%+v, %v) = %v, %v, but with the rules in another order %v, %v", p, v, come, ok, other, same)
			}
			if i := from.Intn(n); v[i] == impl.UnKnown {
				v[i] = 1 + from.Intn(2)
			}
			more, still := impl.Propagate(p, v)
			if still && (!ok || !tellsMore(more, come)) {
				t.Fatalf("of %v comes %v, but of less %v, %v, in %+v", v, more, come, ok, p)
			}
			if still && !slices.Equal(more, come) {
				compared++
			}
			come, ok = more, still
		}
	}
	if compared < 500 {
		t.Errorf("the programs are too much alike: %d are compared", compared)
	}
}

// valued are values of many kinds for a program with n atoms, and what is none.
func valued(n int) [][]int {
	n = max(0, min(n, 12))
	all := [][]int{nil, {0}, {1, 2, 0}, {3, -1}, times(13, 1), times(40, 2)}
	for value := range 3 {
		all = append(all, times(n, value))
	}
	for num := range 6 {
		all = append(all, valuesNum(num*11111, n))
	}
	return all
}

// propagable are programs, and what is none, of which more comes step by step.
func propagable() []impl.Prog {
	return append(answerable(),
		impl.Prog{Atoms: 6, Rules: []impl.Rule{plain(1, -2), choice([]int{3, 4}, 1), plain(5, -1), weighed([]int{6}, 2, wl(1, 1), wl(3, 1))}},
		impl.Prog{Atoms: 4, Rules: with(loop(1, 2), plain(4, -1)), Exts: []impl.Ext{{Atom: 3}}, Assume: []int{4, -1}},
		impl.Prog{Atoms: 3, Rules: []impl.Rule{choice([]int{1, 2, 3}), constraint(1, 2)}},
	)
}

func TestPropagateArgumentsAreKept(t *testing.T) {
	for _, made := range propagable() {
		for _, v := range valued(made.Atoms) {
			list := withSpare(v)
			keeping(t, "ValsOk", withSpare(made), func(p impl.Prog) { impl.ValsOk(p, list) })
			keeping(t, "Propagate", withSpare(made), func(p impl.Prog) { impl.Propagate(p, list) })
			impl.Whole(list)
			impl.TrueOf(list)
			checkKept(t, "a call of chapter 8", list, v)
			for _, x := range lists {
				set := withSpare(x)
				impl.Agrees(set, list)
				checkKept(t, "Agrees", set, x)
				checkKept(t, "Agrees", list, v)
			}
		}
	}
	from := rand.New(rand.NewSource(33))
	for range 300 {
		p := someOpen(from, 5)
		v := valuesNum(from.Intn(power(5, 3)), 5)
		list := withSpare(v)
		keeping(t, "Propagate", withSpare(p), func(p impl.Prog) { impl.Propagate(p, list) })
		checkKept(t, "Propagate", list, v)
	}
}

func TestPropagateSpareIsNotRead(t *testing.T) {
	for _, made := range propagable() {
		p := withSpare(made)
		for _, v := range valued(made.Atoms) {
			list := withSpare(v)
			come, ok := impl.Propagate(made, v)
			if again, same := impl.Propagate(p, list); ok != same || !slices.Equal(come, again) || impl.ValsOk(p, list) != impl.ValsOk(made, v) {
				t.Errorf("the room behind the lists of %+v or %v is read", made, v)
			}
			if impl.Whole(list) != impl.Whole(v) || !slices.Equal(impl.TrueOf(list), impl.TrueOf(v)) {
				t.Errorf("the room behind %v is read", v)
			}
			for _, x := range lists {
				if impl.Agrees(withSpare(x), list) != impl.Agrees(x, v) {
					t.Errorf("the room behind %v or %v is read", x, v)
				}
			}
		}
	}
	open := append(times(11, 1), 1, 2, 0)
	if !impl.Whole(open[:13]) || impl.Whole(open) || textOf(impl.TrueOf(open[:2])) != "1 2" || !impl.Agrees([]int{1}, open[:1]) {
		t.Error("what lies behind a list's length is read")
	}
}

func TestPropagateAnswersAreNew(t *testing.T) {
	for _, made := range propagable() {
		p := withSpare(made)
		for _, v := range valued(made.Atoms) {
			list := withSpare(v)
			come, _ := impl.Propagate(p, list)
			again, _ := impl.Propagate(p, list)
			x := impl.TrueOf(list)
			checkApart(t, "Propagate and TrueOf", p, list, come, again, x, impl.TrueOf(list))
			handsOutNothing(t, "Propagate", reflect.ValueOf(come))
			handsOutNothing(t, "TrueOf", reflect.ValueOf(x))
		}
	}
	p := impl.Prog{Atoms: 3, Rules: []impl.Rule{plain(1, -2), choice([]int{3})}}
	still := valuesOf("+-?")
	come, _ := impl.Propagate(p, still)
	overwrite(come, 2)
	overwrite(impl.TrueOf(still), -1)
	if valuesText(still) != "+-?" {
		t.Errorf("where an answer is written into, the argument is %v", still)
	}
	checkComes(t, "where one is written into", p, "???", "+-?")
	checkComes(t, "where one is written into, at rest", p, "+-?", "+-?")
}
