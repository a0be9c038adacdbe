package tests

import (
	"math"
	"math/rand"
	"reflect"
	"runtime"
	"slices"
	"strconv"
	"strings"
	"testing"
	"time"

	"loop.example/g00554/impl"
)

func TestMaxBudget(t *testing.T) {
	if impl.MaxBudget != 20000 {
		t.Fatal(impl.MaxBudget)
	}
}

// open is a choice of n atoms, so that nothing comes of values but themselves.
func open(n int) impl.Prog {
	return impl.Prog{Atoms: n, Rules: []impl.Rule{choice(impl.SetOf(1<<n - 1))}}
}

// checkSplits fails where another atom is asked next, or not so; want is a literal, and 0 where nothing is asked.
func checkSplits(t *testing.T, name string, p impl.Prog, order, v []int, want int) {
	t.Helper()
	a, first := impl.Splits(p, order, v)
	if a != sized(want) || first != (want > 0) {
		t.Errorf("%s: Splits(%+v, %v, %v) = %d, %v, not %d", name, p, order, v, a, first, want)
	}
}

func TestSplits(t *testing.T) {
	for _, c := range []struct {
		name  string
		order []int
		v     string
		want  int
	}{
		{"no order", nil, "????", 1},
		{"an order of no literals", []int{}, "????", 1},
		{"an order of no literals, the first known", []int{}, "+???", 2},
		{"an order of no literals, some known", []int{}, "-+?+", 3},
		{"an order of no literals, all but the last known", []int{}, "-+-?", 4},
		{"above 0", []int{3}, "????", 3},
		{"below 0", []int{-3}, "????", -3},
		{"the first of some", []int{2, 4, -1}, "????", 2},
		{"the first of some, below 0", []int{-4, 2, 1}, "????", -4},
		{"the first one IsTrue", []int{2, 4, -1}, "?+??", 4},
		{"the first one IsFalse", []int{2, 4, -1}, "?-??", 4},
		{"the first one IsTrue, below 0", []int{-2, -4, 1}, "?+??", -4},
		{"all but the last one known", []int{2, 4, -1}, "?-?+", -1},
		{"all of them known", []int{2, 4, -1}, "+-?+", 3},
		{"one literal, known", []int{-4}, "???-", 1},
		{"one literal, known, and more", []int{-4}, "+-?-", 3},
		{"none of those that are open", []int{-1, 1, 2}, "-+??", 3},
		{"above Atoms", []int{5}, "????", 1},
		{"above Atoms, below 0", []int{-5}, "????", 1},
		{"above Atoms at first", []int{12, -5, 3, 2}, "????", 3},
		{"above MaxAtoms at first", []int{13, -13, -3}, "????", -3},
		{"0 at first", []int{0, -3}, "????", -3},
		{"0 alone", []int{0}, "-???", 2},
		{"what is no atom", []int{math.MinInt, math.MaxInt, -math.MaxInt, 1<<32 + 2, -1<<32 - 2, 258, -258, 65537, 18, -3}, "????", -3},
		{"what is no atom alone", []int{math.MinInt, 1 << 32, 256, 0, -64}, "+??-", 2},
		{"a literal twice", []int{3, 3}, "????", 3},
		{"a literal twice, known", []int{3, 3, -2}, "??+?", -2},
		{"both of an atom, above 0 first", []int{3, -3}, "????", 3},
		{"both of an atom, below 0 first", []int{-3, 3}, "????", -3},
		{"both of an atom, known", []int{-3, 3}, "??+?", 1},
		{"more than MaxBody", append(times(20, 1), -3), "+???", -3},
		{"many", append(times(1000, -1), 4), "-+??", 4},
		{"none is open", nil, "+-+-", 0},
		{"none is open, with an order", []int{2, -1, 5, 0}, "+-+-", 0},
		{"all IsTrue", []int{-4}, "++++", 0},
		{"all IsFalse", []int{4}, "----", 0},
	} {
		checkSplits(t, c.name, open(4), c.order, valuesOf(c.v), c.want)
	}
}

// TestSplitsOfValuesAsTheyAre: nothing is asked of what would come of them, nor of whether there is a clash.
func TestSplitsOfValuesAsTheyAre(t *testing.T) {
	for _, c := range []struct {
		name  string
		p     impl.Prog
		order []int
		v     string
		want  int
	}{
		{"a fact", impl.Prog{Atoms: 2, Rules: []impl.Rule{plain(1)}}, nil, "??", 1},
		{"a fact of the order", impl.Prog{Atoms: 2, Rules: []impl.Rule{plain(2)}}, []int{-2}, "??", -2},
		{"the head of no rule", impl.Prog{Atoms: 2}, []int{2}, "??", 2},
		{"a clash", impl.Prog{Atoms: 2, Rules: []impl.Rule{constraint()}}, []int{-2}, "??", -2},
		{"a clash, none open", impl.Prog{Atoms: 2, Rules: []impl.Rule{constraint()}}, []int{-2}, "++", 0},
		{"what is assumed", impl.Prog{Atoms: 2, Assume: []int{-1, 2}}, nil, "??", 1},
		{"external", impl.Prog{Atoms: 2, Exts: []impl.Ext{{Atom: 1, V: 2}, {Atom: 2, V: 1}}}, []int{-2, 1}, "??", -2},
		{"0 atoms", impl.Prog{}, []int{1, -1, 0}, "", 0},
		{"MaxAtoms", impl.Prog{Atoms: 12}, []int{-12}, "????????????", -12},
		{"MaxAtoms, the last one open", impl.Prog{Atoms: 12}, []int{1, -11}, "-----------?", 12},
		{"an atom just above Atoms", impl.Prog{Atoms: 11}, []int{12, -11}, "???????????", -11},
	} {
		checkSplits(t, c.name, c.p, c.order, valuesOf(c.v), c.want)
	}
}

func TestSplitsOfNoValues(t *testing.T) {
	three := open(3)
	checkSplits(t, "values", three, []int{2}, []int{0, 0, 0}, 2)
	for name, v := range map[string][]int{
		"none":              nil,
		"one too few":       {0, 0},
		"one too many":      {0, 0, 0, 0},
		"below 0":           {0, 0, -1},
		"above 2":           {3, 0, 0},
		"the least number":  {0, 0, math.MinInt},
		"a byte of them is": {256, 0, 0},
		"many":              times(1000, 0),
	} {
		for _, order := range [][]int{nil, {2}, {-2, 1}} {
			checkSplits(t, name, three, order, v, 0)
		}
	}
	whole := wholeProg()
	checkSplits(t, "without a change", whole, []int{-8}, times(9, 0), -8)
	for name, change := range noProgs() {
		p := deepCopy(whole)
		change(&p)
		for _, n := range []int{0, 8, 9, 12, 13} {
			checkSplits(t, name, p, []int{-8}, times(n, 0), 0)
			checkSplits(t, name, p, nil, times(n, 0), 0)
		}
	}
	full := impl.Prog{Atoms: 12, Rules: times(60, plain(12))}
	checkSplits(t, "MaxRules rules", full, nil, times(12, 0), 1)
	full.Exts = []impl.Ext{{Atom: 1}}
	checkSplits(t, "one more than MaxRules", full, nil, times(12, 0), 0)
	full.Rules = full.Rules[:59]
	checkSplits(t, "just MaxRules with what is external", full, nil, times(12, 0), 1)
	full.Assume = []int{12}
	checkSplits(t, "one more with what is assumed", full, []int{4}, times(12, 0), 0)
}

// splitsBy tells by the definition which literal is so first, and 0 where nothing is asked.
func splitsBy(order, v []int) int {
	for _, l := range order {
		if a := sized(l); a >= 1 && a <= len(v) && v[a-1] == 0 {
			return l
		}
	}
	for a := 1; a <= len(v); a++ {
		if v[a-1] == 0 {
			return a
		}
	}
	return 0
}

// someOrder has up to most literals of atoms up to n, of both signs.
func someOrder(from *rand.Rand, most, n int) []int {
	var order []int
	for range from.Intn(most + 1) {
		order = append(order, (1+from.Intn(n))*(1-2*from.Intn(2)))
	}
	return order
}

func TestSplitsOfMany(t *testing.T) {
	from := rand.New(rand.NewSource(34))
	above, below, none := 0, 0, 0
	for range 20000 {
		n := from.Intn(13)
		p := impl.Prog{Atoms: n}
		if n > 0 {
			p = someWhole(from, n)
		}
		v := make([]int, n)
		for i := range v {
			v[i] = from.Intn(3)
		}
		order := someOrder(from, 25, 14)
		want := splitsBy(order, v)
		checkSplits(t, "one of many", p, order, v, want)
		switch {
		case want > 0:
			above++
		case want < 0:
			below++
		default:
			none++
		}
	}
	if above < 4000 || below < 4000 || none < 1000 {
		t.Errorf("the values are too much alike: %d above 0, %d below 0, %d that are whole", above, below, none)
	}
}

// foundText writes what a search has found: whether it is done, its steps, and its sets, in their order.
func foundText(f impl.Found) string {
	words := []string{"over", strconv.Itoa(f.Steps)}
	if f.Done {
		words[0] = "done"
	}
	for _, text := range textsOf(f.Sets) {
		words = append(words, "{"+text+"}")
	}
	return strings.Join(words, " ")
}

func checkFound(t *testing.T, name string, p impl.Prog, order []int, most, budget int, want string) {
	t.Helper()
	f := impl.Search(p, order, most, budget)
	if got := foundText(f); got != want {
		t.Errorf("%s: Search(%+v, %v, %d, %d) is %q, not %q", name, p, order, most, budget, got, want)
	}
	for _, s := range f.Sets {
		if !impl.SetOk(s.A, p.Atoms) {
			t.Errorf("%s: Search(%+v, %v, %d, %d) has %v, which is no set", name, p, order, most, budget, s.A)
		}
	}
}

// checkNotFound fails where a search is anything but the zero Found.
func checkNotFound(t *testing.T, name string, p impl.Prog, order []int, most, budget int) {
	t.Helper()
	if f := impl.Search(p, order, most, budget); f.Done || f.Steps != 0 || len(f.Sets) != 0 {
		t.Errorf("%s: Search(%+v, %v, %d, %d) = %+v", name, p, order, most, budget, f)
	}
}

// TestSearch: all of a program, with one order of asking.
func TestSearch(t *testing.T) {
	for _, c := range []struct {
		name  string
		atoms int
		rules []impl.Rule
		want  string
	}{
		{"no atoms", 0, nil, "done 1 {}"},
		{"no atoms, and a clash", 0, []impl.Rule{constraint()}, "done 1"},
		{"no atoms, Bound 0", 0, []impl.Rule{weighed(nil, 0)}, "done 1"},
		{"no atoms, Bound 1", 0, []impl.Rule{weighed(nil, 1)}, "done 1 {}"},
		{"no rules", 3, nil, "done 1 {}"},
		{"no rules, MaxAtoms", 12, nil, "done 1 {}"},
		{"a clash at first", 2, []impl.Rule{choice([]int{1, 2}), constraint()}, "done 1"},
		{"a clash of facts", 2, []impl.Rule{plain(1), plain(2, 1), constraint(1, 2)}, "done 1"},
		{"whole at first", 2, []impl.Rule{plain(1), plain(2, -1)}, "done 1 {1}"},
		{"whole at first, all", 3, []impl.Rule{plain(1), plain(2, 1), plain(3, 2)}, "done 1 {1 2 3}"},
		{"whole at first, nothing", 2, loop(1, 2), "done 1 {}"},
		{"an even circle", 2, []impl.Rule{plain(1, -2), plain(2, -1)}, "done 3 {1} {2}"},
		{"an odd circle", 1, []impl.Rule{plain(1, -1)}, "done 3"},
		{"an odd circle of three", 3, []impl.Rule{plain(1, -2), plain(2, -3), plain(3, -1)}, "done 3"},
		{"one open", 1, []impl.Rule{choice([]int{1})}, "done 3 {1} {}"},
		{"one open, and one that hangs on it", 2, []impl.Rule{choice([]int{1}), plain(2, 1)}, "done 3 {1 2} {}"},
		{"one open, and one ahead that hangs on it", 2, []impl.Rule{choice([]int{2}), plain(1, 2)}, "done 7 {1 2} {}"},
		{"two open", 2, []impl.Rule{choice([]int{1, 2})}, "done 7 {1 2} {1} {2} {}"},
		{"two open, not both", 2, []impl.Rule{choice([]int{1, 2}), constraint(1, 2)}, "done 7 {1} {2} {}"},
		{"two open, one at least", 2, []impl.Rule{choice([]int{1, 2}), constraint(-1, -2)}, "done 7 {1 2} {1} {2}"},
		{"the first answer is the only one", 1, []impl.Rule{choice([]int{1}), constraint(-1)}, "done 3 {1}"},
		{"the last answer is the only one", 1, []impl.Rule{choice([]int{1}), constraint(1)}, "done 3 {}"},
		{"no answer", 2, []impl.Rule{choice([]int{1, 2}), constraint(1), constraint(-1)}, "done 3"},
		{"no answer below", 2, []impl.Rule{choice([]int{1, 2}), constraint(2), constraint(-2)}, "done 7"},
		{"one hangs on the other one", 2, []impl.Rule{choice([]int{1}), choice([]int{2}, 1)}, "done 5 {1 2} {1} {}"},
		{"one hangs on the other one that is not", 2, []impl.Rule{choice([]int{1}), choice([]int{2}, -1)}, "done 5 {1} {2} {}"},
		{"one hangs on the one behind", 2, []impl.Rule{choice([]int{2}), choice([]int{1}, 2)}, "done 7 {1 2} {2} {}"},
		{"weights", 3, []impl.Rule{choice([]int{1, 2}), weighed([]int{3}, 2, wl(1, 1), wl(2, 2)), constraint(-3)}, "done 7 {1 2 3} {2 3}"},
		{"the last atom", 12, []impl.Rule{choice([]int{12})}, "done 3 {12} {}"},
		{"MaxAtoms in a circle", 12, evenCircle(), "done 3 {1 3 5 7 9 11} {2 4 6 8 10 12}"},
	} {
		p := impl.Prog{Atoms: c.atoms, Rules: c.rules}
		checkFound(t, c.name, p, nil, 0, impl.MaxBudget, c.want)
		checkFound(t, c.name, p, []int{}, 0, impl.MaxBudget, c.want)
	}
}

// TestSearchInOrder: what is asked first is so first, so that the sets come in another order.
func TestSearchInOrder(t *testing.T) {
	two, three := open(2), open(3)
	for _, c := range []struct {
		name  string
		p     impl.Prog
		order []int
		want  string
	}{
		{"above 0", two, []int{1}, "done 7 {1 2} {1} {2} {}"},
		{"below 0", two, []int{-1}, "done 7 {2} {} {1 2} {1}"},
		{"the second first", two, []int{2}, "done 7 {1 2} {2} {1} {}"},
		{"the second first, below 0", two, []int{-2}, "done 7 {1} {} {1 2} {2}"},
		{"both below 0", two, []int{-1, -2}, "done 7 {} {2} {1} {1 2}"},
		{"both below 0, the second first", two, []int{-2, -1}, "done 7 {} {1} {2} {1 2}"},
		{"one of each", two, []int{1, -2}, "done 7 {1} {1 2} {} {2}"},
		{"a literal twice", two, []int{2, 2}, "done 7 {1 2} {2} {1} {}"},
		{"both of an atom", two, []int{-2, 2, 1}, "done 7 {1} {} {1 2} {2}"},
		{"above Atoms", two, []int{3, -12, -2}, "done 7 {1} {} {1 2} {2}"},
		{"above Atoms alone", two, []int{3, -12}, "done 7 {1 2} {1} {2} {}"},
		{"three, from the last on", three, []int{3, 2, 1}, "done 15 {1 2 3} {2 3} {1 3} {3} {1 2} {2} {1} {}"},
		{"three, as Answers tells them", three, []int{-3, -2, -1}, "done 15 {} {1} {2} {1 2} {3} {1 3} {2 3} {1 2 3}"},
		{"three, the middle one", three, []int{-2}, "done 15 {1 3} {1} {3} {} {1 2 3} {1 2} {2 3} {2}"},
		{"less to ask", impl.Prog{Atoms: 2, Rules: []impl.Rule{choice([]int{1}), choice([]int{2}, 1)}}, []int{-1}, "done 5 {} {1 2} {1}"},
		{"more to ask", impl.Prog{Atoms: 2, Rules: []impl.Rule{choice([]int{1}), choice([]int{2}, 1)}}, []int{-2}, "done 7 {1} {} {1 2}"},
		{"a circle", impl.Prog{Atoms: 2, Rules: []impl.Rule{plain(1, -2), plain(2, -1)}}, []int{-1}, "done 3 {2} {1}"},
		{"a circle, the second", impl.Prog{Atoms: 2, Rules: []impl.Rule{plain(1, -2), plain(2, -1)}}, []int{2}, "done 3 {2} {1}"},
		{"what is known is not asked", impl.Prog{Atoms: 3, Rules: []impl.Rule{plain(3), choice([]int{1, 2})}}, []int{-3, -2}, "done 7 {1 3} {3} {1 2 3} {2 3}"},
		{"what has come is not asked", impl.Prog{Atoms: 3, Rules: []impl.Rule{choice([]int{1, 2}), plain(3, 1)}}, []int{1, -3, -2}, "done 7 {1 3} {1 2 3} {} {2}"},
		{"no answer sooner", impl.Prog{Atoms: 2, Rules: []impl.Rule{choice([]int{1, 2}), constraint(2), constraint(-2)}}, []int{2}, "done 3"},
	} {
		checkFound(t, c.name, c.p, c.order, 0, impl.MaxBudget, c.want)
	}
}

// TestSearchOfMostAndBudget: of two open atoms, with steps 3, 4, 6 and 7 for the answers.
func TestSearchOfMostAndBudget(t *testing.T) {
	whole := []string{" {1 2}", " {1}", " {2}", " {}"}
	at := []int{3, 4, 6, 7}
	for most := range 8 {
		for budget := range 12 {
			end, steps := "done ", 7
			if most > 0 && most < 4 {
				steps = at[most-1]
			}
			if budget < steps {
				end, steps = "over ", budget
			}
			want := end + strconv.Itoa(steps)
			for i, text := range whole {
				if at[i] <= steps {
					want += text
				}
			}
			checkFound(t, "two open", open(2), nil, most, budget, want)
		}
	}
}

func TestSearchAtItsEnds(t *testing.T) {
	first := impl.Prog{Atoms: 1, Rules: []impl.Rule{choice([]int{1}), constraint(-1)}}
	clashing := impl.Prog{Atoms: 1, Rules: []impl.Rule{constraint()}}
	for _, c := range []struct {
		name   string
		p      impl.Prog
		order  []int
		most   int
		budget int
		want   string
	}{
		{"budget 0", open(2), nil, 0, 0, "over 0"},
		{"budget 0 of no atoms", impl.Prog{}, nil, 0, 0, "over 0"},
		{"budget 0 and most 1", impl.Prog{}, nil, 1, 0, "over 0"},
		{"budget 0 of a clash", clashing, nil, 0, 0, "over 0"},
		{"budget 1", open(2), nil, 0, 1, "over 1"},
		{"budget 1 of what is whole", impl.Prog{Atoms: 3}, nil, 0, 1, "done 1 {}"},
		{"budget 1 of what is whole, most 1", impl.Prog{Atoms: 3}, nil, 1, 1, "done 1 {}"},
		{"budget 1 of what is whole, most 2", impl.Prog{Atoms: 3}, nil, 2, 1, "done 1 {}"},
		{"budget 1 of a clash", clashing, nil, 0, 1, "done 1"},
		{"budget 1 of a clash, most 1", clashing, nil, 1, 1, "done 1"},
		{"just as many steps as are needed", open(2), nil, 0, 7, "done 7 {1 2} {1} {2} {}"},
		{"one step less", open(2), nil, 0, 6, "over 6 {1 2} {1} {2}"},
		{"one step more", open(2), nil, 0, 8, "done 7 {1 2} {1} {2} {}"},
		{"MaxBudget", open(2), nil, 0, 20000, "done 7 {1 2} {1} {2} {}"},
		{"the last answer found, and more to look at", first, nil, 0, 2, "over 2 {1}"},
		{"the last answer found, and a step for the rest", first, nil, 0, 3, "done 3 {1}"},
		{"the last answer found, and nothing more to look at", first, []int{-1}, 0, 3, "done 3 {1}"},
		{"the last answer not found", first, []int{-1}, 0, 2, "over 2"},
		{"most reached at the last step", first, nil, 1, 2, "done 2 {1}"},
		{"most reached one step behind it", first, nil, 1, 1, "over 1"},
		{"most not reached at the last step", first, nil, 2, 2, "over 2 {1}"},
		{"most not reached, and nothing more to look at", first, nil, 2, 3, "done 3 {1}"},
		{"most reached at the last step, two open", open(2), nil, 3, 6, "done 6 {1 2} {1} {2}"},
		{"most not reached, two open", open(2), nil, 4, 6, "over 6 {1 2} {1} {2}"},
		{"most 1", open(2), nil, 1, 20000, "done 3 {1 2}"},
		{"most 1 in another order", open(2), []int{-2, 1}, 1, 20000, "done 3 {1}"},
		{"most 2", open(2), nil, 2, 20000, "done 4 {1 2} {1}"},
		{"most 1 behind a clash", impl.Prog{Atoms: 2, Rules: []impl.Rule{choice([]int{1, 2}), constraint(1)}}, nil, 1, 20000, "done 4 {2}"},
		{"just as many as there are", open(2), nil, 4, 20000, "done 7 {1 2} {1} {2} {}"},
		{"just as many as there are, and a clash behind", first, nil, 1, 20000, "done 2 {1}"},
		{"one more than there are", open(2), nil, 5, 20000, "done 7 {1 2} {1} {2} {}"},
		{"the greatest most", open(2), nil, math.MaxInt, 20000, "done 7 {1 2} {1} {2} {}"},
		{"most 1 of none", clashing, nil, 1, 20000, "done 1"},
		{"most 1 of a great program", open(12), []int{-1, -2, -3, -4, -5, -6, -7, -8, -9, -10, -11, -12}, 1, 20000, "done 13 {}"},
		{"budget 12 of a great program", open(12), nil, 0, 12, "over 12"},
		{"budget 13 of a great program", open(12), nil, 0, 13, "over 13 {1 2 3 4 5 6 7 8 9 10 11 12}"},
	} {
		checkFound(t, c.name, c.p, c.order, c.most, c.budget, c.want)
	}
}

// TestSearchOfBadArguments: each alone, and in a program with 0 atoms as well as in one of MaxAtoms.
func TestSearchOfBadArguments(t *testing.T) {
	progs := []impl.Prog{{}, {Atoms: 3}, open(2), open(12), {Atoms: 2, Rules: []impl.Rule{constraint()}}}
	for _, p := range progs {
		if f := impl.Search(p, nil, 1, 13); !f.Done || f.Steps == 0 {
			t.Errorf("Search(%+v) = %+v", p, f)
		}
		for name, order := range map[string][]int{
			"the literal 0":                      {0},
			"the literal 0 behind others":        {1, -2, 0},
			"an atom above MaxAtoms":             {13},
			"an atom above MaxAtoms, below 0":    {-13},
			"an atom above MaxAtoms at last":     {1, 2, -12, 13},
			"the greatest number":                {math.MaxInt},
			"the least number":                   {math.MinInt},
			"the least number but one":           {math.MinInt + 1},
			"a number whose low bits are 1":      {1<<32 + 1},
			"a number whose low bits are -1":     {1<<32 - 1},
			"a byte of which is 1":               {257},
			"one literal more than MaxBody":      times(21, 1),
			"one literal more, none up to Atoms": times(21, -12),
			"many literals":                      times(1000, 1),
			"too many, and a literal 0":          times(21, 0),
		} {
			checkNotFound(t, name, p, order, 0, 20000)
			checkNotFound(t, name, p, order, 1, 5)
		}
		for _, most := range []int{-1, -2, -20, math.MinInt, math.MinInt + 1, -1 << 32} {
			checkNotFound(t, "most below 0", p, nil, most, 20000)
			checkNotFound(t, "most below 0", p, []int{-1}, most, 1)
		}
		for _, budget := range []int{-1, -2, -20000, math.MinInt, 20001, 40000, math.MaxInt, 1 << 32, 1<<32 + 1} {
			checkNotFound(t, "a budget that is none", p, nil, 0, budget)
			checkNotFound(t, "a budget that is none", p, []int{-1}, 1, budget)
		}
		checkNotFound(t, "all at once", p, []int{0}, -1, -1)
	}
}

// TestSearchOfOrdersAtTheirLimits: they are asked as Splits tells.
func TestSearchOfOrdersAtTheirLimits(t *testing.T) {
	below := "done 7 {1} {} {1 2} {2}"
	for _, c := range []struct {
		name  string
		order []int
		want  string
	}{
		{"MaxBody literals", times(20, -2), below},
		{"MaxBody literals, the last one counts", append(times(19, 12), -2), below},
		{"MaxBody literals, none counts", times(20, 12), "done 7 {1 2} {1} {2} {}"},
		{"MaxAtoms", []int{12, -2}, below},
		{"MaxAtoms, below 0", []int{-12, -2}, below},
		{"above Atoms but within MaxAtoms", []int{3, -4, 5, -2}, below},
		{"one literal less than MaxBody", append(times(18, -3), -2), below},
	} {
		checkFound(t, c.name, open(2), c.order, 0, 20000, c.want)
	}
	checkFound(t, "MaxAtoms with 0 atoms", impl.Prog{}, []int{12, -12, 1}, 0, 20000, "done 1 {}")
	checkFound(t, "the last of MaxAtoms", impl.Prog{Atoms: 12, Rules: []impl.Rule{choice([]int{1, 12})}}, []int{-12}, 0, 20000, "done 7 {1} {} {1 12} {12}")
}

func TestSearchOfExtsAndAssume(t *testing.T) {
	hanging := []impl.Rule{plain(2, 1), plain(3, -1)}
	either := []impl.Rule{plain(1, -2), plain(2, -1)}
	for _, c := range []struct {
		name   string
		rules  []impl.Rule
		exts   []impl.Ext
		assume []int
		want   string
	}{
		{"V 0", nil, []impl.Ext{{Atom: 2}}, nil, "done 3 {2} {}"},
		{"V 1", nil, []impl.Ext{{Atom: 2, V: 1}}, nil, "done 1 {2}"},
		{"V 2", nil, []impl.Ext{{Atom: 2, V: 2}}, nil, "done 1 {}"},
		{"each V", nil, allExts(), nil, "done 3 {1 2} {2}"},
		{"V 0, and what hangs on it", hanging, []impl.Ext{{Atom: 1}}, nil, "done 3 {1 2} {3}"},
		{"V 1, and what hangs on it", hanging, []impl.Ext{{Atom: 1, V: 1}}, nil, "done 1 {1 2}"},
		{"V 2, and what hangs on it", hanging, []impl.Ext{{Atom: 1, V: 2}}, nil, "done 1 {3}"},
		{"V 0 of a head", hanging, []impl.Ext{{Atom: 2}}, nil, "done 1 {3}"},
		{"V 1 of a head", hanging, []impl.Ext{{Atom: 2, V: 1}}, nil, "done 1 {3}"},
		{"V 2 of a head", hanging, []impl.Ext{{Atom: 3, V: 2}}, nil, "done 1 {3}"},
		{"assumed above 0", either, nil, []int{1}, "done 3 {1}"},
		{"assumed below 0", either, nil, []int{-1}, "done 3 {2}"},
		{"assumed both", either, nil, []int{1, 2}, "done 3"},
		{"assumed both of an atom", either, nil, []int{1, -1}, "done 3"},
		{"assumed what may not come", either, nil, []int{3}, "done 1"},
		{"assumed what is not", either, nil, []int{-3}, "done 3 {1} {2}"},
		{"external with V 0, and assumed", nil, []impl.Ext{{Atom: 1}}, []int{1}, "done 3 {1}"},
		{"external with V 1, and assumed", nil, []impl.Ext{{Atom: 1, V: 1}}, []int{1}, "done 1 {1}"},
		{"external with V 1, and assumed not", nil, []impl.Ext{{Atom: 1, V: 1}}, []int{-1}, "done 1"},
		{"external with V 2, and assumed", nil, []impl.Ext{{Atom: 1, V: 2}}, []int{1}, "done 1"},
	} {
		p := impl.Prog{Atoms: 3, Rules: c.rules, Exts: c.exts, Assume: c.assume}
		checkFound(t, c.name, p, nil, 0, impl.MaxBudget, c.want)
	}
}

// TestSearchOfNoProgram: each would have answers, but for one change.
func TestSearchOfNoProgram(t *testing.T) {
	whole := wholeProg()
	whole.Rules = append(whole.Rules, plain(9), plain(1))
	whole.Exts = []impl.Ext{{Atom: 5, V: 2}, {Atom: 8}}
	whole.Assume = []int{9, 1}
	checkFound(t, "without a change", whole, []int{-8, 2, 3}, 0, 20000, "done 15 {1 2 3 9} {1 2 9} {1 9} {1 2 3 8 9} {1 2 8 9} {1 8 9}")
	for name, change := range noProgs() {
		p := deepCopy(whole)
		change(&p)
		for most := range 2 {
			checkNotFound(t, name, p, nil, most, 20000)
			checkNotFound(t, name, p, []int{-8}, most, 1)
		}
	}
	for _, p := range append(odd(), atLimits(), impl.Prog{Atoms: -1}, impl.Prog{Atoms: 13}, impl.Prog{Atoms: math.MinInt}, impl.Prog{Atoms: math.MaxInt}) {
		if _, ok := impl.Fold(p); !ok {
			checkNotFound(t, "an odd program", p, nil, 0, 20000)
		}
	}
}

// TestSearchAndRoom: with just MaxRules rules of Fold there is a search, with one more there is nothing.
func TestSearchAndRoom(t *testing.T) {
	free := []impl.Ext{{Atom: 1}}
	for _, c := range []struct {
		name   string
		rules  int
		exts   []impl.Ext
		assume []int
		want   string
	}{
		{"MaxRules rules", 60, nil, nil, "done 1 {12}"},
		{"MaxRules rules with V 0", 59, free, nil, "done 3 {1 12} {12}"},
		{"one more with V 0", 60, free, nil, ""},
		{"MaxRules rules with V 1", 59, []impl.Ext{{Atom: 1, V: 1}}, nil, "done 1 {1 12}"},
		{"one more with V 1", 60, []impl.Ext{{Atom: 1, V: 1}}, nil, ""},
		{"V 2 is no rule", 60, []impl.Ext{{Atom: 1, V: 2}}, nil, "done 1 {12}"},
		{"an external head is no rule", 60, []impl.Ext{{Atom: 12}}, nil, "done 1 {12}"},
		{"MaxRules rules with what is assumed", 58, nil, []int{12, -1}, "done 1 {12}"},
		{"one more with what is assumed", 59, nil, []int{12, -1}, ""},
		{"MaxRules rules with both", 57, free, []int{12, -2}, "done 3 {1 12} {12}"},
		{"one more with both", 58, free, []int{12, -2}, ""},
	} {
		p := impl.Prog{Atoms: 12, Rules: times(c.rules, plain(12)), Exts: c.exts, Assume: c.assume}
		if c.want == "" {
			checkNotFound(t, c.name, p, nil, 0, 20000)
			checkNotFound(t, c.name, p, []int{-1}, 1, 20000)
			continue
		}
		checkFound(t, c.name, p, nil, 0, 20000, c.want)
	}
}

// TestMaxBudgetIsEnough: also where each atom is asked in each way.
func TestMaxBudgetIsEnough(t *testing.T) {
	from := rand.New(rand.NewSource(35))
	for n := range 13 {
		p := open(n)
		if n == 0 {
			p.Rules = nil
		}
		order := someOrder(from, 20, 12)
		f := impl.Search(p, order, 0, impl.MaxBudget)
		if !f.Done || f.Steps != 2<<n-1 || len(f.Sets) != 1<<n {
			t.Errorf("of %d open atoms, with the order %v, there are %d steps, %d sets, done %v", n, order, f.Steps, len(f.Sets), f.Done)
		}
		nums := numsOf(f.Sets)
		slices.Sort(nums)
		for i, num := range nums {
			if num != i {
				t.Fatalf("of %d open atoms the sets are %v", n, nums)
			}
		}
	}
	none := open(12)
	none.Rules = append(none.Rules, constraint(12), constraint(-12))
	if f := impl.Search(none, nil, 0, impl.MaxBudget); !f.Done || f.Steps != 8191 || len(f.Sets) != 0 {
		t.Errorf("of a program without an answer there are %d steps, %d sets, done %v", f.Steps, len(f.Sets), f.Done)
	}
	if f := impl.Search(none, nil, 0, 8190); f.Done || f.Steps != 8190 || len(f.Sets) != 0 {
		t.Errorf("with one step less there are %d steps, %d sets, done %v", f.Steps, len(f.Sets), f.Done)
	}
}

// A looking is a search by the definition, by recursion.
type looking struct {
	p      impl.Prog
	order  []int
	most   int
	budget int
	found  impl.Found
	over   bool
}

func (s *looking) lookAt(v []int) {
	if s.over {
		return
	}
	if s.found.Steps == s.budget {
		s.over, s.found.Done = true, false
		return
	}
	s.found.Steps++
	come, ok := impl.Propagate(s.p, v)
	if !ok {
		return
	}
	if !slices.Contains(come, 0) {
		s.found.Sets = append(s.found.Sets, impl.Set{A: rising(func(a int) bool { return a <= len(come) && come[a-1] == 1 })})
		s.over = len(s.found.Sets) == s.most
		return
	}
	l := splitsBy(s.order, come)
	first := 1
	if l < 0 {
		first = 2
	}
	for _, value := range []int{first, 3 - first} {
		next := slices.Clone(come)
		next[sized(l)-1] = value
		s.lookAt(next)
	}
}

// searchBy is what a search finds by the definition, of arguments that are no bad ones.
func searchBy(p impl.Prog, order []int, most, budget int) impl.Found {
	s := looking{p: p, order: order, most: most, budget: budget, found: impl.Found{Done: true}}
	s.lookAt(times(p.Atoms, 0))
	return s.found
}

// someFree is likewise a program of n atoms, now and then with a choice more, so that there are more answers.
func someFree(from *rand.Rand, n int) impl.Prog {
	p := someOpen(from, n)
	if from.Intn(2) > 0 {
		p.Rules = append(p.Rules, choice(impl.SetOf(1+from.Intn(1<<n-1))))
	}
	return p
}

// TestSearchListsTheAnswers: done, with most 0, its sets are the answers, each once, whatever the order; and Answers lists the same.
func TestSearchListsTheAnswers(t *testing.T) {
	from := rand.New(rand.NewSource(36))
	found, none, many, mixed := 0, 0, 0, 0
	for range 2500 {
		n := 1 + from.Intn(6)
		p := someFree(from, n)
		want := answersOfWhole(p)
		if got := numsOf(impl.Answers(p)); !slices.Equal(got, want) {
			t.Fatalf("Answers(%+v) = %v, not %v", p, got, want)
		}
		for range 4 {
			order := someOrder(from, 20, 12)
			f := impl.Search(p, order, 0, impl.MaxBudget)
			nums := numsOf(f.Sets)
			if !slices.IsSorted(nums) {
				mixed++
			}
			slices.Sort(nums)
			if !f.Done || !slices.Equal(nums, want) {
				t.Fatalf("Search(%+v, %v) = %+v, and the answers are %v", p, order, f, want)
			}
			if f.Steps%2 == 0 || f.Steps > 2<<n-1 || f.Steps < 2*len(want)-1 {
				t.Fatalf("Search(%+v, %v) = %+v, of %d atoms", p, order, f, n)
			}
		}
		found += len(want)
		if len(want) == 0 {
			none++
		}
		if len(want) > 2 {
			many++
		}
	}
	if found < 3000 || none < 300 || many < 300 || mixed < 1000 {
		t.Errorf("the programs are too much alike: %d answers, %d programs with none, %d with more than two, %d searches in another order", found, none, many, mixed)
	}
}

// TestSearchOfMany: of many programs, with many an order, most and budget, what the definition tells.
func TestSearchOfMany(t *testing.T) {
	from := rand.New(rand.NewSource(37))
	over, reached, all, partly := 0, 0, 0, 0
	for range 2500 {
		n := 1 + from.Intn(6)
		p := someFree(from, n)
		order := someOrder(from, 20, 12)
		whole := searchBy(p, order, 0, impl.MaxBudget)
		checkFound(t, "all of it", p, order, 0, impl.MaxBudget, foundText(whole))
		checkFound(t, "just as many steps as are needed", p, order, 0, whole.Steps, foundText(whole))
		less := searchBy(p, order, 0, whole.Steps-1)
		if less.Done || less.Steps != whole.Steps-1 {
			t.Fatalf("by the definition %+v comes of %+v with a step less", less, p)
		}
		checkFound(t, "one step less", p, order, 0, whole.Steps-1, foundText(less))
		for range 6 {
			most, budget := from.Intn(len(whole.Sets)+3), from.Intn(whole.Steps+3)
			want := searchBy(p, order, most, budget)
			checkFound(t, "some of it", p, order, most, budget, foundText(want))
			if len(want.Sets) > len(whole.Sets) || !alike(want.Sets, whole.Sets[:len(want.Sets)]) {
				t.Fatalf("by the definition %+v comes of %+v, and %+v in all", want, p, whole)
			}
			switch {
			case !want.Done:
				over++
				if len(want.Sets) > 0 {
					partly++
				}
			case want.Steps < whole.Steps:
				reached++
			default:
				all++
			}
		}
	}
	if over < 2000 || reached < 400 || all < 2000 || partly < 500 {
		t.Errorf("the searches are too much alike: %d over, %d of them with sets, %d with most, %d with all", over, partly, reached, all)
	}
}

// TestSearchOfMaxAtoms: the same of programs with as many atoms as there may be.
func TestSearchOfMaxAtoms(t *testing.T) {
	from := rand.New(rand.NewSource(38))
	found, longest := 0, 0
	for range 150 {
		p := someFree(from, 12)
		order := someOrder(from, 20, 12)
		want := searchBy(p, order, 0, impl.MaxBudget)
		checkFound(t, "MaxAtoms", p, order, 0, impl.MaxBudget, foundText(want))
		nums := numsOf(want.Sets)
		slices.Sort(nums)
		if got := numsOf(impl.Answers(p)); !slices.Equal(nums, got) {
			t.Fatalf("the answers of %+v are %v, and %v are found", p, got, nums)
		}
		found += len(nums)
		longest = max(longest, want.Steps)
		most, budget := from.Intn(len(nums)+3), from.Intn(want.Steps+3)
		checkFound(t, "some of MaxAtoms", p, order, most, budget, foundText(searchBy(p, order, most, budget)))
	}
	if found < 1000 || longest < 100 {
		t.Errorf("the programs are too much alike: %d answers, at most %d steps", found, longest)
	}
}

// TestEachMostAndBudget: all of them up to those that are enough.
func TestEachMostAndBudget(t *testing.T) {
	from := rand.New(rand.NewSource(39))
	for range 40 {
		p := someFree(from, 1+from.Intn(4))
		order := someOrder(from, 6, 5)
		whole := searchBy(p, order, 0, impl.MaxBudget)
		for most := range len(whole.Sets) + 2 {
			for budget := range whole.Steps + 2 {
				checkFound(t, "each", p, order, most, budget, foundText(searchBy(p, order, most, budget)))
			}
		}
	}
}

// early is a program of n atoms whose only answer has them all and is found first; then there is as much to look at as may be.
func early(n int) impl.Prog {
	p := open(n)
	for a := 1; a < n; a++ {
		p.Rules = append(p.Rules, constraint(-a, n), constraint(-a, -n))
	}
	p.Rules = append(p.Rules, constraint(-n))
	return p
}

// TestStepsBehindMost: they are not told, however many there would be.
func TestStepsBehindMost(t *testing.T) {
	for n := 1; n <= 12; n++ {
		all := "{" + textOf(impl.SetOf(1<<n-1)) + "}"
		for range 200 {
			checkFound(t, "most", early(n), nil, 1, impl.MaxBudget, "done "+strconv.Itoa(n+1)+" "+all)
		}
		checkFound(t, "most, at the last step", early(n), nil, 1, n+1, "done "+strconv.Itoa(n+1)+" "+all)
		checkFound(t, "more", early(n), nil, 2, impl.MaxBudget, "done "+strconv.Itoa(2<<n-1)+" "+all)
		checkFound(t, "all", early(n), nil, 0, impl.MaxBudget, "done "+strconv.Itoa(2<<n-1)+" "+all)
		checkFound(t, "all but the last step", early(n), nil, 0, 2<<n-2, "over "+strconv.Itoa(2<<n-2)+" "+all)
	}
}

// TestSearchIsAlwaysTheSame: however often it is asked, by however many at once.
func TestSearchIsAlwaysTheSame(t *testing.T) {
	p := impl.Prog{Atoms: 6, Rules: []impl.Rule{choice([]int{1, 3, 5, 6}), plain(2, 3, -4), plain(4, -2, 1), constraint(1, 5)}}
	order := []int{-2, 5, -4}
	for most := range 6 {
		for _, budget := range []int{3, 8, 9, 20, impl.MaxBudget} {
			want := foundText(searchBy(p, order, most, budget))
			byMany(25, func() { checkFound(t, "again", p, order, most, budget, want) })
		}
	}
}

// goingOn is what another goroutine than this one does within the package, as far as it is there.
func goingOn() string {
	dump := make([]byte, 1<<16)
	all := strings.Split(string(dump[:runtime.Stack(dump, true)]), "\n\n")
	for _, one := range all[1:] {
		if strings.Contains(one, "g00554/impl.") {
			return one
		}
	}
	return ""
}

// TestNothingGoesOn: once Search has answered, however it has ended.
func TestNothingGoesOn(t *testing.T) {
	before := runtime.NumGoroutine()
	for range 20 {
		for _, p := range []impl.Prog{{}, open(3), open(9), early(9), {Atoms: 1, Rules: []impl.Rule{constraint()}}, {Atoms: 13}} {
			for _, most := range []int{-1, 0, 1, 2, 5} {
				for _, budget := range []int{0, 1, 15, impl.MaxBudget} {
					impl.Search(p, []int{3, 1}, most, budget)
					if one := goingOn(); one != "" {
						t.Fatalf("when Search(%+v, %d, %d) has answered, there is still\n%s", p, most, budget, one)
					}
				}
			}
		}
	}
	for range 1000 {
		if runtime.NumGoroutine() <= before {
			return
		}
		time.Sleep(time.Millisecond)
	}
	t.Errorf("there were %d goroutines, and %d are left", before, runtime.NumGoroutine())
}

// searchable are programs, and what is none, with answers in some number.
func searchable() []impl.Prog {
	return append(propagable(), open(3), open(5), impl.Prog{Atoms: 2, Rules: []impl.Rule{plain(1, -2), plain(2, -1)}})
}

// orders are some of each kind, and ones that are none.
var orders = [][]int{nil, {}, {1}, {-2, 3}, {5, -4, -1, 1}, {12, -12}, {0, 1}, {13}, {-1, math.MinInt}, {2, 2, 2}}

func TestSearchArgumentsAreKept(t *testing.T) {
	for _, made := range searchable() {
		for _, order := range orders {
			list := withSpare(order)
			for _, most := range []int{0, 1, 3} {
				keeping(t, "Search", withSpare(made), func(p impl.Prog) { impl.Search(p, list, most, 200) })
			}
			for _, v := range valued(made.Atoms) {
				values := withSpare(v)
				keeping(t, "Splits", withSpare(made), func(p impl.Prog) { impl.Splits(p, list, values) })
				checkKept(t, "Splits", values, v)
			}
			checkKept(t, "Search or Splits", list, order)
		}
	}
}

func TestSearchSpareIsNotRead(t *testing.T) {
	for _, made := range searchable() {
		p := withSpare(made)
		for _, order := range orders {
			list := withSpare(order)
			for _, most := range []int{0, 1, 3} {
				if got, want := impl.Search(p, list, most, 200), impl.Search(made, order, most, 200); !alike(got, want) {
					t.Errorf("the room behind the lists of %+v or %v is read", made, order)
				}
			}
			for _, v := range valued(made.Atoms) {
				a, first := impl.Splits(made, order, v)
				if again, same := impl.Splits(p, list, withSpare(v)); a != again || first != same {
					t.Errorf("the room behind the lists of %+v, %v or %v is read", made, order, v)
				}
			}
		}
	}
	behind := []int{-2, 0, 13}
	checkFound(t, "bad ones behind an order", open(2), behind[:1], 0, 20000, "done 7 {1} {} {1 2} {2}")
	many := append([]int{-2}, times(20, 12)...)
	checkFound(t, "too many behind an order", open(2), many[:20], 0, 20000, "done 7 {1} {} {1 2} {2}")
}

func TestSearchAnswersAreNew(t *testing.T) {
	for _, made := range searchable() {
		p := withSpare(made)
		for _, order := range orders {
			list := withSpare(order)
			for _, most := range []int{0, 1, 3} {
				one, two := impl.Search(p, list, most, 200), impl.Search(p, list, most, 200)
				checkApart(t, "Search", p, list, one, two)
				handsOutNothing(t, "Search", reflect.ValueOf(one))
			}
		}
	}
	p := open(3)
	one := impl.Search(p, nil, 0, 20000)
	want := foundText(one)
	for _, s := range one.Sets {
		overwrite(s.A, -1)
	}
	one.Sets = nil
	checkFound(t, "where one is written into", p, nil, 0, 20000, want)
}
