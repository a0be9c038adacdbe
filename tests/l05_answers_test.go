package tests

import (
	"math"
	"math/rand"
	"reflect"
	"slices"
	"strconv"
	"strings"
	"testing"

	"loop.example/g00554/impl"
)

// textOf are the numbers of a list as they stand in it, whatever they are.
func textOf(x []int) string {
	words := make([]string, 0, len(x))
	for _, a := range x {
		words = append(words, strconv.Itoa(a))
	}
	return strings.Join(words, " ")
}

func textsOf(sets []impl.Set) []string {
	texts := make([]string, 0, len(sets))
	for _, s := range sets {
		texts = append(texts, textOf(s.A))
	}
	return texts
}

// checkMade fails where Least and Base of p and x are other ones.
func checkMade(t *testing.T, name string, p impl.Prog, x []int, least, base string) {
	t.Helper()
	if got := textOf(impl.Least(p, x)); got != least {
		t.Errorf("%s: Least(%+v, %v) = %q, not %q", name, p, x, got, least)
	}
	if got := textOf(impl.Base(p, x)); got != base {
		t.Errorf("%s: Base(%+v, %v) = %q, not %q", name, p, x, got, base)
	}
}

type madeCase struct {
	name  string
	rules []impl.Rule
	x     []int
	least string
	base  string
}

// checkMadeOf asks of programs of four atoms.
func checkMadeOf(t *testing.T, cases []madeCase) {
	t.Helper()
	for _, c := range cases {
		checkMade(t, c.name, impl.Prog{Atoms: 4, Rules: c.rules}, c.x, c.least, c.base)
	}
}

// TestMadeByRules: heads without Choice, of rules without Weight.
func TestMadeByRules(t *testing.T) {
	chain := []impl.Rule{plain(1, 2), plain(2, 3), plain(3)}
	below := []impl.Rule{plain(2), plain(1, -2)}
	circle := []impl.Rule{plain(1, 2), plain(2, 1)}
	checkMadeOf(t, []madeCase{
		{"no rules", nil, []int{1}, "", ""},
		{"a fact", []impl.Rule{plain(1)}, nil, "1", ""},
		{"a fact in x", []impl.Rule{plain(1)}, []int{1, 2}, "1", "1"},
		{"above 0 and in x alone", []impl.Rule{plain(1, 2)}, []int{1, 2}, "", ""},
		{"made, and not in x", []impl.Rule{plain(2), plain(1, 2)}, nil, "1 2", ""},
		{"made, and only what needs it in x", []impl.Rule{plain(2), plain(1, 2)}, []int{1}, "1 2", ""},
		{"made, and only what it needs in x", []impl.Rule{plain(2), plain(1, 2)}, []int{2}, "1 2", "2"},
		{"made by rules behind", chain, []int{1, 2, 3}, "1 2 3", "1 2 3"},
		{"made by rules behind, one not in x", chain, []int{1, 3}, "1 2 3", "3"},
		{"a circle", circle, []int{1, 2}, "", ""},
		{"a circle with a way in", append(circle, plain(2, -3)), []int{1, 2}, "1 2", "1 2"},
		{"a circle with a way in that x closes", append(circle, plain(2, -3)), []int{1, 2, 3}, "", ""},
		{"below 0 and not in x", []impl.Rule{plain(1, -2)}, []int{1}, "1", "1"},
		{"below 0 and in x", []impl.Rule{plain(1, -2)}, []int{1, 2}, "", ""},
		{"below 0 and made, not in x", below, []int{1}, "1 2", "1"},
		{"below 0 and made, in x", below, []int{1, 2}, "2", "2"},
		{"its own head below 0", []impl.Rule{plain(1, -1)}, nil, "1", ""},
		{"its own head below 0, in x", []impl.Rule{plain(1, -1)}, []int{1}, "", ""},
		{"its own head above 0", []impl.Rule{plain(1, 1)}, []int{1}, "", ""},
		{"both literals, made and not in x", []impl.Rule{plain(2), plain(1, 2, -2)}, []int{1}, "1 2", ""},
		{"both literals, made and in x", []impl.Rule{plain(2), plain(1, 2, -2)}, []int{1, 2}, "2", "2"},
		{"one literal of two", []impl.Rule{plain(2), plain(1, 2, 3)}, []int{1, 2, 3}, "2", "2"},
		{"a rule without a head", []impl.Rule{constraint(), plain(1), constraint(1)}, []int{1}, "1", "1"},
		{"two rules of one head, the second", []impl.Rule{plain(1, 4), plain(1, -4)}, []int{1}, "1", "1"},
		{"the empty set", []impl.Rule{plain(1, -2), plain(2, -1), plain(3, 4)}, nil, "1 2", ""},
	})
}

func TestMadeByChoice(t *testing.T) {
	some := []impl.Rule{choice([]int{1, 2, 3})}
	asking := []impl.Rule{plain(3), choice([]int{1, 2}, 3)}
	checkMadeOf(t, []madeCase{
		{"no head in x", some, nil, "", ""},
		{"one head in x", some, []int{2}, "2", "2"},
		{"all heads in x, and what is none", some, []int{1, 2, 3, 4}, "1 2 3", "1 2 3"},
		{"a body that is not made", []impl.Rule{choice([]int{1, 2}, 3)}, []int{1, 2, 3}, "", ""},
		{"a body that is made", asking, []int{1, 3}, "1 3", "1 3"},
		{"a body that is made and not in x", asking, []int{1}, "1 3", ""},
		{"a body made by a choice", []impl.Rule{plain(2, 1), choice([]int{1})}, []int{1}, "1 2", "1"},
		{"a body made by a choice, in x", []impl.Rule{plain(2, 1), choice([]int{1})}, []int{1, 2}, "1 2", "1 2"},
		{"its own head in the body", []impl.Rule{choice([]int{1, 2}, 1)}, []int{1, 2}, "", ""},
		{"one head below 0, not in x", []impl.Rule{choice([]int{1, 2}, -2)}, []int{1}, "1", "1"},
		{"one head below 0, in x", []impl.Rule{choice([]int{1, 2}, -2)}, []int{1, 2}, "", ""},
		{"a head without Choice as well", []impl.Rule{choice([]int{1, 2}), plain(1)}, []int{2}, "1 2", "2"},
		{"weights that are made", []impl.Rule{plain(3), weighedChoice([]int{1, 2}, 2, wl(3, 1), wl(-4, 1))}, []int{1, 3}, "1 3", "1 3"},
		{"weights that x does not leave", []impl.Rule{plain(3), weighedChoice([]int{1, 2}, 2, wl(3, 1), wl(-4, 1))}, []int{1, 3, 4}, "3", "3"},
	})
}

func TestMadeByWeights(t *testing.T) {
	row := []impl.WLit{wl(2, 2), wl(-3, 1)}
	steps := []impl.Rule{weighed([]int{3}, 3, wl(1, 1), wl(2, 2)), weighed([]int{2}, 1, wl(1, 1), wl(3, 5)), plain(1)}
	checkMadeOf(t, []madeCase{
		{"Bound below 0", []impl.Rule{weighed([]int{1}, -1, row...)}, []int{1, 3}, "1", "1"},
		{"Bound 0", []impl.Rule{weighed([]int{1}, 0, row...)}, []int{1, 3}, "1", "1"},
		{"Bound 0 of nothing", []impl.Rule{weighed([]int{1}, 0)}, nil, "1", ""},
		{"Bound 1 of nothing", []impl.Rule{weighed([]int{1}, 1)}, []int{1}, "", ""},
		{"the one below 0", []impl.Rule{weighed([]int{1}, 1, row...)}, []int{1}, "1", "1"},
		{"the one above 0, in x alone", []impl.Rule{weighed([]int{1}, 2, row...)}, []int{1, 2}, "", ""},
		{"the one above 0, made", []impl.Rule{plain(2), weighed([]int{1}, 2, row...)}, []int{1, 2, 3}, "1 2", "1 2"},
		{"the one above 0, made and not in x", []impl.Rule{plain(2), weighed([]int{1}, 2, row...)}, []int{1, 3}, "1 2", ""},
		{"both", []impl.Rule{plain(2), weighed([]int{1}, 3, row...)}, []int{1, 2}, "1 2", "1 2"},
		{"both needed, one in x", []impl.Rule{plain(2), weighed([]int{1}, 3, row...)}, []int{1, 2, 3}, "2", "2"},
		{"below 0 is asked of x alone", []impl.Rule{plain(2), plain(3), weighed([]int{1}, 3, row...)}, []int{1, 2}, "1 2 3", "1 2"},
		{"Bound above the sum", []impl.Rule{plain(2), weighed([]int{1}, 4, row...)}, []int{1, 2}, "2", "2"},
		{"itself alone", []impl.Rule{weighed([]int{1}, 1, wl(1, 5))}, []int{1}, "", ""},
		{"itself, and no need of it", []impl.Rule{weighed([]int{1}, 1, wl(1, 5), wl(-2, 1))}, []int{1}, "1", "1"},
		{"step by step", steps, []int{1, 2, 3}, "1 2 3", "1 2 3"},
		{"step by step, one not in x", steps, []int{1, 3}, "1 2 3", "1"},
		{"both literals, made and not in x", []impl.Rule{plain(2), weighed([]int{1}, 5, wl(2, 2), wl(-2, 3))}, []int{1}, "1 2", ""},
		{"a literal twice", []impl.Rule{plain(2), weighed([]int{1}, 4, wl(2, 2), wl(2, 2))}, []int{1, 2}, "1 2", "1 2"},
	})
}

// TestMadeOfLists: x counts by the atoms that stand in it, whatever the list.
func TestMadeOfLists(t *testing.T) {
	rules := []impl.Rule{choice([]int{1, 2, 3, 4}), plain(4, -1), plain(3, 2, -5)}
	for _, c := range []struct {
		name  string
		atoms int
		x     []int
		least string
		base  string
	}{
		{"rising", 5, []int{1, 2}, "1 2 3", "1 2"},
		{"falling", 5, []int{2, 1}, "1 2 3", "1 2"},
		{"an atom twice", 5, []int{2, 1, 2, 2, 1}, "1 2 3", "1 2"},
		{"numbers that are no atoms", 5, []int{0, 2, 13, -5, 1, 99, math.MinInt, math.MaxInt}, "1 2 3", "1 2"},
		{"no atoms alone", 5, []int{0, -1, 13, 1<<32 + 1, 257}, "4", ""},
		{"an atom above the heads", 5, []int{5, 2, 1}, "1 2", "1 2"},
		{"atoms above Atoms", 5, []int{2, 12, 1, 6}, "1 2 3", "1 2"},
		{"atoms above Atoms alone", 5, []int{6, 12}, "4", ""},
		{"all atoms", 12, impl.SetOf(4095), "1 2 3 4", "1 2 3 4"},
		{"all atoms, falling", 12, []int{12, 11, 10, 9, 8, 7, 6, 5, 4, 3, 2, 1}, "1 2 3 4", "1 2 3 4"},
	} {
		checkMade(t, c.name, impl.Prog{Atoms: c.atoms, Rules: rules}, c.x, c.least, c.base)
	}
}

// TestMadeOfFolded: what is external is made as it may be; what is assumed makes nothing.
func TestMadeOfFolded(t *testing.T) {
	for _, c := range []struct {
		name  string
		p     impl.Prog
		x     []int
		least string
		base  string
	}{
		{"V 0 and in x", impl.Prog{Atoms: 2, Exts: []impl.Ext{{Atom: 1}}}, []int{1}, "1", "1"},
		{"V 0 and not in x", impl.Prog{Atoms: 2, Exts: []impl.Ext{{Atom: 1}}}, []int{2}, "", ""},
		{"V 1 and in x", impl.Prog{Atoms: 2, Exts: []impl.Ext{{Atom: 1, V: 1}}}, []int{1}, "1", "1"},
		{"V 1 and not in x", impl.Prog{Atoms: 2, Exts: []impl.Ext{{Atom: 1, V: 1}}}, nil, "1", ""},
		{"V 2", impl.Prog{Atoms: 2, Exts: []impl.Ext{{Atom: 1, V: 2}}}, []int{1}, "", ""},
		{"V 0 of a head", impl.Prog{Atoms: 2, Rules: []impl.Rule{plain(1, 2)}, Exts: []impl.Ext{{Atom: 1}}}, []int{1}, "", ""},
		{"V 1 of a head", impl.Prog{Atoms: 2, Rules: []impl.Rule{plain(1, 2)}, Exts: []impl.Ext{{Atom: 1, V: 1}}}, []int{1}, "", ""},
		{"V 2 of a head", impl.Prog{Atoms: 2, Rules: []impl.Rule{plain(1)}, Exts: []impl.Ext{{Atom: 1, V: 2}}}, []int{1}, "1", "1"},
		{"what hangs on it", impl.Prog{Atoms: 2, Rules: []impl.Rule{plain(2, 1)}, Exts: []impl.Ext{{Atom: 1, V: 1}}}, []int{2}, "1 2", ""},
		{"what is assumed", impl.Prog{Atoms: 2, Assume: []int{1, -2}}, []int{1}, "", ""},
		{"what is assumed not to be", impl.Prog{Atoms: 2, Rules: []impl.Rule{plain(1)}, Assume: []int{-1}}, []int{1}, "1", "1"},
		{"0 atoms", impl.Prog{Rules: []impl.Rule{constraint()}}, []int{1}, "", ""},
	} {
		checkMade(t, c.name, c.p, c.x, c.least, c.base)
	}
}

// closed tells whether s has, of each rule whose body holds where what is below 0 is asked of x, the heads that put tells.
func closed(rules []impl.Rule, s, x []int, put func(r impl.Rule, a int) bool) bool {
	for _, r := range rules {
		for _, a := range r.Heads {
			if gives(r, s, x) && put(r, a) && !slices.Contains(s, a) {
				return false
			}
		}
	}
	return true
}

// meetOfClosed is what all sets of up to n atoms that are closed have: by this the least set is told without making it.
func meetOfClosed(rules []impl.Rule, n int, x []int, put func(r impl.Rule, a int) bool) string {
	num := 1<<n - 1
	for other := range 1 << n {
		if closed(rules, impl.SetOf(other), x, put) {
			num &= other
		}
	}
	return textOf(impl.SetOf(num))
}

// TestMadeOfMany: of many programs the sets made are those that the definition tells, for all x.
func TestMadeOfMany(t *testing.T) {
	from := rand.New(rand.NewSource(13))
	made, apart := 0, 0
	for range 400 {
		p := someWhole(from, 1+from.Intn(4))
		folded, ok := impl.Fold(p)
		if !ok {
			t.Fatalf("%+v is not folded", p)
		}
		for num := range 1 << p.Atoms {
			x := impl.SetOf(num)
			in := func(a int) bool { return slices.Contains(x, a) }
			least := meetOfClosed(folded.Rules, p.Atoms, x, func(r impl.Rule, a int) bool { return !r.Choice || in(a) })
			base := meetOfClosed(folded.Rules, p.Atoms, x, func(r impl.Rule, a int) bool { return in(a) })
			checkMade(t, "one of many", p, x, least, base)
			if least != "" {
				made++
			}
			if base != "" && base != least {
				apart++
			}
		}
	}
	if made < 800 || apart < 100 {
		t.Errorf("the programs are too much alike: %d sets made, %d with another base", made, apart)
	}
}

// checkAnswers fails where Answers, Count or Answer of p tell others than those that are wanted.
func checkAnswers(t *testing.T, name string, p impl.Prog, want ...string) {
	t.Helper()
	sets := impl.Answers(p)
	if got := textsOf(sets); !slices.Equal(got, want) {
		t.Errorf("%s: Answers(%+v) = %q, not %q", name, p, got, want)
	}
	if got := impl.Count(p); got != len(want) {
		t.Errorf("%s: Count(%+v) = %d, not %d", name, p, got, len(want))
	}
	for num := range 1 << min(max(p.Atoms, 0)+1, 12) {
		x := impl.SetOf(num)
		if is := slices.Contains(want, textOf(x)); impl.Answer(p, x) != is {
			t.Errorf("%s: Answer(%+v, %v) is not %v", name, p, x, is)
		}
	}
}

func TestAnswersOfRules(t *testing.T) {
	three := []impl.Rule{plain(1, -2, -3), plain(2, -1, -3), plain(3, -1, -2)}
	for _, c := range []struct {
		name  string
		rules []impl.Rule
		want  []string
	}{
		{"no rules", nil, []string{""}},
		{"facts", []impl.Rule{plain(3), plain(1)}, []string{"1 3"}},
		{"an even circle through -", []impl.Rule{plain(1, -2), plain(2, -1)}, []string{"1", "2"}},
		{"an odd circle through -", []impl.Rule{plain(1, -1)}, nil},
		{"an odd circle of three", []impl.Rule{plain(1, -2), plain(2, -3), plain(3, -1)}, nil},
		{"each of three but for the others", three, []string{"1", "2", "3"}},
		{"a circle without -", []impl.Rule{plain(1, 2), plain(2, 1)}, []string{""}},
		{"a circle that a choice feeds", []impl.Rule{plain(1, 2), plain(2, 1), choice([]int{2})}, []string{"", "1 2"}},
		{"itself alone", []impl.Rule{plain(1, 1), constraint(-1)}, nil},
		{"a choice", []impl.Rule{choice([]int{1, 2})}, []string{"", "1", "2", "1 2"}},
		{"a choice of atoms apart", []impl.Rule{choice([]int{1, 4})}, []string{"", "1", "4", "1 4"}},
		{"the order of three", []impl.Rule{choice([]int{2, 3, 4})}, []string{"", "2", "3", "2 3", "4", "2 4", "3 4", "2 3 4"}},
		{"two choices", []impl.Rule{choice([]int{3}), choice([]int{1, 3}, -4)}, []string{"", "1", "3", "1 3"}},
		{"a choice and a fact of it", []impl.Rule{choice([]int{1, 2}), plain(2)}, []string{"2", "1 2"}},
		{"a choice on a choice", []impl.Rule{choice([]int{2}, 1), choice([]int{1})}, []string{"", "1", "1 2"}},
		{"a choice of what is not made", []impl.Rule{choice([]int{2}, 1), choice([]int{1}, 2)}, []string{""}},
		{"a constraint", []impl.Rule{choice([]int{1, 2}), constraint(1, 2)}, []string{"", "1", "2"}},
		{"a constraint with -", []impl.Rule{choice([]int{1, 2}), constraint(-1, -2)}, []string{"1", "2", "1 2"}},
		{"a constraint of no literal", []impl.Rule{constraint()}, nil},
		{"and facts beside it", []impl.Rule{plain(1), choice([]int{2}), constraint()}, nil},
		{"a constraint gives nothing", []impl.Rule{constraint(-1)}, nil},
		{"the less number of more atoms", []impl.Rule{plain(4, -1), plain(3, 1), choice([]int{1, 2})}, []string{"1 3", "1 2 3", "4", "2 4"}},
		{"a head for what is not to be", []impl.Rule{choice([]int{1, 2}), plain(3, 1, -2, -3)}, []string{"", "2", "1 2"}},
	} {
		checkAnswers(t, c.name, impl.Prog{Atoms: 4, Rules: c.rules}, c.want...)
	}
}

func TestAnswersOfWeights(t *testing.T) {
	all := choice([]int{1, 2, 3})
	row := []impl.WLit{wl(1, 1), wl(2, 2), wl(-3, 4)}
	for _, c := range []struct {
		name  string
		rules []impl.Rule
		want  []string
	}{
		{"Bound 0", []impl.Rule{weighed([]int{1}, 0, row...)}, []string{"1"}},
		{"Bound below 0", []impl.Rule{weighed([]int{1}, -100000, row...)}, []string{"1"}},
		{"Bound above the sum", []impl.Rule{weighed([]int{4}, 8, row...), choice([]int{1, 2})}, []string{"", "1", "2", "1 2"}},
		{"Bound at the sum", []impl.Rule{weighed([]int{4}, 7, row...), choice([]int{1, 2})}, []string{"", "1", "2", "1 2 4"}},
		{"Bound 0 without a head", []impl.Rule{all, weighed(nil, 0, row...)}, nil},
		{"Bound below 0 without a head", []impl.Rule{all, weighed(nil, -1, row...)}, nil},
		{"Bound above the sum without a head", []impl.Rule{choice([]int{1}), weighed(nil, 8, row...)}, []string{"", "1"}},
		{"two of three", []impl.Rule{all, weighed(nil, 3, body(1, 2, 3)...), weighed(nil, 2, body(-1, -2, -3)...)}, []string{"1 2", "1 3", "2 3"}},
		{"a part that is enough", []impl.Rule{all, weighed(nil, 5, row...)}, []string{"", "3", "1 3", "2 3", "1 2 3"}},
		{"on itself", []impl.Rule{weighed([]int{1}, 1, wl(1, 1), wl(2, 1)), weighed([]int{2}, 1, wl(1, 1), wl(2, 1))}, []string{""}},
		{"on itself with a way in", []impl.Rule{weighed([]int{1}, 2, wl(1, 2), wl(2, 2)), weighed([]int{2}, 2, wl(1, 2), wl(-3, 2))}, []string{"1 2"}},
		{"itself below 0, where all else is too little", []impl.Rule{weighed([]int{1}, 2, wl(-1, 2), wl(2, 1))}, nil},
		{"itself below 0, where it is not needed", []impl.Rule{weighed([]int{1}, 1, wl(-1, 2), wl(-2, 1))}, []string{"1"}},
		{"a choice with weights", []impl.Rule{weighedChoice([]int{1, 2}, 2, wl(-1, 1), wl(-2, 1))}, []string{""}},
	} {
		checkAnswers(t, c.name, impl.Prog{Atoms: 4, Rules: c.rules}, c.want...)
	}
}

func TestAnswersOfExts(t *testing.T) {
	for _, c := range []struct {
		name  string
		rules []impl.Rule
		exts  []impl.Ext
		want  []string
	}{
		{"V 0 alone", nil, []impl.Ext{{Atom: 2}}, []string{"", "2"}},
		{"V 1 alone", nil, []impl.Ext{{Atom: 2, V: 1}}, []string{"2"}},
		{"V 2 alone", nil, []impl.Ext{{Atom: 2, V: 2}}, []string{""}},
		{"each V", nil, allExts(), []string{"2", "1 2"}},
		{"V 0 of a head", []impl.Rule{plain(2, 3)}, []impl.Ext{{Atom: 2}}, []string{""}},
		{"V 1 of a head", []impl.Rule{plain(2, 3)}, []impl.Ext{{Atom: 2, V: 1}}, []string{""}},
		{"V 2 of a head", []impl.Rule{plain(2, -3)}, []impl.Ext{{Atom: 2, V: 2}}, []string{"2"}},
		{"V 0 of a choice's head", []impl.Rule{choice([]int{1, 2}, 3)}, []impl.Ext{{Atom: 2}}, []string{""}},
		{"V 1 of a choice's head", []impl.Rule{choice([]int{1, 2})}, []impl.Ext{{Atom: 2, V: 1}}, []string{"", "1", "2", "1 2"}},
		{"V 2 of a choice's head", []impl.Rule{choice([]int{2})}, []impl.Ext{{Atom: 2, V: 2}}, []string{"", "2"}},
		{"in a body", []impl.Rule{plain(3, 2), plain(1, -2)}, []impl.Ext{{Atom: 2}}, []string{"1", "2 3"}},
		{"with a constraint", []impl.Rule{constraint(-2)}, []impl.Ext{{Atom: 2}}, []string{"2"}},
		{"V 2 with a constraint", []impl.Rule{constraint(-2)}, []impl.Ext{{Atom: 2, V: 2}}, nil},
	} {
		checkAnswers(t, c.name, impl.Prog{Atoms: 3, Rules: c.rules, Exts: c.exts}, c.want...)
	}
}

func TestAnswersOfWhatIsAssumed(t *testing.T) {
	some := []impl.Rule{choice([]int{1, 2})}
	for _, c := range []struct {
		name   string
		rules  []impl.Rule
		exts   []impl.Ext
		assume []int
		want   []string
	}{
		{"above 0", some, nil, []int{1}, []string{"1", "1 2"}},
		{"below 0", some, nil, []int{-1}, []string{"", "2"}},
		{"two", some, nil, []int{-1, 2}, []string{"2"}},
		{"the same twice", some, nil, []int{2, 2}, []string{"2", "1 2"}},
		{"both of an atom", some, nil, []int{2, -2}, nil},
		{"what nothing gives", some, nil, []int{3}, nil},
		{"what nothing gives, below 0", some, nil, []int{-3}, []string{"", "1", "2", "1 2"}},
		{"a fact", []impl.Rule{plain(1)}, nil, []int{1}, []string{"1"}},
		{"a fact, below 0", []impl.Rule{plain(1)}, nil, []int{-1}, nil},
		{"one is no fact for others", []impl.Rule{plain(1, 2), plain(2, 1)}, nil, []int{1}, nil},
		{"an external atom with V 0", nil, []impl.Ext{{Atom: 3}}, []int{3}, []string{"3"}},
		{"an external atom with V 0, below 0", nil, []impl.Ext{{Atom: 3}}, []int{-3}, []string{""}},
		{"an external atom with V 1, below 0", nil, []impl.Ext{{Atom: 3, V: 1}}, []int{-3}, nil},
		{"an external atom with V 2", nil, []impl.Ext{{Atom: 3, V: 2}}, []int{3}, nil},
		{"MaxBody literals", some, nil, times(20, -2), []string{"", "1"}},
	} {
		checkAnswers(t, c.name, impl.Prog{Atoms: 3, Rules: c.rules, Exts: c.exts, Assume: c.assume}, c.want...)
	}
}

func TestAnswersOfNoAtoms(t *testing.T) {
	checkAnswers(t, "the zero program", impl.Prog{}, "")
	checkAnswers(t, "a rule without a head", impl.Prog{Rules: []impl.Rule{constraint()}})
	checkAnswers(t, "Bound 0", impl.Prog{Rules: []impl.Rule{weighed(nil, 0)}})
	checkAnswers(t, "Bound 1", impl.Prog{Rules: []impl.Rule{weighed(nil, 1)}}, "")
	checkAnswers(t, "empty lists", impl.Prog{Rules: []impl.Rule{}, Exts: []impl.Ext{}, Assume: []int{}}, "")
}

func TestAnswersOfMaxAtoms(t *testing.T) {
	all := impl.SetOf(4095)
	free := impl.Prog{Atoms: 12, Rules: []impl.Rule{choice(all)}}
	every := make([]string, 0, 4096)
	few := []string{}
	for num := range 4096 {
		every = append(every, textOf(impl.SetOf(num)))
		if len(impl.SetOf(num)) <= 2 {
			few = append(few, textOf(impl.SetOf(num)))
		}
	}
	checkAnswers(t, "a choice of all", free, every...)
	atMostTwo := deepCopy(free)
	atMostTwo.Rules = append(atMostTwo.Rules, weighed(nil, 3, body(all...)...))
	checkAnswers(t, "two at most", atMostTwo, few...)
	checkAnswers(t, "no rules", impl.Prog{Atoms: 12}, "")
	checkAnswers(t, "the greatest atom", impl.Prog{Atoms: 12, Rules: []impl.Rule{plain(12, -1), choice([]int{1})}}, "1", "12")
	chain := impl.Prog{Atoms: 12, Exts: []impl.Ext{{Atom: 12}}}
	for a := 1; a < 12; a++ {
		chain.Rules = append(chain.Rules, plain(a, a+1))
	}
	checkAnswers(t, "a chain of all", chain, "", textOf(all))
	checkAnswers(t, "an even circle of all", impl.Prog{Atoms: 12, Rules: evenCircle()}, "1 3 5 7 9 11", "2 4 6 8 10 12")
}

// evenCircle gives each of twelve atoms where the next one is not there.
func evenCircle() []impl.Rule {
	var rules []impl.Rule
	for a := 1; a <= 12; a++ {
		rules = append(rules, plain(a, -(a%12+1)))
	}
	return rules
}

// TestAnswerWantsASet: a list that is no set of atoms up to Atoms is no answer, whatever stands in it.
func TestAnswerWantsASet(t *testing.T) {
	p := impl.Prog{Atoms: 3, Rules: []impl.Rule{plain(1), plain(2), choice([]int{3})}}
	for _, x := range [][]int{{1, 2}, {1, 2, 3}} {
		if !impl.Answer(p, x) {
			t.Errorf("Answer(%+v, %v) is false", p, x)
		}
	}
	for _, x := range [][]int{
		{2, 1}, {3, 2, 1}, {1, 3, 2}, {1, 1, 2}, {1, 2, 2}, {1, 2, 3, 3}, {1, 2, 4}, {1, 2, 12}, {1, 2, 13}, {0, 1, 2}, {-1, 1, 2},
		{1, 2, 0}, {1, 2, -3}, {1, 2, math.MaxInt}, {math.MinInt, 1, 2}, {1, 2, 1<<32 + 3}, {1}, {2}, {}, nil,
	} {
		if impl.Answer(p, x) {
			t.Errorf("Answer(%+v, %v) is true", p, x)
		}
	}
	for _, x := range lists {
		none := impl.Prog{Atoms: 12}
		if impl.Answer(none, x) != (len(x) == 0) {
			t.Errorf("Answer(%+v, %v) is not %v", none, x, len(x) == 0)
		}
		free := impl.Prog{Atoms: 12, Rules: []impl.Rule{choice(impl.SetOf(4095))}}
		if impl.Answer(free, x) != impl.SetOk(x, 12) {
			t.Errorf("Answer(%+v, %v) is not %v", free, x, impl.SetOk(x, 12))
		}
	}
}

// checkNothing fails where something is answered of what is no program, or of one that is not folded.
func checkNothing(t *testing.T, name string, p impl.Prog) {
	t.Helper()
	if sets, n := impl.Answers(p), impl.Count(p); len(sets) != 0 || n != 0 {
		t.Errorf("%s: there are %d answers, %v", name, n, sets)
	}
	for num := range 4096 {
		x := impl.SetOf(num)
		if impl.Answer(p, x) || len(impl.Least(p, x)) != 0 || len(impl.Base(p, x)) != 0 {
			t.Errorf("%s: Answer is %v of %v, Least %v, Base %v", name, impl.Answer(p, x), x, impl.Least(p, x), impl.Base(p, x))
			return
		}
	}
}

// TestAnswersOfNoProgram: each would have facts and an answer, but for one change.
func TestAnswersOfNoProgram(t *testing.T) {
	whole := wholeProg()
	whole.Rules = append(whole.Rules, plain(9), plain(1))
	whole.Exts = []impl.Ext{{Atom: 5, V: 2}, {Atom: 8}}
	whole.Assume = []int{9, 1}
	checkMade(t, "without a change", whole, []int{8, 9}, "1 8 9", "8 9")
	if impl.Count(whole) == 0 {
		t.Error("without a change there is no answer")
	}
	for name, change := range noProgs() {
		p := deepCopy(whole)
		change(&p)
		checkNothing(t, name, p)
	}
	fact := []impl.Rule{plain(1)}
	for name, p := range map[string]impl.Prog{
		"Atoms below 0":            {Atoms: -1},
		"Atoms passed by one":      {Atoms: 13, Rules: fact},
		"a head above Atoms":       {Rules: fact},
		"the greatest Atoms":       {Atoms: math.MaxInt, Rules: fact},
		"the least Atoms":          {Atoms: math.MinInt, Rules: fact},
		"two heads":                {Atoms: 2, Rules: []impl.Rule{plain(1), {Heads: []int{1, 2}}}},
		"a choice without a head":  {Atoms: 2, Rules: []impl.Rule{plain(1), {Choice: true}}},
		"W 0":                      {Atoms: 2, Rules: []impl.Rule{plain(1), weighed(nil, 1, wl(2, 0))}},
		"a level out of order":     {Atoms: 2, Rules: fact, Levels: []impl.Level{{P: 1}, {P: 1}}},
		"Project without ProjOn":   {Atoms: 2, Rules: fact, Project: []int{1}},
		"a Text with a blank":      {Atoms: 2, Rules: fact, Shows: []impl.Show{{Text: "a b"}}},
		"V 3":                      {Atoms: 2, Rules: fact, Exts: []impl.Ext{{Atom: 1, V: 3}}},
		"literal 0 assumed":        {Atoms: 2, Rules: fact, Assume: []int{0}},
		"one more than is assumed": {Atoms: 2, Rules: fact, Assume: times(21, 1)},
	} {
		checkNothing(t, name, p)
	}
}

// TestAnswersAndRoom: with just MaxRules rules of Fold there are answers, with one more there is nothing.
func TestAnswersAndRoom(t *testing.T) {
	fact := func(n int) []impl.Rule { return times(n, plain(12)) }
	free := []impl.Ext{{Atom: 1}}
	for _, c := range []struct {
		name   string
		rules  int
		exts   []impl.Ext
		assume []int
		want   []string
	}{
		{"MaxRules rules", 60, nil, nil, []string{"12"}},
		{"MaxRules rules with V 0", 59, free, nil, []string{"12", "1 12"}},
		{"one more with V 0", 60, free, nil, nil},
		{"MaxRules rules with V 1", 59, []impl.Ext{{Atom: 1, V: 1}}, nil, []string{"1 12"}},
		{"one more with V 1", 60, []impl.Ext{{Atom: 1, V: 1}}, nil, nil},
		{"V 2 is no rule", 60, []impl.Ext{{Atom: 1, V: 2}}, nil, []string{"12"}},
		{"an external head is no rule", 60, []impl.Ext{{Atom: 12}}, nil, []string{"12"}},
		{"MaxRules rules with what is assumed", 58, nil, []int{12, -1}, []string{"12"}},
		{"one more with what is assumed", 59, nil, []int{12, -1}, nil},
		{"MaxRules rules with both", 57, free, []int{12, -2}, []string{"12", "1 12"}},
		{"one more with both", 58, free, []int{12, -2}, nil},
	} {
		p := impl.Prog{Atoms: 12, Rules: fact(c.rules), Exts: c.exts, Assume: c.assume}
		if c.want == nil {
			checkNothing(t, c.name, p)
			continue
		}
		checkAnswers(t, c.name, p, c.want...)
		if impl.Count(p) > 0 {
			least := impl.Answers(p)[0].A
			checkMade(t, c.name, p, least, textOf(least), textOf(least))
		}
	}
	checkNothing(t, "a program at its limits", atLimits())
}

// numsOf are the numbers of sets, in their order.
func numsOf(sets []impl.Set) []int {
	var nums []int
	for _, s := range sets {
		nums = append(nums, impl.SetNum(s.A))
	}
	return nums
}

// TestAnswersAreWhatTheyAre: what is listed is what Answer tells, what the definition tells, and what makes a pair with itself and with no lesser part.
func TestAnswersAreWhatTheyAre(t *testing.T) {
	from := rand.New(rand.NewSource(14))
	found, none := 0, 0
	for range 1500 {
		p := someWhole(from, 1+from.Intn(5))
		got := impl.Answers(p)
		nums := numsOf(got)
		if want := answersOfWhole(p); !slices.Equal(nums, want) || impl.Count(p) != len(want) {
			t.Fatalf("Answers(%+v) = %v, not %v", p, got, want)
		}
		folded, _ := impl.Fold(p)
		for num := range 1 << (p.Atoms + 1) {
			x := impl.SetOf(num)
			is := impl.Answer(p, x)
			if is != slices.Contains(nums, num) || is != (num < 1<<p.Atoms && isBalanced(folded.Rules, num)) {
				t.Fatalf("Answer(%+v, %v) is %v", p, x, is)
			}
		}
		for i, s := range got {
			if !slices.Equal(s.A, impl.SetOf(nums[i])) {
				t.Fatalf("Answers(%+v) has %v, which is no set", p, s.A)
			}
		}
		found += len(nums)
		if len(nums) == 0 {
			none++
		}
	}
	if found < 500 || none < 200 || none > 1300 {
		t.Errorf("the programs are too much alike: %d answers, %d programs with none", found, none)
	}
}

// isBalanced tells whether the set of a number makes a pair of rules with itself, and no lesser part of it does.
func isBalanced(rules []impl.Rule, num int) bool {
	there := impl.SetOf(num)
	for here := range num {
		if here&^num == 0 && htModel(rules, impl.SetOf(here), there) {
			return false
		}
	}
	return htModel(rules, there, there)
}

// TestAnswersWithAChoiceOfAll: they are the models of what is folded.
func TestAnswersWithAChoiceOfAll(t *testing.T) {
	from := rand.New(rand.NewSource(15))
	found, others := 0, 0
	for range 500 {
		p := someWhole(from, 1+from.Intn(5))
		p.Rules = slices.Insert(p.Rules, from.Intn(len(p.Rules)+1), choice(impl.SetOf(1<<p.Atoms-1)))
		folded, ok := impl.Fold(p)
		if !ok {
			t.Fatalf("%+v is not folded", p)
		}
		var models []int
		for num := range 1 << p.Atoms {
			if impl.Model(folded, impl.SetOf(num)) {
				models = append(models, num)
			} else {
				others++
			}
		}
		if got := numsOf(impl.Answers(p)); !slices.Equal(got, models) {
			t.Fatalf("Answers(%+v) = %v, not %v", p, got, models)
		}
		found += len(models)
	}
	if found < 500 || others < 500 {
		t.Errorf("the programs are too much alike: %d models, %d sets that are none", found, others)
	}
}

// TestLeastWithoutChoice: of a greater set the least set made is a lesser one; with Choice it need not be.
func TestLeastWithoutChoice(t *testing.T) {
	from := rand.New(rand.NewSource(16))
	less, same := 0, 0
	for range 500 {
		p := withoutChoice(someWhole(from, 1+from.Intn(4)))
		for num := range 1 << p.Atoms {
			made := impl.Least(p, impl.SetOf(num))
			for greater := num; greater < 1<<p.Atoms; greater++ {
				if num&^greater != 0 {
					continue
				}
				of := impl.Least(p, impl.SetOf(greater))
				if !impl.SetIn(of, made) {
					t.Fatalf("Least(%+v, %v) = %v, but %v of %v", p, impl.SetOf(greater), of, made, impl.SetOf(num))
				}
				if len(of) < len(made) {
					less++
				} else {
					same++
				}
			}
		}
	}
	if less < 2000 || same < 2000 {
		t.Errorf("the programs are too much alike: %d lesser sets, %d that are the same", less, same)
	}
	p := impl.Prog{Atoms: 2, Rules: []impl.Rule{choice([]int{1}), plain(2, 1)}}
	if textOf(impl.Least(p, nil)) != "" || textOf(impl.Least(p, []int{1})) != "1 2" {
		t.Error("with Choice the least set made of a greater set is not a greater one")
	}
}

// withoutChoice is p with its rules with Choice as ones of their first head, and no external atoms that would be such rules.
func withoutChoice(p impl.Prog) impl.Prog {
	for i, r := range p.Rules {
		if r.Choice {
			p.Rules[i].Choice, p.Rules[i].Heads = false, r.Heads[:1]
		}
	}
	for i, e := range p.Exts {
		if e.V == 0 {
			p.Exts[i].V = 1
		}
	}
	return p
}

// TestConstraintLeavesAnswers: a constraint put to a program with room leaves those of its answers that do not break it.
func TestConstraintLeavesAnswers(t *testing.T) {
	from := rand.New(rand.NewSource(17))
	left, gone := 0, 0
	for range 1500 {
		p := someWhole(from, 1+from.Intn(5))
		r := someRule(from, p.Atoms)
		r.Choice, r.Heads = false, nil
		both, ok := impl.Both(p, impl.Prog{Atoms: p.Atoms, Rules: []impl.Rule{r}})
		if !ok {
			t.Fatalf("%+v has no room", p)
		}
		var want []int
		for _, s := range impl.Answers(p) {
			if impl.BodyHolds(r, s.A) {
				gone++
			} else {
				want = append(want, impl.SetNum(s.A))
			}
		}
		if got := numsOf(impl.Answers(both)); !slices.Equal(got, want) || impl.Count(both) != len(want) {
			t.Fatalf("with %+v the answers of %+v are %v, not %v", r, p, got, want)
		}
		left += len(want)
	}
	if left < 300 || gone < 300 {
		t.Errorf("the constraints are too much alike: %d answers left, %d gone", left, gone)
	}
}

// TestConstraintAndRoom: the last place that Fold has left is enough for a constraint, and with none left there is nothing.
func TestConstraintAndRoom(t *testing.T) {
	p := impl.Prog{Atoms: 12, Rules: append(times(56, plain(12)), choice([]int{2, 3})), Exts: []impl.Ext{{Atom: 1}}, Assume: []int{12}}
	checkAnswers(t, "without it", p, "12", "1 12", "2 12", "1 2 12", "3 12", "1 3 12", "2 3 12", "1 2 3 12")
	more, ok := impl.Both(p, impl.Prog{Atoms: 3, Rules: []impl.Rule{constraint(1, -2)}})
	if !ok {
		t.Fatal("there is no room")
	}
	checkAnswers(t, "with room", more, "12", "2 12", "1 2 12", "3 12", "2 3 12", "1 2 3 12")
	full, ok := impl.Both(more, impl.Prog{Atoms: 3, Rules: []impl.Rule{constraint(3)}})
	if !ok {
		t.Fatal("there is no room for the rules themselves")
	}
	checkNothing(t, "without room", full)
}

// TestFoldedProgramHasTheSameAnswers: and a tidy one has, too, where nothing is external.
func TestFoldedProgramHasTheSameAnswers(t *testing.T) {
	from := rand.New(rand.NewSource(18))
	found, external := 0, 0
	for range 1500 {
		p := someWhole(from, 1+from.Intn(5))
		want := impl.Answers(p)
		folded, ok := impl.Fold(p)
		if !ok || !alike(impl.Answers(folded), want) || impl.Count(folded) != len(want) {
			t.Fatalf("folded %+v has the answers %v, not %v", p, impl.Answers(folded), want)
		}
		if tidy := impl.Tidy(folded); !alike(impl.Answers(tidy), want) {
			t.Fatalf("tidy %+v has the answers %v, not %v", folded, impl.Answers(tidy), want)
		}
		for num := range 1 << p.Atoms {
			x := impl.SetOf(num)
			checkMade(t, "folded", folded, x, textOf(impl.Least(p, x)), textOf(impl.Base(p, x)))
		}
		found += len(want)
		external += len(p.Exts)
	}
	if found < 500 || external < 500 {
		t.Errorf("the programs are too much alike: %d answers, %d external atoms", found, external)
	}
}

// answerable are programs, and what is none, for calls that must leave them as they are.
func answerable() []impl.Prog {
	return append(foldable(),
		impl.Prog{Atoms: 12, Rules: evenCircle()},
		impl.Prog{Atoms: 5, Rules: []impl.Rule{choice([]int{1, 3, 5}), plain(2, 3, -1)}},
		impl.Prog{Atoms: 12, Rules: []impl.Rule{choice([]int{2, 7, 12}), weighed([]int{4}, 2, wl(2, 1), wl(-7, 1))}, Exts: []impl.Ext{{Atom: 9}}, Assume: []int{9}},
	)
}

func TestAnswersArgumentsAreKept(t *testing.T) {
	for _, made := range answerable() {
		keeping(t, "Answers", withSpare(made), func(p impl.Prog) { impl.Answers(p) })
		keeping(t, "Count", withSpare(made), func(p impl.Prog) { impl.Count(p) })
		for _, x := range lists {
			list := withSpare(x)
			keeping(t, "Least", withSpare(made), func(p impl.Prog) { impl.Least(p, list) })
			keeping(t, "Base", withSpare(made), func(p impl.Prog) { impl.Base(p, list) })
			keeping(t, "Answer", withSpare(made), func(p impl.Prog) { impl.Answer(p, list) })
			checkKept(t, "Least, Base or Answer", list, x)
		}
	}
}

func TestAnswersSpareIsNotRead(t *testing.T) {
	for _, made := range answerable() {
		p := withSpare(made)
		if !alike(impl.Answers(p), impl.Answers(made)) || impl.Count(p) != impl.Count(made) {
			t.Errorf("the room behind the lists of %+v is read", made)
		}
		for _, x := range lists {
			list := withSpare(x)
			if !slices.Equal(impl.Least(p, list), impl.Least(made, x)) || !slices.Equal(impl.Base(p, list), impl.Base(made, x)) || impl.Answer(p, list) != impl.Answer(made, x) {
				t.Errorf("the room behind the lists of %+v or %v is read", made, x)
			}
		}
	}
}

func TestAnswersAreNew(t *testing.T) {
	for _, made := range answerable() {
		p := withSpare(made)
		one, two := impl.Answers(p), impl.Answers(p)
		checkApart(t, "Answers", p, one, two)
		handsOutNothing(t, "Answers", reflect.ValueOf(one))
		for _, x := range lists {
			list := withSpare(x)
			least, base := impl.Least(p, list), impl.Base(p, list)
			checkApart(t, "Least and Base", p, list, least, base, impl.Least(p, list), impl.Base(p, list))
			handsOutNothing(t, "Least", reflect.ValueOf(least))
			handsOutNothing(t, "Base", reflect.ValueOf(base))
		}
	}
	free := impl.Prog{Atoms: 4, Rules: []impl.Rule{choice([]int{1, 2, 3, 4})}}
	one := impl.Answers(free)
	for _, s := range one {
		overwrite(s.A, -1)
	}
	if got := numsOf(impl.Answers(free)); !slices.Equal(got, []int{0, 1, 2, 3, 4, 5, 6, 7, 8, 9, 10, 11, 12, 13, 14, 15}) {
		t.Errorf("where an answer is written into, the next one is %v", got)
	}
}
