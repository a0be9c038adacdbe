package tests

import (
	"math"
	"slices"
	"testing"

	"loop.example/g00554/impl"
)

// noAtoms are numbers that must count nowhere; some of them would be atoms, if only their low bits were seen.
var noAtoms = []int{0, -1, -2, -12, 13, 14, 16, 17, 32, 33, 63, 64, 65, 66, 76, 129, 256, 257, 65537, 1<<32 + 1, -1<<32 + 1, math.MaxInt, math.MaxInt - 1, math.MinInt, math.MinInt + 1}

// lists are sets, and lists that are none: falling, with atoms twice, with numbers that are no atoms.
var lists = [][]int{
	nil,
	{},
	{1},
	{12},
	{1, 12},
	{2, 3, 5, 7, 11},
	{1, 2, 3, 4, 5, 6, 7, 8, 9, 10, 11, 12},
	{12, 11, 10, 9, 8, 7, 6, 5, 4, 3, 2, 1},
	{3, 1},
	{3, 1, 2, 3, 1},
	{4, 4},
	{12, 12, 1, 1},
	{0},
	{13},
	{0, 13, -5},
	{0, 1, 12, 13},
	{99, 2, -2, 5, 0, 2, 64, 65, 77},
	{math.MinInt, 6, math.MaxInt},
	{math.MinInt, math.MaxInt},
	{1<<32 + 3, 9, 1<<63 - 4},
}

// stands is a list read by the definition alone: which atoms stand in it.
func stands(x []int) map[int]bool {
	m := map[int]bool{}
	for _, a := range x {
		if a >= 1 && a <= 12 {
			m[a] = true
		}
	}
	return m
}

// rising is the atoms of which keep is true, rising.
func rising(keep func(a int) bool) []int {
	var x []int
	for a := 1; a <= 12; a++ {
		if keep(a) {
			x = append(x, a)
		}
	}
	return x
}

func TestMaxAtoms(t *testing.T) {
	if impl.MaxAtoms != 12 {
		t.Fatalf("MaxAtoms is %d", impl.MaxAtoms)
	}
}

func TestSetOkCases(t *testing.T) {
	all := []int{1, 2, 3, 4, 5, 6, 7, 8, 9, 10, 11, 12}
	for _, c := range []struct {
		x    []int
		n    int
		want bool
	}{
		{nil, 0, true},
		{[]int{}, 0, true},
		{nil, 12, true},
		{nil, 13, false},
		{nil, -1, false},
		{nil, math.MaxInt, false},
		{nil, math.MinInt, false},
		{[]int{1}, 0, false},
		{[]int{1}, 1, true},
		{[]int{1}, -1, false},
		{[]int{12}, 12, true},
		{[]int{12}, 11, false},
		{[]int{12}, 13, false},
		{[]int{13}, 12, false},
		{[]int{13}, 13, false},
		{[]int{0}, 12, false},
		{[]int{-1}, 12, false},
		{[]int{0, 1}, 12, false},
		{[]int{math.MinInt}, 12, false},
		{[]int{math.MinInt, 1}, 12, false},
		{[]int{1, math.MaxInt}, 12, false},
		{[]int{1, 1}, 12, false},
		{[]int{2, 1}, 12, false},
		{[]int{1, 3, 2}, 12, false},
		{[]int{1, 3, 3}, 12, false},
		{all, 12, true},
		{all, 11, false},
		{append(slices.Clone(all), 13), 12, false},
	} {
		if impl.SetOk(c.x, c.n) != c.want {
			t.Errorf("SetOk(%v, %d) is not %v", c.x, c.n, c.want)
		}
	}
}

// TestSetOkShortLists tries all lists of up to three numbers around the limits.
func TestSetOkShortLists(t *testing.T) {
	check := func(x []int) {
		for n := -2; n <= 15; n++ {
			want := n >= 0 && n <= 12
			for i, a := range x {
				want = want && a >= 1 && a <= 12 && a <= n && (i == 0 || x[i-1] < a)
			}
			if impl.SetOk(x, n) != want {
				t.Fatalf("SetOk(%v, %d) is not %v", x, n, want)
			}
		}
	}
	for a := -1; a <= 14; a++ {
		check([]int{a})
		for b := -1; b <= 14; b++ {
			check([]int{a, b})
			for c := -1; c <= 14; c++ {
				check([]int{a, b, c})
			}
		}
	}
}

func TestSetHas(t *testing.T) {
	for _, x := range lists {
		m := stands(x)
		for a := 1; a <= 12; a++ {
			if impl.SetHas(x, a) != m[a] {
				t.Errorf("SetHas(%v, %d) is not %v", x, a, m[a])
			}
		}
	}
}

// TestSetHasNoAtom: a list counts by the atoms that stand in it, so it has no number that is no atom.
func TestSetHasNoAtom(t *testing.T) {
	all := impl.SetOf(4095)
	for _, a := range noAtoms {
		for _, x := range [][]int{nil, all, {a}, {1, a, 2}} {
			if impl.SetHas(x, a) {
				t.Errorf("SetHas(%v, %d) is true", x, a)
			}
		}
	}
}

func checkPair(t *testing.T, x, y []int) {
	t.Helper()
	mx, my := stands(x), stands(y)
	in := true
	for a := range mx {
		in = in && my[a]
	}
	if impl.SetIn(x, y) != in {
		t.Errorf("SetIn(%v, %v) is not %v", x, y, in)
	}
	for _, c := range []struct {
		name      string
		got, want []int
	}{
		{"SetJoin", impl.SetJoin(x, y), rising(func(a int) bool { return mx[a] || my[a] })},
		{"SetMeet", impl.SetMeet(x, y), rising(func(a int) bool { return mx[a] && my[a] })},
		{"SetLess", impl.SetLess(x, y), rising(func(a int) bool { return mx[a] && !my[a] })},
	} {
		if !slices.Equal(c.got, c.want) {
			t.Errorf("%s(%v, %v) = %v, not %v", c.name, x, y, c.got, c.want)
		}
	}
}

func TestSetPairsOfLists(t *testing.T) {
	for _, x := range lists {
		for _, y := range lists {
			checkPair(t, x, y)
		}
	}
}

func TestSetPairsOfSets(t *testing.T) {
	for i := 0; i < 4096; i += 13 {
		for j := 0; j < 4096; j += 37 {
			checkPair(t, impl.SetOf(i), impl.SetOf(j))
		}
	}
}

func TestSetPairsWithNoAtoms(t *testing.T) {
	for _, a := range noAtoms {
		for _, x := range lists {
			checkPair(t, x, []int{a})
			checkPair(t, []int{a}, x)
			checkPair(t, append([]int{a}, x...), append(slices.Clone(x), a))
		}
	}
}

// TestSetLaws: both, either and one without the other go together as sets do.
func TestSetLaws(t *testing.T) {
	for i := 0; i < 4096; i += 7 {
		for j := 0; j < 4096; j += 101 {
			x, y := impl.SetOf(i), impl.SetOf(j)
			join, meet, less := impl.SetJoin(x, y), impl.SetMeet(x, y), impl.SetLess(x, y)
			parts := impl.SetNum(less) + impl.SetNum(meet) + impl.SetNum(impl.SetLess(y, x))
			if impl.SetNum(join) != parts || i+j != impl.SetNum(join)+impl.SetNum(meet) {
				t.Fatalf("the parts of %v and %v are not the whole", x, y)
			}
			if !slices.Equal(join, impl.SetJoin(y, x)) || !slices.Equal(meet, impl.SetMeet(y, x)) {
				t.Fatalf("%v and %v: the order counts", x, y)
			}
			if !slices.Equal(impl.SetJoin(less, meet), x) || len(impl.SetMeet(less, y)) != 0 {
				t.Fatalf("%v without %v", x, y)
			}
			if !impl.SetIn(meet, x) || !impl.SetIn(x, join) || impl.SetIn(x, y) != (len(less) == 0) {
				t.Fatalf("what is in %v and %v", x, y)
			}
			if !impl.SetOk(join, 12) || !impl.SetOk(meet, 12) || !impl.SetOk(less, 12) {
				t.Fatalf("what comes of %v and %v is no set", x, y)
			}
		}
	}
}

func TestSetNumCases(t *testing.T) {
	for _, c := range []struct {
		x    []int
		want int
	}{
		{nil, 0},
		{[]int{}, 0},
		{[]int{1}, 1},
		{[]int{2}, 2},
		{[]int{12}, 2048},
		{[]int{1, 3, 3, 0}, 5},
		{[]int{3, 3, 3}, 4},
		{[]int{12, 1}, 2049},
		{[]int{0, 13, -1, 65, 77, math.MinInt, math.MaxInt}, 0},
		{[]int{1, 2, 3, 4, 5, 6, 7, 8, 9, 10, 11, 12}, 4095},
		{[]int{12, 11, 10, 9, 8, 7, 6, 5, 4, 3, 2, 1, 1, 13}, 4095},
	} {
		if got := impl.SetNum(c.x); got != c.want {
			t.Errorf("SetNum(%v) = %d, not %d", c.x, got, c.want)
		}
	}
}

func TestSetNumLists(t *testing.T) {
	for _, x := range lists {
		want := 0
		for a := range stands(x) {
			want += 1 << (a - 1)
		}
		if got := impl.SetNum(x); got != want {
			t.Errorf("SetNum(%v) = %d, not %d", x, got, want)
		}
	}
	for _, a := range noAtoms {
		if got := impl.SetNum([]int{a, 5, a}); got != 16 {
			t.Errorf("with %d SetNum is %d, not 16", a, got)
		}
	}
}

// TestSetOfEachNumber: each set is got from its number.
func TestSetOfEachNumber(t *testing.T) {
	for num := 0; num < 4096; num++ {
		x := impl.SetOf(num)
		want := rising(func(a int) bool { return num>>(a-1)&1 == 1 })
		if !slices.Equal(x, want) {
			t.Fatalf("SetOf(%d) = %v, not %v", num, x, want)
		}
		if !impl.SetOk(x, 12) || impl.SetNum(x) != num {
			t.Fatalf("SetOf(%d) = %v is no set, or has another number", num, x)
		}
	}
}

func TestSetOfNoNumber(t *testing.T) {
	for _, num := range []int{-1, -2, -5, -4095, -4096, 4096, 4097, 8191, 8192, 65535, 65536, 65541, 1<<32 + 5, -1<<32 + 5, math.MaxInt, math.MinInt, math.MinInt + 5} {
		if x := impl.SetOf(num); len(x) != 0 {
			t.Errorf("SetOf(%d) = %v", num, x)
		}
	}
}

func TestSetText(t *testing.T) {
	for _, c := range []struct {
		x    []int
		want string
	}{
		{nil, ""},
		{[]int{}, ""},
		{[]int{1}, "1"},
		{[]int{12}, "12"},
		{[]int{12, 1}, "1 12"},
		{[]int{3, 1, 3, 2, 1}, "1 2 3"},
		{[]int{10, 9, 11}, "9 10 11"},
		{[]int{0, 13, -5}, ""},
		{[]int{0, 13, 4, -4, math.MinInt, math.MaxInt, 68}, "4"},
		{[]int{12, 11, 10, 9, 8, 7, 6, 5, 4, 3, 2, 1}, "1 2 3 4 5 6 7 8 9 10 11 12"},
	} {
		if got := impl.SetText(c.x); got != c.want {
			t.Errorf("SetText(%v) = %q, not %q", c.x, got, c.want)
		}
	}
}

func TestNumText(t *testing.T) {
	for _, c := range []struct {
		n    int
		want string
	}{
		{0, "0"},
		{1, "1"},
		{9, "9"},
		{10, "10"},
		{100, "100"},
		{-1, "-1"},
		{-7, "-7"},
		{-10, "-10"},
		{4096, "4096"},
		{1000000000, "1000000000"},
		{-1000000001, "-1000000001"},
		{math.MaxInt, "9223372036854775807"},
		{math.MinInt + 1, "-9223372036854775807"},
		{math.MinInt, "-9223372036854775808"},
	} {
		if got := impl.NumText(c.n); got != c.want {
			t.Errorf("NumText(%d) = %q, not %q", c.n, got, c.want)
		}
	}
}

// setCalls are the functions of chapter 1 that answer a list, each as one of two lists.
var setCalls = []struct {
	name string
	call func(x, y []int) []int
}{
	{"SetJoin", impl.SetJoin},
	{"SetMeet", impl.SetMeet},
	{"SetLess", impl.SetLess},
	{"SetOf", func(x, y []int) []int { return impl.SetOf(impl.SetNum(x)) }},
}

func TestSetArgumentsAreKept(t *testing.T) {
	for _, wantX := range lists {
		for _, wantY := range lists {
			x, y := withSpare(wantX), withSpare(wantY)
			for _, c := range setCalls {
				c.call(x, y)
				checkKept(t, c.name, x, wantX)
				checkKept(t, c.name, y, wantY)
			}
			impl.SetIn(x, y)
			checkKept(t, "SetIn", x, wantX)
			checkKept(t, "SetIn", y, wantY)
		}
		x := withSpare(wantX)
		impl.SetOk(x, 12)
		checkKept(t, "SetOk", x, wantX)
		impl.SetHas(x, 1)
		checkKept(t, "SetHas", x, wantX)
		impl.SetNum(x)
		checkKept(t, "SetNum", x, wantX)
		impl.SetText(x)
		checkKept(t, "SetText", x, wantX)
	}
}

// TestSetAnswersAreNew: an answer that is overwritten changes neither an argument nor a later answer, and the other way round.
func TestSetAnswersAreNew(t *testing.T) {
	for _, wantX := range lists {
		for _, wantY := range lists {
			for _, c := range setCalls {
				x, y := withSpare(wantX), withSpare(wantY)
				first := c.call(x, y)
				want := slices.Clone(first)
				second := c.call(x, y)
				overwrite(second, -3)
				if !slices.Equal(first, want) {
					t.Fatalf("%s: two answers share memory", c.name)
				}
				checkKept(t, c.name, x, wantX)
				checkKept(t, c.name, y, wantY)
				overwrite(x, -4)
				overwrite(y, -5)
				if !slices.Equal(first, want) {
					t.Fatalf("%s: the answer shares memory with an argument", c.name)
				}
				if third := c.call(wantX, wantY); !slices.Equal(third, want) {
					t.Fatalf("%s: an earlier call counts", c.name)
				}
			}
		}
	}
}

// TestSetSpareIsNotRead: what lies behind a list's length is not read.
func TestSetSpareIsNotRead(t *testing.T) {
	room := []int{2, 5, 6, 7}
	x := room[:1]
	if impl.SetHas(x, 5) || impl.SetNum(x) != 2 || impl.SetText(x) != "2" || !impl.SetOk(x, 2) {
		t.Error("the room behind one list is read")
	}
	if !impl.SetIn(x, []int{2}) || impl.SetIn([]int{5}, x) {
		t.Error("SetIn reads the room behind a list")
	}
	for _, c := range []struct {
		name      string
		got, want []int
	}{
		{"SetJoin", impl.SetJoin(x, x), []int{2}},
		{"SetMeet", impl.SetMeet(x, []int{2, 5, 6, 7}), []int{2}},
		{"SetLess", impl.SetLess([]int{2, 5}, x), []int{5}},
	} {
		if !slices.Equal(c.got, c.want) {
			t.Errorf("%s = %v, not %v", c.name, c.got, c.want)
		}
	}
}
