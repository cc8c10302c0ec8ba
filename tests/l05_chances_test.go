package tests

import (
	"fmt"
	"math"
	"math/big"
	"math/rand"
	"runtime"
	"slices"
	"strings"
	"testing"
	"time"

	"loop.example/g01392/impl"
)

// beyond returns numbers that are not in -limit..limit.
func beyond(limit int64) []int64 {
	return []int64{limit + 1, -limit - 1, 2 * limit, -2 * limit, 1 << 40, -1 << 40, 1 << 62, math.MaxInt64 - 1, math.MaxInt64, math.MinInt64, math.MinInt64 + 1, -math.MaxInt64}
}

// wholeList returns a list as great numbers.
func wholeList(list []int64) []*big.Int {
	var wide []*big.Int
	for _, c := range list {
		wide = append(wide, big.NewInt(c))
	}
	return wide
}

// timesWith returns the product of two polynomials.
func timesWith(f []*big.Int, g []*big.Int) []*big.Int {
	product := wholeList(make([]int64, len(f)+len(g)-1))
	for i := range f {
		for j := range g {
			product[i+j].Add(product[i+j], new(big.Int).Mul(f[i], g[j]))
		}
	}
	return product
}

// rationalAt returns the value of a polynomial at a / b, from the powers one after the other.
func rationalAt(list []int64, a int64, b int64) *big.Rat {
	sum, power, at := new(big.Rat), big.NewRat(1, 1), big.NewRat(a, b)
	for _, c := range list {
		sum.Add(sum, new(big.Rat).Mul(power, big.NewRat(c, 1)))
		power.Mul(power, at)
	}
	return sum
}

// wantFraction fails unless a fraction and a code are as wanted. What is wanted is in lowest terms,
// with a second number greater than 0, as all numbers of its type are.
func wantFraction(t *testing.T, call string, a int64, b int64, code int64, want *big.Rat) {
	t.Helper()
	if want.Num().Cmp(big.NewInt(a)) != 0 || want.Denom().Cmp(big.NewInt(b)) != 0 || code != impl.ErrNone {
		t.Errorf("%s = %d, %d, %d, want %v, 0", call, a, b, code, want)
	}
}

// wantFractionError fails unless the code is as wanted and both numbers beside it are 0.
func wantFractionError(t *testing.T, call string, a int64, b int64, code int64, want int64) {
	t.Helper()
	if a != 0 || b != 0 || code != want {
		t.Errorf("%s = %d, %d, %d, want 0, 0, %d", call, a, b, code, want)
	}
}

// chanceWith returns the coefficients of the chance of a list of values. The last input parts it
// into halves, of which the second one has the chance p, and the first one what is left of 1.
func chanceWith(values []int64) []int64 {
	if len(values) == 1 {
		return slices.Clone(values)
	}
	zero, one := chanceWith(values[:len(values)/2]), chanceWith(values[len(values)/2:])
	list := append(slices.Clone(zero), 0)
	for i := range zero {
		list[i+1] += one[i] - zero[i]
	}
	return list
}

// levelsWith returns the levels of a table.
func levelsWith(x impl.Table) []int64 {
	levels := make([]int64, x.Inputs+1)
	for k, value := range valuesOf(x) {
		levels[onesIn(digitsOf(int64(k), x.Inputs))] += value
	}
	return levels
}

// chanceApartWith returns the chance of a list of values if each input has its own one, by halves.
func chanceApartWith(values []int64, chances [][]int64) *big.Rat {
	if len(values) == 1 {
		return big.NewRat(values[0], 1)
	}
	last := len(chances) - 1
	p := big.NewRat(chances[last][0], chances[last][1])
	zero := chanceApartWith(values[:len(values)/2], chances[:last])
	one := chanceApartWith(values[len(values)/2:], chances[:last])
	one.Mul(one, p)
	zero.Mul(zero, new(big.Rat).Sub(big.NewRat(1, 1), p))
	return one.Add(one, zero)
}

func TestMaxTerms(t *testing.T) {
	var asByte byte = impl.MaxTerms
	var asFloat float64 = impl.MaxTerms
	if asByte != 24 || asFloat != 24 {
		t.Errorf("MaxTerms %d", asByte)
	}
}

func TestChanceOf(t *testing.T) {
	for _, x := range sampleTables() {
		list, code := impl.ChanceOf(x)
		wantList(t, fmt.Sprintf("ChanceOf(%v)", x), list, code, chanceWith(valuesOf(x)))
	}
	for text, want := range map[string][]int64{
		"2:0111": {0, 2, -1}, // the example of the document
		"1:00":   {0, 0}, "1:11": {1, 0}, "1:01": {0, 1}, "1:10": {1, -1},
		"2:0000": {0, 0, 0}, "2:1111": {1, 0, 0}, "2:0101": {0, 1, 0}, "2:0011": {0, 1, 0}, "2:0001": {0, 0, 1}, "2:0110": {0, 2, -2}, "2:1000": {1, -2, 1}, "2:1001": {1, -2, 2},
		"3:00010111": {0, 0, 3, -2}, "3:01101001": {0, 3, -6, 4}, "3:00001111": {0, 1, 0, 0}, "3:11110000": {1, -1, 0, 0}, "3:01000101": {0, 1, -1, 1},
		"5:" + strings.Repeat("0", 32): {0, 0, 0, 0, 0, 0}, "5:" + strings.Repeat("1", 32): {1, 0, 0, 0, 0, 0},
		"5:" + strings.Repeat("0", 31) + "1": {0, 0, 0, 0, 0, 1}, "5:1" + strings.Repeat("0", 31): {1, -5, 10, -10, 5, -1}, "5:0" + strings.Repeat("1", 31): {0, 5, -10, 10, -5, 1},
		"5:" + strings.Repeat("0", 16) + strings.Repeat("1", 16): {0, 1, 0, 0, 0, 0}, "5:" + strings.Repeat("01", 16): {0, 1, 0, 0, 0, 0}, "5:" + strings.Repeat("10", 16): {1, -1, 0, 0, 0, 0},
	} {
		list, code := impl.ChanceOf(tableOfText(text))
		wantList(t, "ChanceOf of "+text, list, code, want)
	}
	// Letters have the chance of their input, wherever it stands.
	for n := int64(1); n <= 5; n++ {
		for i := range n {
			x, _ := impl.LetterTable(n, i)
			want := make([]int64, n+1)
			want[1] = 1
			list, code := impl.ChanceOf(x)
			wantList(t, fmt.Sprintf("ChanceOf of the letter %d of %d", i, n), list, code, want)
		}
	}
}

// someChances are chances that are 0, 1, in lowest terms, and not.
var someChances = [][]int64{{0, 1}, {0, 7}, {0, 100}, {1, 1}, {7, 7}, {100, 100}, {1, 2}, {2, 4}, {50, 100}, {33, 99}, {1, 100}, {99, 100}, {3, 7}, {12, 18}, {64, 81}, {96, 97}}

// noChances are pairs of numbers that are no chances.
func noChances() [][]int64 {
	list := [][]int64{{0, 0}, {1, 0}, {-1, 0}, {0, 101}, {1, 101}, {101, 101}, {50, 101}, {0, -1}, {1, -1}, {-1, -1}, {-1, -2}, {-1, 1}, {-1, 2}, {-2, 2}, {-7, 7}, {-100, 100}, {2, 1}, {8, 7}, {101, 100}, {1 << 32, 100}}
	for _, far := range beyond(100) {
		list = append(list, []int64{far, 1}, []int64{far, 100}, []int64{0, far}, []int64{1, far}, []int64{far, far}, []int64{-far, far}, []int64{far, 0})
	}
	return list
}

func TestChanceAt(t *testing.T) {
	for _, x := range sampleTables() {
		for _, p := range someChances {
			a, b, code := impl.ChanceAt(x, p[0], p[1])
			want := chanceApartWith(valuesOf(x), slices.Repeat([][]int64{p}, int(x.Inputs)))
			wantFraction(t, fmt.Sprintf("ChanceAt(%v, %d, %d)", x, p[0], p[1]), a, b, code, want)
		}
	}
	for _, c := range []struct {
		text       string
		a, b, x, y int64
	}{
		{"2:0111", 1, 2, 3, 4}, {"2:0111", 2, 4, 3, 4}, {"2:0111", 1, 3, 5, 9}, {"2:0111", 0, 9, 0, 1}, {"2:0111", 9, 9, 1, 1}, {"2:0001", 4, 6, 4, 9}, {"2:0110", 1, 2, 1, 2},
		{"1:01", 6, 8, 3, 4}, {"1:10", 6, 8, 1, 4}, {"1:00", 3, 7, 0, 1}, {"1:11", 3, 7, 1, 1}, {"1:01", 0, 5, 0, 1}, {"1:10", 0, 5, 1, 1}, {"1:01", 5, 5, 1, 1}, {"1:10", 5, 5, 0, 1},
		{"3:00010111", 1, 2, 1, 2}, {"3:00010111", 0, 7, 0, 1}, {"3:01101001", 1, 3, 13, 27},
		{"5:00000000000000000000000000000001", 99, 100, 9509900499, 10000000000}, {"5:10000000000000000000000000000000", 1, 100, 9509900499, 10000000000}, {"5:00000000000000000000000000000001", 10, 100, 1, 100000}, {"5:11111111111111111111111111111111", 99, 100, 1, 1},
	} {
		a, b, code := impl.ChanceAt(tableOfText(c.text), c.a, c.b)
		if a != c.x || b != c.y || code != impl.ErrNone {
			t.Errorf("ChanceAt of %s, %d and %d = %d, %d, %d, want %d, %d, 0", c.text, c.a, c.b, a, b, code, c.x, c.y)
		}
	}
	for _, x := range []impl.Table{{Inputs: 1}, {Inputs: 2, Values: 14}, {Inputs: 5, Values: 1<<32 - 1}} {
		for _, p := range noChances() {
			a, b, code := impl.ChanceAt(x, p[0], p[1])
			wantFractionError(t, fmt.Sprintf("ChanceAt(%v, %d, %d)", x, p[0], p[1]), a, b, code, impl.ErrRange)
		}
	}
}

// TestChanceAtAll looks at all chances of few tables.
func TestChanceAtAll(t *testing.T) {
	for _, text := range []string{"1:10", "2:0111", "3:00010111", "5:01101001100101101001011001101001"} {
		x := tableOfText(text)
		list := chanceWith(valuesOf(x))
		for b := int64(1); b <= 100; b++ {
			for a := range b + 1 {
				over, under, code := impl.ChanceAt(x, a, b)
				wantFraction(t, fmt.Sprintf("ChanceAt of %s, %d and %d", text, a, b), over, under, code, rationalAt(list, a, b))
			}
		}
	}
}

// listsOfChances returns lists of n chances: such that are equal, such that are equal but told by
// different numbers, and others.
func listsOfChances(n int64) [][][]int64 {
	source := rand.New(rand.NewSource(5))
	var lists [][][]int64
	for _, p := range someChances {
		lists = append(lists, slices.Repeat([][]int64{p}, int(n)))
	}
	for range 20 {
		var list, halves [][]int64
		for range n {
			b := 1 + source.Int63n(100)
			half := 1 + source.Int63n(50)
			list = append(list, []int64{source.Int63n(b + 1), b})
			halves = append(halves, []int64{half, 2 * half})
		}
		// One of them is 0 / b, one b / b.
		ends := copyOfLists(list)
		ends[0][0] = 0
		ends[n-1][0] = ends[n-1][1]
		lists = append(lists, list, halves, ends)
	}
	return lists
}

func TestChanceApart(t *testing.T) {
	lists := map[int64][][][]int64{}
	for n := int64(1); n <= 5; n++ {
		lists[n] = listsOfChances(n)
	}
	for at, x := range sampleTables() {
		for i, chances := range lists[x.Inputs] {
			if i%5 != at%5 {
				continue
			}
			a, b, code := impl.ChanceApart(x, chances)
			wantFraction(t, fmt.Sprintf("ChanceApart(%v, %v)", x, chances), a, b, code, chanceApartWith(valuesOf(x), chances))
		}
	}
	for _, c := range []struct {
		text    string
		chances [][]int64
		a, b    int64
	}{
		{"2:0111", [][]int64{{1, 2}, {1, 3}}, 2, 3}, {"2:0001", [][]int64{{1, 2}, {1, 3}}, 1, 6}, {"2:0100", [][]int64{{1, 2}, {1, 3}}, 1, 3}, {"2:0010", [][]int64{{1, 2}, {1, 3}}, 1, 6}, {"2:1000", [][]int64{{1, 2}, {1, 3}}, 1, 3},
		{"2:0101", [][]int64{{2, 6}, {4, 5}}, 1, 3}, {"2:0011", [][]int64{{2, 6}, {4, 5}}, 4, 5}, {"2:0111", [][]int64{{0, 3}, {5, 5}}, 1, 1}, {"2:0001", [][]int64{{0, 3}, {5, 5}}, 0, 1}, {"2:0010", [][]int64{{0, 3}, {5, 5}}, 1, 1},
		{"1:01", [][]int64{{6, 8}}, 3, 4}, {"1:10", [][]int64{{6, 8}}, 1, 4}, {"1:00", [][]int64{{6, 8}}, 0, 1}, {"1:11", [][]int64{{6, 8}}, 1, 1},
		{"5:00000000000000000000000000000001", [][]int64{{99, 100}, {97, 99}, {89, 97}, {83, 89}, {79, 83}}, 79, 100},
		{"5:00000000000000000000000000000001", [][]int64{{1, 100}, {1, 99}, {1, 98}, {1, 97}, {1, 96}}, 1, 9034502400},
		{"5:11111111111111111111111111111111", [][]int64{{1, 100}, {1, 99}, {1, 98}, {1, 97}, {1, 96}}, 1, 1},
	} {
		a, b, code := impl.ChanceApart(tableOfText(c.text), c.chances)
		if a != c.a || b != c.b || code != impl.ErrNone {
			t.Errorf("ChanceApart of %s and %v = %d, %d, %d, want %d, %d, 0", c.text, c.chances, a, b, code, c.a, c.b)
		}
	}
}

// badChances returns lists that are no list of n chances.
func badChances(n int64) [][][]int64 {
	good := slices.Repeat([][]int64{{1, 2}}, int(n))
	lists := [][][]int64{nil, {}, good[1:], append(slices.Clone(good), []int64{1, 2}), slices.Repeat(good, 2), slices.Repeat(good, 100)}
	bad := append(noChances(), nil, []int64{}, []int64{1}, []int64{0}, []int64{1, 2, 3}, []int64{1, 2, 0}, []int64{1, 2, 1, 2}, make([]int64, 100))
	for place := range n {
		for _, p := range bad {
			list := slices.Clone(good)
			list[place] = p
			lists = append(lists, list)
		}
	}
	return lists
}

func TestChanceApartErrors(t *testing.T) {
	for n := int64(1); n <= 5; n++ {
		for _, values := range []int64{0, 2, 1<<(1<<n) - 1} {
			x := impl.Table{Inputs: n, Values: values}
			for _, chances := range badChances(n) {
				a, b, code := impl.ChanceApart(x, chances)
				wantFractionError(t, fmt.Sprintf("ChanceApart(%v, %v)", x, chances), a, b, code, impl.ErrRange)
			}
		}
	}
}

func TestLevelsOf(t *testing.T) {
	for _, x := range sampleTables() {
		list, code := impl.LevelsOf(x)
		wantList(t, fmt.Sprintf("LevelsOf(%v)", x), list, code, levelsWith(x))
	}
	for text, want := range map[string][]int64{
		"1:00": {0, 0}, "1:11": {1, 1}, "1:01": {0, 1}, "1:10": {1, 0},
		"2:0111": {0, 2, 1}, "2:0101": {0, 1, 1}, "2:0011": {0, 1, 1}, "2:0100": {0, 1, 0}, "2:1000": {1, 0, 0}, "2:1111": {1, 2, 1},
		"3:00010111": {0, 0, 3, 1}, "3:01101001": {0, 3, 0, 1}, "3:00001111": {0, 1, 2, 1}, "3:11111111": {1, 3, 3, 1},
		"5:" + strings.Repeat("0", 32): {0, 0, 0, 0, 0, 0}, "5:" + strings.Repeat("1", 32): {1, 5, 10, 10, 5, 1}, "5:" + strings.Repeat("0", 31) + "1": {0, 0, 0, 0, 0, 1}, "5:" + strings.Repeat("01", 16): {0, 1, 4, 6, 4, 1}, "5:" + strings.Repeat("1", 16) + strings.Repeat("0", 16): {1, 4, 6, 4, 1, 0},
	} {
		list, code := impl.LevelsOf(tableOfText(text))
		wantList(t, "LevelsOf of "+text, list, code, want)
	}
}

// decidingWith returns for each input the number of rows in which it decides: the values of the
// rows in which just it is turned round.
func decidingWith(x impl.Table) []int64 {
	values := valuesOf(x)
	counts := make([]int64, x.Inputs)
	for i := range counts {
		for k, value := range values {
			digits := digitsOf(int64(k), x.Inputs)
			digits[i] = 1 - digits[i]
			if values[numberOf(digits)] != value {
				counts[i]++
			}
		}
	}
	return counts
}

func TestDecidingRows(t *testing.T) {
	for _, x := range sampleTables() {
		list, code := impl.DecidingRows(x)
		wantList(t, fmt.Sprintf("DecidingRows(%v)", x), list, code, decidingWith(x))
	}
	for text, want := range map[string][]int64{
		"1:00": {0}, "1:11": {0}, "1:01": {2}, "1:10": {2},
		"2:0101": {4, 0}, "2:0011": {0, 4}, "2:0110": {4, 4}, "2:0111": {2, 2}, "2:0001": {2, 2}, "2:0000": {0, 0}, "2:1111": {0, 0},
		"3:00010111": {4, 4, 4}, "3:01101001": {8, 8, 8}, "3:00000001": {2, 2, 2}, "3:00001111": {0, 0, 8}, "3:00011111": {2, 2, 6},
		"5:" + strings.Repeat("0", 32): {0, 0, 0, 0, 0}, "5:" + strings.Repeat("1", 32): {0, 0, 0, 0, 0}, "5:" + strings.Repeat("01", 16): {32, 0, 0, 0, 0}, "5:" + strings.Repeat("0", 16) + strings.Repeat("1", 16): {0, 0, 0, 0, 32}, "5:01101001100101101001011001101001": {32, 32, 32, 32, 32},
	} {
		list, code := impl.DecidingRows(tableOfText(text))
		wantList(t, "DecidingRows of "+text, list, code, want)
	}
}

// TestNoTablesForChances checks that what is no table is found ahead of all other errors.
func TestNoTablesForChances(t *testing.T) {
	good := impl.Table{Inputs: 2, Values: 14}
	for _, x := range noTables {
		list, code := impl.ChanceOf(x)
		wantListError(t, fmt.Sprintf("ChanceOf(%v)", x), list, code, impl.ErrInvalid)
		list, code = impl.LevelsOf(x)
		wantListError(t, fmt.Sprintf("LevelsOf(%v)", x), list, code, impl.ErrInvalid)
		list, code = impl.DecidingRows(x)
		wantListError(t, fmt.Sprintf("DecidingRows(%v)", x), list, code, impl.ErrInvalid)
		for _, p := range append(noChances(), someChances...) {
			a, b, code := impl.ChanceAt(x, p[0], p[1])
			wantFractionError(t, fmt.Sprintf("ChanceAt(%v, %d, %d)", x, p[0], p[1]), a, b, code, impl.ErrInvalid)
		}
		for n := int64(1); n <= 5; n++ {
			for _, chances := range append(badChances(n)[:12], listsOfChances(n)[:3]...) {
				a, b, code := impl.ChanceApart(x, chances)
				wantFractionError(t, fmt.Sprintf("ChanceApart(%v, %v)", x, chances), a, b, code, impl.ErrInvalid)
			}
		}
		for _, pair := range append([][2]impl.Table{{x, good}, {good, x}}, [2]impl.Table{x, x}) {
			if yes, code := impl.IsNotLess(pair[0], pair[1]); yes || code != impl.ErrInvalid {
				t.Errorf("IsNotLess(%v, %v) = %v, %d, want false, ErrInvalid", pair[0], pair[1], yes, code)
			}
		}
	}
}

// someCoefficients returns a list of so many coefficients from a sequence, each in -limit..limit,
// with 0 and the limits among them.
func someCoefficients(source *rand.Rand, count int, limit int64) []int64 {
	list := make([]int64, count)
	for i := range list {
		switch source.Intn(5) {
		case 0:
			list[i] = 0
		case 1:
			list[i] = limit
		case 2:
			list[i] = -limit
		default:
			list[i] = source.Int63n(2*limit+1) - limit
		}
	}
	return list
}

func TestDerivativeOf(t *testing.T) {
	source := rand.New(rand.NewSource(7))
	for count := 1; count <= 25; count++ {
		for range 20 {
			list := someCoefficients(source, count, 1000000)
			want := []int64{0}
			if count > 1 {
				want = make([]int64, count-1)
			}
			for i := 1; i < count; i++ {
				want[i-1] = list[i] * int64(i)
			}
			got, code := impl.DerivativeOf(list)
			wantList(t, fmt.Sprintf("DerivativeOf(%v)", list), got, code, want)
		}
	}
	for _, c := range []struct{ list, want []int64 }{
		{[]int64{0}, []int64{0}}, {[]int64{5}, []int64{0}}, {[]int64{-1000000}, []int64{0}}, {[]int64{1000000}, []int64{0}},
		{[]int64{5, 7}, []int64{7}}, {[]int64{0, 0}, []int64{0}}, {[]int64{5, 0, 3, -2}, []int64{0, 6, -6}}, {[]int64{0, 0, 0}, []int64{0, 0}}, {[]int64{1, 2, 3, 4, 5, 6, 7}, []int64{2, 6, 12, 20, 30, 42}},
		{append(make([]int64, 24), 1000000), append(make([]int64, 23), 24000000)}, {append(make([]int64, 24), -1000000), append(make([]int64, 23), -24000000)},
	} {
		got, code := impl.DerivativeOf(c.list)
		wantList(t, fmt.Sprintf("DerivativeOf(%v)", c.list), got, code, c.want)
	}
}

// badCoefficients returns lists that have not 1 to so many coefficients in -limit..limit.
func badCoefficients(most int, limit int64) [][]int64 {
	lists := [][]int64{nil, {}, make([]int64, most+1), slices.Repeat([]int64{limit}, most+1), make([]int64, most+2), make([]int64, 1000), slices.Repeat([]int64{limit + 1}, most)}
	for count := 1; count <= most; count++ {
		for _, place := range []int{0, count / 2, count - 1} {
			for _, far := range beyond(limit) {
				list := slices.Repeat([]int64{limit}, count)
				list[place] = far
				lists = append(lists, list)
			}
		}
	}
	return lists
}

func TestDerivativeOfErrors(t *testing.T) {
	for _, list := range badCoefficients(25, 1000000) {
		got, code := impl.DerivativeOf(list)
		wantListError(t, fmt.Sprintf("DerivativeOf(%v)", list), got, code, impl.ErrRange)
	}
}

// someFractions returns fractions of all kinds: negative ones, those at the ends, and 0.
func someFractions() [][]int64 {
	var list [][]int64
	for _, p := range someChances {
		list = append(list, p, []int64{-p[0], p[1]})
	}
	return list
}

func TestValueOf(t *testing.T) {
	source := rand.New(rand.NewSource(8))
	negative, none, whole := 0, 0, 0
	for count := 1; count <= 6; count++ {
		for at := range 40 {
			limit := []int64{1000000, 3, 50}[at%3]
			list := someCoefficients(source, count, limit)
			for _, p := range someFractions() {
				want := rationalAt(list, p[0], p[1])
				a, b, code := impl.ValueOf(list, p[0], p[1])
				wantFraction(t, fmt.Sprintf("ValueOf(%v, %d, %d)", list, p[0], p[1]), a, b, code, want)
				switch {
				case want.Sign() < 0:
					negative++
				case want.Sign() == 0:
					none++
				case want.IsInt():
					whole++
				}
			}
		}
	}
	if negative < 500 || none < 100 || whole < 100 {
		t.Errorf("%d negative results, %d that are 0, %d that are whole", negative, none, whole)
	}
}

func TestValueOfByHand(t *testing.T) {
	million := int64(1000000)
	for _, c := range []struct {
		list       []int64
		a, b, x, y int64
	}{
		{[]int64{1, 2, 4}, -1, 2, 1, 1}, {[]int64{1, 2, 4}, 1, 2, 3, 1}, {[]int64{0}, 3, 7, 0, 1}, {[]int64{5}, 3, 7, 5, 1}, {[]int64{-5}, -3, 7, -5, 1}, {[]int64{0, 0, 0}, 1, 3, 0, 1},
		{[]int64{0, 1}, 6, 8, 3, 4}, {[]int64{0, 1}, -6, 8, -3, 4}, {[]int64{0, -1}, 6, 8, -3, 4}, {[]int64{0, -1}, -6, 8, 3, 4}, {[]int64{0, 1}, 0, 8, 0, 1}, {[]int64{0, 1}, 8, 8, 1, 1}, {[]int64{0, 1}, -8, 8, -1, 1},
		{[]int64{1, 1}, -7, 7, 0, 1}, {[]int64{1, 2}, -1, 2, 0, 1}, {[]int64{-1, 0, 4}, 50, 100, 0, 1}, {[]int64{3, 9, -4}, 0, 100, 3, 1}, {[]int64{-3, 9, -4}, 0, 1, -3, 1},
		{[]int64{1, 1, 1, 1, 1, 1}, -1, 1, 0, 1}, {[]int64{1, 1, 1, 1, 1, 1}, 1, 1, 6, 1}, {[]int64{0, 0, 0, 0, 0, 1}, 1, 100, 1, 10000000000}, {[]int64{0, 0, 0, 0, 0, 1}, -1, 100, -1, 10000000000}, {[]int64{0, 0, 0, 0, 0, -1}, -99, 100, 9509900499, 10000000000},
		{[]int64{million, million, million, million, million, million}, 100, 100, 6 * million, 1}, {[]int64{-million, -million, -million, -million, -million, -million}, 100, 100, -6 * million, 1}, {[]int64{million, -million, million, -million, million, -million}, -100, 100, 6 * million, 1},
		{[]int64{million, million, million, million, million, million}, 99, 100, 58519850599, 10000}, {[]int64{-million, million, -million, million, -million, million}, -99, 100, -58519850599, 10000}, {[]int64{0, 0, 0, 0, 0, -million}, 99, 100, -9509900499, 10000}, {[]int64{0, 0, 0, 0, 0, million}, 97, 99, million * 8587340257, 9509900499},
	} {
		a, b, code := impl.ValueOf(c.list, c.a, c.b)
		if a != c.x || b != c.y || code != impl.ErrNone {
			t.Errorf("ValueOf(%v, %d, %d) = %d, %d, %d, want %d, %d, 0", c.list, c.a, c.b, a, b, code, c.x, c.y)
		}
	}
}

func TestValueOfErrors(t *testing.T) {
	for _, list := range badCoefficients(6, 1000000) {
		for _, p := range [][]int64{{0, 1}, {1, 2}, {-1, 1}, {0, 0}, {5, 2}} {
			a, b, code := impl.ValueOf(list, p[0], p[1])
			wantFractionError(t, fmt.Sprintf("ValueOf(%v, %d, %d)", list, p[0], p[1]), a, b, code, impl.ErrRange)
		}
	}
	noFractions := [][]int64{{0, 0}, {1, 0}, {-1, 0}, {0, 101}, {-101, 101}, {50, 101}, {0, -1}, {1, -1}, {-1, -1}, {1, -2}, {2, 1}, {-2, 1}, {8, 7}, {-8, 7}, {101, 100}, {-101, 100}, {math.MinInt64, math.MinInt64}, {0, math.MinInt64}}
	for _, far := range beyond(100) {
		noFractions = append(noFractions, []int64{far, 1}, []int64{far, 100}, []int64{0, far}, []int64{1, far}, []int64{far, far}, []int64{-far, far})
	}
	for _, list := range [][]int64{{0}, {5}, {1, 2, 4}, {0, 0, 0, 0, 0, 1000000}} {
		for _, p := range noFractions {
			a, b, code := impl.ValueOf(list, p[0], p[1])
			wantFractionError(t, fmt.Sprintf("ValueOf(%v, %d, %d)", list, p[0], p[1]), a, b, code, impl.ErrRange)
		}
	}
}

// networkChanceWith returns the coefficients of the chance of a network. Its first contact is either
// closed, and its points are one, or open, and it is not there.
func networkChanceWith(contacts [][]int64) []int64 {
	if len(contacts) == 0 {
		return []int64{0}
	}
	p, q := contacts[0][0], contacts[0][1]
	open := networkChanceWith(contacts[1:])
	closed := append([]int64{1}, make([]int64, len(contacts)-1)...)
	if p != 0 || q != 1 {
		var joined [][]int64
		for _, c := range contacts[1:] {
			joined = append(joined, []int64{onePoint(c[0], p, q), onePoint(c[1], p, q)})
			slices.Sort(joined[len(joined)-1])
		}
		closed = networkChanceWith(joined)
	}
	list := append(slices.Clone(open), 0)
	for i := range open {
		list[i+1] += closed[i] - open[i]
	}
	return list
}

// onePoint returns the point that r becomes if p and q become one, which is the lesser one.
func onePoint(r int64, p int64, q int64) int64 {
	if r == q {
		return p
	}
	return r
}

func TestNetworkChance(t *testing.T) {
	joined := 0
	for _, x := range sampleNetworks() {
		list, code := impl.NetworkChance(x)
		want := networkChanceWith(x.Contacts)
		wantList(t, fmt.Sprintf("NetworkChance(%v)", x), list, code, want)
		if int64(len(list)) != int64(len(x.Contacts))+1 {
			t.Errorf("NetworkChance(%v) has %d coefficients", x, len(list))
		}
		if slices.Max(want) > 0 {
			joined++
		}
	}
	if joined < 100 {
		t.Errorf("just %d networks that can be closed", joined)
	}
	for _, x := range noNetworks {
		list, code := impl.NetworkChance(x)
		wantListError(t, fmt.Sprintf("NetworkChance(%v)", x), list, code, impl.ErrInvalid)
	}
}

func TestNetworkChanceByHand(t *testing.T) {
	for _, c := range []struct {
		x    impl.Network
		want []int64
	}{
		{net(2), []int64{0}}, {net(8), []int64{0}}, {net(2, "01a"), []int64{0, 1}}, {net(2, "01E"), []int64{0, 1}},
		// Each contact has its own chance, of whatever input it is, and of whatever kind.
		{net(2, "01a", "01a"), []int64{0, 2, -1}}, {net(2, "01a", "01A"), []int64{0, 2, -1}}, {net(2, "01a", "01b"), []int64{0, 2, -1}}, {net(3, "02a", "12a"), []int64{0, 0, 1}}, {net(3, "02a", "12A"), []int64{0, 0, 1}},
		// Contacts that are no part of a path count as contacts, but change nothing.
		{net(3, "02a"), []int64{0, 0}}, {net(3, "01a", "02a"), []int64{0, 1, 0}}, {net(4, "02a", "13b"), []int64{0, 0, 0}}, {net(4, "01a", "23b"), []int64{0, 1, 0}}, {net(4, "02a", "12b", "23c", "23c"), []int64{0, 0, 1, 0, 0}},
		{net(4, "02a", "03b", "12c", "13d", "23e"), []int64{0, 0, 2, 2, -5, 2}}, {net(4, "02a", "03b", "12c", "13d"), []int64{0, 0, 2, 0, -1}}, {net(3, "01a", "02b", "12c"), []int64{0, 1, 1, -1}},
		{impl.Network{Points: 2, Contacts: slices.Repeat([][]int64{{0, 1, 0, 0}}, 12)}, []int64{0, 12, -66, 220, -495, 792, -924, 792, -495, 220, -66, 12, -1}},
		{impl.Network{Points: 3, Contacts: slices.Repeat([][]int64{{0, 2, 0, 0}}, 12)}, make([]int64, 13)},
		{net(8, "02a", "17b", "23b", "34c", "45d", "56e", "67A"), []int64{0, 0, 0, 0, 0, 0, 0, 1}},
		{net(8, "02a", "03a", "04a", "05a", "06a", "07a", "12b", "13b", "14b", "15b", "16b", "17b"), []int64{0, 0, 6, 0, -15, 0, 20, 0, -15, 0, 6, 0, -1}},
	} {
		list, code := impl.NetworkChance(c.x)
		wantList(t, fmt.Sprintf("NetworkChance(%v)", c.x), list, code, c.want)
	}
}

// TestNetworkChanceOfTables looks at networks in which each contact is of an input of its own: they
// have the chance of the table between their ends.
func TestNetworkChanceOfTables(t *testing.T) {
	looked := 0
	for _, x := range sampleNetworks() {
		n := int64(len(x.Contacts))
		if n < 1 || n > 5 {
			continue
		}
		own := impl.Network{Points: x.Points, Contacts: copyOfLists(x.Contacts)}
		for i := range own.Contacts {
			own.Contacts[i][2], own.Contacts[i][3] = int64(i), 0
		}
		table, code := impl.TableBetween(own, n, 0, 1)
		if code != impl.ErrNone {
			t.Fatalf("TableBetween(%v, %d, 0, 1): code %d", own, n, code)
		}
		want, _ := impl.ChanceOf(table)
		list, code := impl.NetworkChance(x)
		wantList(t, fmt.Sprintf("NetworkChance(%v)", x), list, code, want)
		looked++
	}
	if looked < 80 {
		t.Errorf("just %d networks", looked)
	}
}

// ladderChanceWith returns the coefficients of the chance of a ladder: of 1 - (1 - q)^b with the
// numbers of Pascal's triangle, at the powers of q = p^a.
func ladderChanceWith(a int64, b int64) []int64 {
	list := make([]int64, a*b+1)
	for k := int64(1); k <= b; k++ {
		list[a*k] = new(big.Int).Binomial(b, k).Int64()
		if k%2 == 0 {
			list[a*k] *= -1
		}
	}
	return list
}

func TestLadderChance(t *testing.T) {
	atLimit := 0
	for a := int64(1); a <= 24; a++ {
		for b := int64(1); b <= 24; b++ {
			call := fmt.Sprintf("LadderChance(%d, %d)", a, b)
			list, code := impl.LadderChance(a, b)
			if a*b > 24 {
				wantListError(t, call, list, code, impl.ErrRange)
				continue
			}
			wantList(t, call, list, code, ladderChanceWith(a, b))
			if a*b == 24 {
				atLimit++
			}
		}
	}
	if atLimit != 8 {
		t.Errorf("%d ladders at the limit", atLimit)
	}
	for _, c := range []struct {
		a, b int64
		want []int64
	}{
		{1, 1, []int64{0, 1}}, {2, 1, []int64{0, 0, 1}}, {1, 2, []int64{0, 2, -1}}, {2, 2, []int64{0, 0, 2, 0, -1}}, {3, 1, []int64{0, 0, 0, 1}}, {1, 3, []int64{0, 3, -3, 1}}, {2, 3, []int64{0, 0, 3, 0, -3, 0, 1}}, {3, 2, []int64{0, 0, 0, 2, 0, 0, -1}},
		{24, 1, append(make([]int64, 24), 1)}, {12, 2, append(append(make([]int64, 12), 2), append(make([]int64, 11), -1)...)},
	} {
		list, code := impl.LadderChance(c.a, c.b)
		wantList(t, fmt.Sprintf("LadderChance(%d, %d)", c.a, c.b), list, code, c.want)
	}
}

// noSizes are numbers that are no size of a ladder.
var noSizes = append([]int64{0, -1, -2, -5, -12, -24, 25, 48, 64, 1 << 31, 1 << 32, 1<<32 + 1, 1 << 33, 1 << 61, 1 << 63 / 3}, beyond(24)...)

func TestLadderErrors(t *testing.T) {
	for _, bad := range noSizes {
		for _, other := range append([]int64{1, 2, 12, 24}, noSizes...) {
			for _, pair := range [][2]int64{{bad, other}, {other, bad}} {
				list, code := impl.LadderChance(pair[0], pair[1])
				wantListError(t, fmt.Sprintf("LadderChance(%d, %d)", pair[0], pair[1]), list, code, impl.ErrRange)
				x, code := impl.LadderNetwork(pair[0], pair[1])
				wantNetworkError(t, fmt.Sprintf("LadderNetwork(%d, %d)", pair[0], pair[1]), x, code, impl.ErrRange)
			}
		}
	}
	// What is beyond MaxContacts is no size of a network, though it is one of a chance.
	for far := int64(13); far <= 24; far++ {
		for other := int64(1); other <= 24; other++ {
			for _, pair := range [][2]int64{{far, other}, {other, far}} {
				x, code := impl.LadderNetwork(pair[0], pair[1])
				wantNetworkError(t, fmt.Sprintf("LadderNetwork(%d, %d)", pair[0], pair[1]), x, code, impl.ErrRange)
			}
		}
	}
}

// ladderNetworkWith returns a ladder as a network, however great it is: the points of all lines,
// and the contacts between each of them and the next one.
func ladderNetworkWith(a int64, b int64) impl.Network {
	var contacts [][]int64
	points := int64(2)
	for range b {
		line := []int64{0}
		for range a - 1 {
			line = append(line, points)
			points++
		}
		line = append(line, 1)
		for i, q := range line[1:] {
			contacts = append(contacts, []int64{min(line[i], q), max(line[i], q), 0, 0})
		}
	}
	return sortedNetwork(points, contacts)
}

func TestLadderNetwork(t *testing.T) {
	built, tooManyPoints, tooManyContacts := 0, 0, 0
	for a := int64(1); a <= 12; a++ {
		for b := int64(1); b <= 12; b++ {
			call := fmt.Sprintf("LadderNetwork(%d, %d)", a, b)
			x, code := impl.LadderNetwork(a, b)
			want := ladderNetworkWith(a, b)
			switch {
			case want.Points > 8 && len(want.Contacts) <= 12:
				tooManyPoints++
				wantNetworkError(t, call, x, code, impl.ErrLimit)
			case want.Points > 8 || len(want.Contacts) > 12:
				tooManyContacts++
				wantNetworkError(t, call, x, code, impl.ErrLimit)
			default:
				built++
				wantNetwork(t, call, x, code, want)
			}
		}
	}
	if built != 26 || tooManyPoints < 5 || tooManyContacts < 5 {
		t.Errorf("%d ladders within the limits, %d with too many points, %d with too many contacts", built, tooManyPoints, tooManyContacts)
	}
}

func TestLadderNetworkByHand(t *testing.T) {
	for pair, want := range map[[2]int64]string{
		{1, 1}: "2:01a", {1, 2}: "2:01a,01a", {1, 12}: "2:01a,01a,01a,01a,01a,01a,01a,01a,01a,01a,01a,01a",
		{2, 1}: "3:02a,12a", {3, 1}: "4:02a,13a,23a", {4, 1}: "5:02a,14a,23a,34a", {7, 1}: "8:02a,17a,23a,34a,45a,56a,67a",
		{2, 2}: "4:02a,03a,12a,13a", {3, 2}: "6:02a,04a,13a,15a,23a,45a", {4, 2}: "8:02a,05a,14a,17a,23a,34a,56a,67a", {3, 3}: "8:02a,04a,06a,13a,15a,17a,23a,45a,67a",
		{2, 6}: "8:02a,03a,04a,05a,06a,07a,12a,13a,14a,15a,16a,17a",
	} {
		x, code := impl.LadderNetwork(pair[0], pair[1])
		if wordsOfNetwork(x) != want || code != impl.ErrNone {
			t.Errorf("LadderNetwork(%d, %d) = %s, %d, want %s, 0", pair[0], pair[1], wordsOfNetwork(x), code, want)
		}
	}
	for _, pair := range [][2]int64{{8, 1}, {12, 1}, {5, 2}, {3, 4}, {4, 3}, {2, 7}, {6, 2}, {12, 12}, {2, 12}, {12, 2}} {
		x, code := impl.LadderNetwork(pair[0], pair[1])
		wantNetworkError(t, fmt.Sprintf("LadderNetwork(%d, %d)", pair[0], pair[1]), x, code, impl.ErrLimit)
	}
}

// putWith returns the coefficients of the polynomial that comes if another one is put into one, and
// ErrNone, or ErrLimit. It begins with the last coefficient.
func putWith(list []int64, other []int64) ([]int64, int64) {
	sum := wholeList(list[len(list)-1:])
	for i := len(list) - 2; i >= 0; i-- {
		sum = timesWith(sum, wholeList(other))
		sum[0].Add(sum[0], big.NewInt(list[i]))
	}
	var put []int64
	for _, c := range sum {
		if new(big.Int).Abs(c).Cmp(big.NewInt(1000000000000)) > 0 {
			return nil, impl.ErrLimit
		}
		put = append(put, c.Int64())
	}
	return put, impl.ErrNone
}

// wantPut fails unless PutInto returns what is told.
func wantPut(t *testing.T, list []int64, other []int64, want []int64, wanted int64) {
	t.Helper()
	got, code := impl.PutInto(list, other)
	call := fmt.Sprintf("PutInto(%v, %v)", list, other)
	if wanted != impl.ErrNone {
		wantListError(t, call, got, code, wanted)
		return
	}
	wantList(t, call, got, code, want)
	if len(got) != (len(list)-1)*(len(other)-1)+1 {
		t.Errorf("%s has %d coefficients", call, len(got))
	}
}

func TestPutInto(t *testing.T) {
	source := rand.New(rand.NewSource(9))
	done, tooGreat := 0, 0
	for n := 1; n <= 6; n++ {
		for m := 1; m <= 6; m++ {
			for at := range 60 {
				list := someCoefficients(source, n, []int64{100, 3, 20}[at%3])
				other := someCoefficients(source, m, []int64{100, 3, 20}[at/3%3])
				want, wanted := putWith(list, other)
				wantPut(t, list, other, want, wanted)
				if wanted == impl.ErrNone {
					done++
				} else {
					tooGreat++
				}
			}
		}
	}
	if done < 1000 || tooGreat < 30 {
		t.Errorf("%d results, %d beyond the limit", done, tooGreat)
	}
}

func TestPutIntoByHand(t *testing.T) {
	for _, c := range []struct{ list, other, want []int64 }{
		{[]int64{0, 2, -1}, []int64{0, 0, 1}, []int64{0, 0, 2, 0, -1}},
		{[]int64{7}, []int64{1, 1}, []int64{7}}, {[]int64{0}, []int64{0}, []int64{0}}, {[]int64{-100}, []int64{100, 100, 100, 100, 100, 100}, []int64{-100}},
		{[]int64{1, 2, 3}, []int64{5}, []int64{86}}, {[]int64{1, 2, 3}, []int64{-5}, []int64{66}}, {[]int64{1, 2, 3}, []int64{0}, []int64{1}}, {[]int64{3, 4}, []int64{1, 2}, []int64{7, 8}},
		{[]int64{0, 1}, []int64{4, 5, 6}, []int64{4, 5, 6}}, {[]int64{4, 5, 6}, []int64{0, 1}, []int64{4, 5, 6}}, {[]int64{0, 0, 1}, []int64{1, 1}, []int64{1, 2, 1}}, {[]int64{0, 0, 1}, []int64{1, -1}, []int64{1, -2, 1}}, {[]int64{1, 0, -1}, []int64{1, -1}, []int64{0, 2, -1}},
		// The last coefficients can be 0, and count nevertheless.
		{[]int64{1, 0}, []int64{1, 0}, []int64{1, 0}}, {[]int64{1, 1, 0}, []int64{2, 3, 0}, []int64{3, 3, 0, 0, 0}}, {[]int64{0, 0}, []int64{0, 0, 0}, []int64{0, 0, 0}},
		{[]int64{0, 0, 0, 0, 0, 1}, []int64{0, 0, 0, 0, 0, 1}, append(make([]int64, 25), 1)}, {[]int64{0, 0, 0, 0, 0, 1}, []int64{1, 1}, []int64{1, 5, 10, 10, 5, 1}},
		// Just at the limit, of both signs, at both ends.
		{[]int64{0, 0, 0, 0, 0, 100}, []int64{100}, []int64{1000000000000}}, {[]int64{0, 0, 0, 0, 0, -100}, []int64{100}, []int64{-1000000000000}}, {[]int64{0, 0, 0, 0, 0, 100}, []int64{-100}, []int64{-1000000000000}},
		{[]int64{0, 0, 0, 0, 0, 100}, []int64{0, 0, 0, 0, 0, 100}, append(make([]int64, 25), 1000000000000)}, {[]int64{0, 0, 0, 0, 0, 100}, []int64{0, 0, 0, 0, 0, -100}, append(make([]int64, 25), -1000000000000)}, {[]int64{100, 0, 0, 0, 0, 100}, []int64{0, 100}, []int64{100, 0, 0, 0, 0, 1000000000000}},
		{[]int64{0, 0, 0, 0, 0, 100}, []int64{100, 1}, []int64{1000000000000, 50000000000, 1000000000, 10000000, 50000, 100}}, {[]int64{0, 1, 0, 0, 0, 100}, []int64{1, 100}, []int64{101, 50100, 10000000, 1000000000, 50000000000, 1000000000000}},
		{[]int64{-1, 0, 0, 0, 0, 100}, []int64{100}, []int64{999999999999}}, {[]int64{1, 0, 0, 0, 0, -100}, []int64{100}, []int64{-999999999999}},
		// What is beyond the limit is not, together with what is less than 0.
		{[]int64{0, 0, 0, 0, -100, 100}, []int64{100}, []int64{990000000000}}, {[]int64{0, 100, 0, 0, -1, -100}, []int64{-100}, []int64{999899990000}},
	} {
		wantPut(t, c.list, c.other, c.want, impl.ErrNone)
	}
	for _, c := range [][2][]int64{
		{{1, 0, 0, 0, 0, 100}, {100}}, {{-1, 0, 0, 0, 0, -100}, {100}}, {{-1, 0, 0, 0, 0, 100}, {-100}}, {{100, 100, 100, 100, 100, 100}, {100}}, {{0, 1, 0, 0, 0, 100}, {100}},
		{{1, 0, 0, 0, 0, 100}, {100, 1}}, {{0, 0, 0, 0, 1, -100}, {-100, 1}}, {{0, 0, 0, 0, 0, 21}, {99, 99}}, {{0, 0, 0, 0, 0, 100}, {0, 0, 0, 0, 50, 100}}, {{0, 0, 0, 0, 0, 100}, {0, 0, 0, 0, -50, 100}},
		{{0, 0, 0, 0, 0, 100}, {100, 100, 100, 100, 100, 100}}, {{0, 0, 0, 0, 0, -100}, {100, 100, 100, 100, 100, 100}}, {{100, 100, 100, 100, 100, 100}, {100, 100, 100, 100, 100, 100}}, {{-100, 100, -100, 100, -100, 100}, {-100, -100, -100, -100, -100, -100}},
	} {
		if want, wanted := putWith(c[0], c[1]); wanted != impl.ErrLimit {
			t.Errorf("%v and %v come to %v, which is not beyond the limit", c[0], c[1], want)
		}
		wantPut(t, c[0], c[1], nil, impl.ErrLimit)
	}
}

func TestPutIntoErrors(t *testing.T) {
	for _, bad := range badCoefficients(6, 100) {
		for _, other := range [][]int64{{0}, {1, 2}, {100, 100, 100, 100, 100, 100}, nil, bad} {
			wantPut(t, bad, other, nil, impl.ErrRange)
			wantPut(t, other, bad, nil, impl.ErrRange)
		}
	}
}

func TestIsNotLess(t *testing.T) {
	samples := sampleTables()
	yes, no := 0, 0
	for i, x := range samples {
		for j := i % 7; j < len(samples); j += 7 {
			y := samples[j]
			got, code := impl.IsNotLess(x, y)
			if x.Inputs != y.Inputs {
				if got || code != impl.ErrRange {
					t.Errorf("IsNotLess(%v, %v) = %v, %d, want false, ErrRange", x, y, got, code)
				}
				continue
			}
			want := true
			others := levelsWith(y)
			for k, level := range levelsWith(x) {
				want = want && level >= others[k]
			}
			if got != want || code != impl.ErrNone {
				t.Errorf("IsNotLess(%v, %v) = %v, %d, want %v, 0", x, y, got, code, want)
			}
			if want {
				yes++
			} else {
				no++
			}
		}
	}
	if yes < 500 || no < 500 {
		t.Errorf("%d that are not less, %d that are", yes, no)
	}
}

func TestIsNotLessByHand(t *testing.T) {
	for _, c := range []struct {
		one, other string
		want       bool
	}{
		{"2:0111", "2:0001", true}, {"2:0001", "2:0111", false}, {"2:0101", "2:0011", true}, {"2:0011", "2:0101", true}, {"2:0100", "2:0010", true}, {"2:0110", "2:0001", false}, {"2:0001", "2:0110", false},
		{"1:00", "1:00", true}, {"1:11", "1:00", true}, {"1:11", "1:11", true}, {"1:00", "1:11", false}, {"1:01", "1:10", false}, {"1:10", "1:01", false}, {"1:11", "1:10", true},
		// All levels but one are greater, the first one, the last one, or one between them.
		{"3:01111111", "3:10000000", false}, {"3:11111110", "3:00000001", false}, {"3:11111111", "3:01101000", true}, {"3:11011111", "3:01101000", false}, {"3:11110111", "3:00010110", true}, {"3:11101111", "3:00010110", false}, {"3:11100111", "3:00010110", false},
		{"5:" + strings.Repeat("1", 32), "5:" + strings.Repeat("1", 32), true}, {"5:" + strings.Repeat("1", 31) + "0", "5:" + strings.Repeat("0", 31) + "1", false}, {"5:" + strings.Repeat("0", 32), "5:" + strings.Repeat("0", 32), true},
	} {
		if got, code := impl.IsNotLess(tableOfText(c.one), tableOfText(c.other)); got != c.want || code != impl.ErrNone {
			t.Errorf("IsNotLess of %s and %s = %v, %d, want %v, 0", c.one, c.other, got, code, c.want)
		}
	}
}

// TestNotLessChances checks what the document says of tables that are not less: at no chance is
// theirs less.
func TestNotLessChances(t *testing.T) {
	samples := sampleTables()
	for i, x := range samples {
		for j := i % 11; j < len(samples); j += 11 {
			if yes, _ := impl.IsNotLess(x, samples[j]); !yes {
				continue
			}
			for _, p := range someChances {
				a, b, _ := impl.ChanceAt(x, p[0], p[1])
				c, d, _ := impl.ChanceAt(samples[j], p[0], p[1])
				if big.NewRat(a, b).Cmp(big.NewRat(c, d)) < 0 {
					t.Errorf("at %v the chance of %v is less than that of %v", p, x, samples[j])
				}
			}
		}
	}
}

// TestChanceArgumentsStay checks that no function writes on an argument, or behind its lists.
func TestChanceArgumentsStay(t *testing.T) {
	source := rand.New(rand.NewSource(10))
	for count := 0; count <= 26; count++ {
		for _, limit := range []int64{100, 1000000, 2000000} {
			list, unchanged := withSpare(someCoefficients(source, count, limit))
			other, stayed := withSpare(someCoefficients(source, 1+count%6, 100))
			impl.DerivativeOf(list)
			impl.ValueOf(list, -1, 3)
			impl.PutInto(list, other)
			impl.PutInto(other, list)
			impl.PutInto(other, other)
			if !unchanged() || !stayed() {
				t.Errorf("%v or %v is changed, or what is behind them", list, other)
			}
		}
	}
	for n := int64(1); n <= 5; n++ {
		for _, chances := range append(listsOfChances(n), badChances(n)...) {
			given, unchanged := spareLists(chances)
			impl.ChanceApart(impl.Table{Inputs: n, Values: 2}, given)
			if !unchanged() {
				t.Errorf("%v is changed, or what is behind its lists", chances)
			}
		}
	}
	for _, x := range append(sampleNetworks(), noNetworks...) {
		contacts, unchanged := spareLists(x.Contacts)
		impl.NetworkChance(impl.Network{Points: x.Points, Contacts: contacts})
		if !unchanged() {
			t.Errorf("%v is changed, or what is behind its lists", x)
		}
	}
}

// TestChanceResultsAreNew writes on results, and looks at what else is there, and asks again.
func TestChanceResultsAreNew(t *testing.T) {
	x := tableOfText("3:00010111")
	calls := map[string]func(list []int64) [][]int64{
		"ChanceOf":               func(list []int64) [][]int64 { got, _ := impl.ChanceOf(x); return [][]int64{got} },
		"LevelsOf":               func(list []int64) [][]int64 { got, _ := impl.LevelsOf(x); return [][]int64{got} },
		"DecidingRows":           func(list []int64) [][]int64 { got, _ := impl.DecidingRows(x); return [][]int64{got} },
		"DerivativeOf":           func(list []int64) [][]int64 { got, _ := impl.DerivativeOf(list); return [][]int64{got} },
		"NetworkChance":          func(list []int64) [][]int64 { got, _ := impl.NetworkChance(bridge()); return [][]int64{got} },
		"LadderChance":           func(list []int64) [][]int64 { got, _ := impl.LadderChance(2, 3); return [][]int64{got} },
		"LadderNetwork":          func(list []int64) [][]int64 { got, _ := impl.LadderNetwork(2, 3); return got.Contacts },
		"LadderNetwork of lines": func(list []int64) [][]int64 { got, _ := impl.LadderNetwork(1, 4); return got.Contacts },
		"PutInto p":              func(list []int64) [][]int64 { got, _ := impl.PutInto(list, []int64{0, 1}); return [][]int64{got} },
		"p PutInto":              func(list []int64) [][]int64 { got, _ := impl.PutInto([]int64{0, 1}, list); return [][]int64{got} },
		"PutInto itself":         func(list []int64) [][]int64 { got, _ := impl.PutInto(list, list); return [][]int64{got} },
	}
	for name, run := range calls {
		for _, list := range [][]int64{{0}, {5}, {0, 1}, {0, 1, 0}, {1, 2, -3, 4, 0, 1}} {
			given, unchanged := withSpare(list)
			first := run(given)
			want := copyOfLists(first)
			wantApart(t, fmt.Sprintf("%s of %v", name, list), first)
			for i := range first {
				scribble(first[i])
				first[i] = nil
			}
			if !unchanged() {
				t.Errorf("%s of %v shares memory with its argument", name, list)
			}
			if again := run(given); !sameLists(again, want) {
				t.Errorf("%s of %v once more: %v, want %v", name, list, again, want)
			}
		}
	}
}

// TestChancesLeaveNothingRunning checks that what sends the levels has ended soon after the call.
func TestChancesLeaveNothingRunning(t *testing.T) {
	before := runtime.NumGoroutine()
	for range 200 {
		impl.LevelsOf(impl.Table{Inputs: 5, Values: 1 << 31})
		impl.NetworkChance(bridge())
		impl.IsNotLess(impl.Table{Inputs: 2, Values: 1}, impl.Table{Inputs: 2, Values: 2})
		impl.IsNotLess(impl.Table{Inputs: 2, Values: 0}, impl.Table{Inputs: 2, Values: 15})
	}
	for tries := 0; runtime.NumGoroutine() > before; tries++ {
		if tries == 500 {
			t.Fatalf("%d goroutines, %d before", runtime.NumGoroutine(), before)
		}
		time.Sleep(10 * time.Millisecond)
	}
}

// TestPromise5 checks the fifth promise by the functions of the chapters alone.
func TestPromise5(t *testing.T) {
	for _, x := range sampleTables() {
		levels, a := impl.LevelsOf(x)
		list, b := impl.ChanceOf(x)
		if a != impl.ErrNone || b != impl.ErrNone {
			t.Fatalf("the levels and the chance of %v: codes %d, %d", x, a, b)
		}
		for _, p := range someChances {
			at, rest := big.NewRat(p[0], p[1]), big.NewRat(p[1]-p[0], p[1])
			sum := new(big.Rat)
			for k, level := range levels {
				term := big.NewRat(level, 1)
				for i := range x.Inputs {
					if i < int64(k) {
						term.Mul(term, at)
					} else {
						term.Mul(term, rest)
					}
				}
				sum.Add(sum, term)
			}
			over, under, code := impl.ChanceAt(x, p[0], p[1])
			wantFraction(t, fmt.Sprintf("ChanceAt(%v, %d, %d)", x, p[0], p[1]), over, under, code, sum)
			over, under, code = impl.ValueOf(list, p[0], p[1])
			wantFraction(t, fmt.Sprintf("ValueOf the chance of %v, %d and %d", x, p[0], p[1]), over, under, code, sum)
			over, under, code = impl.ChanceApart(x, slices.Repeat([][]int64{p}, int(x.Inputs)))
			wantFraction(t, fmt.Sprintf("ChanceApart of %v and %v for all inputs", x, p), over, under, code, sum)
		}
	}
}

// TestPromise16 checks the sixteenth promise by the functions of the chapters alone.
func TestPromise16(t *testing.T) {
	built := 0
	for a := int64(1); a <= 12; a++ {
		for b := int64(1); b <= 12; b++ {
			x, code := impl.LadderNetwork(a, b)
			if code != impl.ErrNone {
				continue
			}
			built++
			if !impl.IsNetwork(x) {
				t.Errorf("LadderNetwork(%d, %d) = %v, which is no network", a, b, x)
			}
			want, code := impl.LadderChance(a, b)
			if code != impl.ErrNone {
				t.Errorf("LadderChance(%d, %d): code %d", a, b, code)
			}
			list, code := impl.NetworkChance(x)
			wantList(t, fmt.Sprintf("the chance of the ladder of %d and %d", a, b), list, code, want)
		}
	}
	if built != 26 {
		t.Errorf("%d ladders within the limits, want 26", built)
	}
}

// TestChancesAtTheEnds checks that chances are 0 and 1 at the ends for tables that are.
func TestChancesAtTheEnds(t *testing.T) {
	for _, x := range sampleTables() {
		last := int64(1)<<x.Inputs - 1
		for _, b := range []int64{1, 6, 100} {
			for a, row := range map[int64]int64{0: 0, b: last} {
				value, _ := impl.ValueInRow(x, row)
				over, under, code := impl.ChanceAt(x, a, b)
				wantFraction(t, fmt.Sprintf("ChanceAt(%v, %d, %d)", x, a, b), over, under, code, big.NewRat(value, 1))
			}
		}
	}
}

// TestDerivativesTellOfDecidingRows checks that at 1 / 2, where all rows have the same chance, the
// derivative of the chance of a rising table is that of the rows in which inputs decide.
func TestDerivativesTellOfDecidingRows(t *testing.T) {
	rising := 0
	for _, x := range sampleTables() {
		if yes, _ := impl.IsMonotone(x); !yes {
			continue
		}
		rising++
		list, _ := impl.ChanceOf(x)
		derivative, _ := impl.DerivativeOf(list)
		rows, _ := impl.DecidingRows(x)
		a, b, code := impl.ValueOf(derivative, 1, 2)
		wantFraction(t, fmt.Sprintf("the derivative of the chance of %v at 1 / 2", x), a, b, code, big.NewRat(onesIn(rows), 1<<x.Inputs))
	}
	if rising < 20 {
		t.Errorf("just %d rising tables", rising)
	}
}
