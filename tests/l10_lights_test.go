package tests

import (
	"fmt"
	"math"
	"math/rand"
	"regexp"
	"slices"
	"strings"
	"testing"

	"loop.example/g01392/impl"
)

// wired returns the wiring of switches, told by their signs, and of wires, told by words such as 0-2,
// in the order in which they are told.
func wired(signs string, words string) impl.Wiring {
	x := impl.Wiring{Terminals: 2}
	for _, sign := range signs {
		x.Switches = append(x.Switches, int64(sign-'0'))
		x.Terminals += int64(sign - '0')
	}
	for _, word := range strings.Fields(words) {
		x.Wires = append(x.Wires, pairOfWord(word))
	}
	return x
}

// pairOfWord returns both numbers of a word such as 0-2.
func pairOfWord(word string) []int64 {
	var a, b int64
	fmt.Sscanf(word, "%d-%d", &a, &b)
	return []int64{a, b}
}

// signsOfSwitches returns the signs that tell the switches of a wiring.
func signsOfSwitches(x impl.Wiring) string {
	return strings.Trim(strings.ReplaceAll(fmt.Sprint(x.Switches), " ", ""), "[]")
}

// textOfWiring returns the text of a wiring.
func textOfWiring(x impl.Wiring) string {
	var words []string
	for _, wire := range x.Wires {
		words = append(words, fmt.Sprintf("%d-%d", wire[0], wire[1]))
	}
	return signsOfSwitches(x) + ":" + strings.Join(words, ",")
}

// sortedWiring returns the wiring of switches and of wires that are put in order.
func sortedWiring(signs string, wires [][]int64) impl.Wiring {
	x := wired(signs, "")
	for _, wire := range wires {
		x.Wires = append(x.Wires, []int64{min(wire[0], wire[1]), max(wire[0], wire[1])})
	}
	slices.SortFunc(x.Wires, slices.Compare)
	return x
}

// copyOfWiring returns the same wiring with new memory.
func copyOfWiring(x impl.Wiring) impl.Wiring {
	return impl.Wiring{Terminals: x.Terminals, Switches: slices.Clone(x.Switches), Wires: copyOfLists(x.Wires)}
}

// withoutWire returns a wiring without one of its wires.
func withoutWire(x impl.Wiring, i int) impl.Wiring {
	y := copyOfWiring(x)
	y.Wires = slices.Delete(y.Wires, i, i+1)
	return y
}

// withMoreWires returns a wiring with more wires, told by words.
func withMoreWires(x impl.Wiring, words string) impl.Wiring {
	return sortedWiring(signsOfSwitches(x), slices.Concat(x.Wires, wired("", words).Wires))
}

// spareWiring returns the same wiring with spare capacity behind all of its lists, and a function that
// reports whether all of it is as it was.
func spareWiring(x impl.Wiring) (impl.Wiring, func() bool) {
	switches, unchanged := withSpare(x.Switches)
	wires, stayed := spareLists(x.Wires)
	return impl.Wiring{Terminals: x.Terminals, Switches: switches, Wires: wires}, func() bool { return unchanged() && stayed() }
}

// sameWiring reports whether two wirings are equal.
func sameWiring(x impl.Wiring, y impl.Wiring) bool {
	return x.Terminals == y.Terminals && slices.Equal(x.Switches, y.Switches) && sameLists(x.Wires, y.Wires)
}

// wantWiring fails unless a wiring and a code are as wanted.
func wantWiring(t *testing.T, call string, got impl.Wiring, code int64, want impl.Wiring) {
	t.Helper()
	if !sameWiring(got, want) || code != impl.ErrNone {
		t.Errorf("%s = %v, %d, want %v, 0", call, got, code, want)
	}
}

// wantWiringError fails unless the code is as wanted and the wiring beside it the zero value.
func wantWiringError(t *testing.T, call string, got impl.Wiring, code int64, want int64) {
	t.Helper()
	if !sameWiring(got, impl.Wiring{}) || code != want {
		t.Errorf("%s = %v, %d, want the zero value, %d", call, got, code, want)
	}
}

// wantNumberError fails unless the code is as wanted and the number beside it 0.
func wantNumberError(t *testing.T, call string, got int64, code int64, want int64) {
	t.Helper()
	if got != 0 || code != want {
		t.Errorf("%s = %d, %d, want 0, %d", call, got, code, want)
	}
}

// pairsOfSwitch has, for each kind of switch and each position, the places of the terminals that it
// joins among its own.
var pairsOfSwitch = map[int64][2][][]int64{
	3: {{{0, 1}}, {{0, 2}}},
	4: {{{0, 2}, {1, 3}}, {{0, 3}, {1, 2}}},
}

// joinsOf returns the terminals that the switch i joins in a position, in twos.
func joinsOf(x impl.Wiring, i int, position int64) [][]int64 {
	first := int64(2)
	for _, kind := range x.Switches[:i] {
		first += kind
	}
	var joins [][]int64
	for _, pair := range pairsOfSwitch[x.Switches[i]][position] {
		joins = append(joins, []int64{first + pair[0], first + pair[1]})
	}
	return joins
}

// labelsBy returns a label for each of some terminals, the same one for those that pairs join: all
// labels of the one side of a pair become that of the other side.
func labelsBy(terminals int64, pairs [][]int64) []int64 {
	labels := make([]int64, terminals)
	for i := range labels {
		labels[i] = int64(i)
	}
	for _, pair := range pairs {
		from, to := labels[pair[1]], labels[pair[0]]
		for i, label := range labels {
			if label == from {
				labels[i] = to
			}
		}
	}
	return labels
}

// liveWith returns the terminals that are live, ascending.
func liveWith(x impl.Wiring, positions int64) []int64 {
	pairs := slices.Clone(x.Wires)
	for i, position := range digitsOf(positions, int64(len(x.Switches))) {
		pairs = append(pairs, joinsOf(x, i, position)...)
	}
	labels := labelsBy(x.Terminals, pairs)
	var live []int64
	for terminal, label := range labels {
		if label == labels[0] {
			live = append(live, int64(terminal))
		}
	}
	return live
}

// litWith returns 1 if the lamp is lit, and 0 otherwise.
func litWith(x impl.Wiring, positions int64) int64 {
	if slices.Contains(liveWith(x, positions), 1) {
		return 1
	}
	return 0
}

// tableOfWiringWith returns the table of a wiring.
func tableOfWiringWith(x impl.Wiring) impl.Table {
	return tableWith(int64(len(x.Switches)), func(row []int64) int64 { return litWith(x, numberOf(row)) })
}

// faultTablesWith returns for each wire the table of a wiring without it.
func faultTablesWith(x impl.Wiring) []impl.Table {
	var tables []impl.Table
	for i := range x.Wires {
		tables = append(tables, tableOfWiringWith(withoutWire(x, i)))
	}
	return tables
}

// allSwitches returns the signs of all lists of 1 to 5 switches.
func allSwitches() []string {
	return shortTexts("34", 5)[1:]
}

// wireWords returns the words of all wires of a wiring with so many terminals, in order.
func wireWords(terminals int64) []string {
	var words []string
	for a := range terminals {
		for b := a + 1; b < terminals; b++ {
			words = append(words, fmt.Sprintf("%d-%d", a, b))
		}
	}
	return words
}

// wiringsOfOne returns the wirings of one switch with at most so many wires, all different.
func wiringsOfOne(sign string, most int) []impl.Wiring {
	words := wireWords(wired(sign, "").Terminals)
	var list []impl.Wiring
	for set := range 1 << len(words) {
		var chosen []string
		for i, digit := range digitsOf(int64(set), int64(len(words))) {
			if digit == 1 {
				chosen = append(chosen, words[i])
			}
		}
		if len(chosen) <= most {
			list = append(list, wired(sign, strings.Join(chosen, " ")))
		}
	}
	return list
}

// looseWires returns a wiring with so many wires from a sequence. Now and then a wire equals another.
func looseWires(source *rand.Rand, signs string, count int) impl.Wiring {
	x := wired(signs, "")
	var wires [][]int64
	for len(wires) < count {
		a, b := source.Int63n(x.Terminals), source.Int63n(x.Terminals)
		if a == b {
			continue
		}
		wires = append(wires, []int64{a, b})
		if len(wires) < count && source.Intn(6) == 0 {
			wires = append(wires, []int64{b, a})
		}
	}
	return sortedWiring(signs, wires)
}

// bunchedWires returns a wiring whose terminals are wired together in so many bunches, from a sequence,
// with the supply and the lamp in the first two and some terminals in none.
func bunchedWires(source *rand.Rand, signs string, bunches int, alone int) impl.Wiring {
	x := wired(signs, "")
	last := map[int]int64{0: 0, 1: 1}
	var wires [][]int64
	for terminal := int64(2); terminal < x.Terminals && len(wires) < 16; terminal++ {
		if source.Intn(12) < alone {
			continue
		}
		bunch := source.Intn(bunches)
		if before, begun := last[bunch]; begun {
			wires = append(wires, []int64{before, terminal})
		}
		last[bunch] = terminal
	}
	return sortedWiring(signs, wires)
}

// pairedWires returns a wiring whose terminals, but for the supply and the lamp, are wired in pairs, from
// a sequence.
func pairedWires(source *rand.Rand, signs string) impl.Wiring {
	order := source.Perm(int(wired(signs, "").Terminals) - 2)
	var wires [][]int64
	for i := 1; i < len(order); i += 2 {
		wires = append(wires, []int64{2 + int64(order[i-1]), 2 + int64(order[i])})
	}
	return sortedWiring(signs, wires)
}

// chainedWires returns a full wiring of 2 to 5 switches from a sequence: two-way switches at both ends,
// crossings between them, in any order of the switches, gone through from either side, and with both
// ways between two of them as they are or exchanged.
func chainedWires(source *rand.Rand, count int) impl.Wiring {
	order := source.Perm(count)
	kinds := slices.Repeat([]string{"4"}, count)
	kinds[order[0]], kinds[order[count-1]] = "3", "3"
	signs := strings.Join(kinds, "")
	x := wired(signs, "")
	var wires [][]int64
	var ways []int64
	for at, i := range order {
		first := joinsOf(x, i, 0)[0][0]
		entry, leaving := []int64{first, first + 1}, []int64{first + 2, first + 3}
		switch {
		case at == 0:
			wires, leaving = append(wires, []int64{0, first}), []int64{first + 1, first + 2}
		case at == count-1:
			wires, entry = append(wires, []int64{1, first}), []int64{first + 1, first + 2}
		case source.Intn(2) == 0:
			entry, leaving = leaving, entry
		}
		if at > 0 {
			turned := source.Intn(2)
			wires = append(wires, []int64{ways[0], entry[turned]}, []int64{ways[1], entry[1-turned]})
		}
		ways = leaving
	}
	return sortedWiring(signs, wires)
}

// standardTexts has the texts of the standard wirings of 2 to 5 places.
var standardTexts = []string{
	"33:0-2,1-5,3-6,4-7",
	"343:0-2,1-9,3-5,4-6,7-10,8-11",
	"3443:0-2,1-13,3-5,4-6,7-9,8-10,11-14,12-15",
	"34443:0-2,1-17,3-5,4-6,7-9,8-10,11-13,12-14,15-18,16-19",
}

// standardWith returns the standard wiring of k places.
func standardWith(k int64) impl.Wiring {
	signs, words, _ := strings.Cut(standardTexts[k-2], ":")
	return wired(signs, strings.ReplaceAll(words, ",", " "))
}

// wiringsByHand returns wirings at the limits, and such as the tests by hand look at.
func wiringsByHand() []impl.Wiring {
	list := []impl.Wiring{
		wired("3", ""), wired("4", ""), wired("33333", ""), wired("44444", ""),
		wired("3", strings.Repeat("0-1 ", 16)), wired("3", strings.Repeat("3-4 ", 16)), wired("44444", strings.Repeat("20-21 ", 16)),
		wired("4", "0-1 0-2 0-3 0-4 0-5 1-2 1-3 1-4 1-5 2-3 2-4 2-5 3-4 3-5 4-5 4-5"), wired("3", "0-1 0-2 0-3 0-4 1-2 1-3 1-4 2-3 2-4 3-4"),
		wired("44444", "0-1 0-2 0-3 0-4 0-5 0-6 0-7 0-8 0-9 0-10 0-11 0-12 0-13 0-14 0-15 0-16"), wired("44444", "0-2 1-19 4-6 5-7 8-10 9-11 12-14 13-15 16-18 17-19 20-21"),
	}
	for k := int64(2); k <= 5; k++ {
		x := standardWith(k)
		list = append(list, x, withMoreWires(x, "0-1"), withMoreWires(x, "0-2 0-2"), withMoreWires(x, "3-4"), withMoreWires(x, "2-3"), withMoreWires(x, "1-2"))
		for i := range x.Wires {
			list = append(list, withoutWire(x, i))
		}
	}
	return list
}

// sampleWirings returns wirings of one switch with all sets of few wires, those by hand, and others
// from a fixed sequence for all lists of switches.
func sampleWirings() []impl.Wiring {
	list := slices.Concat(wiringsByHand(), wiringsOfOne("3", 5), wiringsOfOne("4", 3))
	source := rand.New(rand.NewSource(10))
	for _, signs := range allSwitches() {
		for count := source.Intn(2); count <= 16; count += 3 {
			list = append(list, looseWires(source, signs, count))
		}
		for bunches := 2; bunches <= 8; bunches++ {
			list = append(list, bunchedWires(source, signs, bunches, source.Intn(6)))
		}
	}
	for range 30 {
		for count := 2; count <= 5; count++ {
			x := chainedWires(source, count)
			list = append(list, x, withoutWire(x, source.Intn(len(x.Wires))))
		}
	}
	return list
}

// sparseWirings returns the wirings by hand, and of the samples just one in each so many.
func sparseWirings(step int) []impl.Wiring {
	list := wiringsByHand()
	for i, x := range sampleWirings() {
		if i%step == 0 {
			list = append(list, x)
		}
	}
	return list
}

// fewWirings returns some of the samples, with all kinds among them.
func fewWirings() []impl.Wiring { return sparseWirings(11) }

// noWirings are values of the type Wiring that are no wirings.
func noWirings() []impl.Wiring {
	list := []impl.Wiring{
		{}, {Terminals: 2}, {Terminals: 5}, {Terminals: 2, Switches: []int64{}}, {Terminals: 2, Wires: [][]int64{{0, 1}}}, {Terminals: 5, Wires: [][]int64{{0, 1}}},
		{Switches: []int64{3}}, {Terminals: 4, Switches: []int64{3}}, {Terminals: 6, Switches: []int64{3}}, {Terminals: 5, Switches: []int64{4}}, {Terminals: 7, Switches: []int64{4}}, {Terminals: 3, Switches: []int64{3}},
		{Terminals: -5, Switches: []int64{3}}, {Terminals: math.MinInt64, Switches: []int64{3}}, {Terminals: math.MaxInt64, Switches: []int64{3}}, {Terminals: 1<<32 + 5, Switches: []int64{3}},
		{Terminals: 8, Switches: []int64{6}}, {Terminals: 8, Switches: []int64{2, 4}}, {Terminals: 8, Switches: []int64{4, 2}}, {Terminals: 10, Switches: []int64{3, 5}}, {Terminals: 9, Switches: []int64{5, 2}}, {Terminals: 5, Switches: []int64{3, 0}}, {Terminals: 5, Switches: []int64{4, -1}}, {Terminals: 4, Switches: []int64{2}}, {Terminals: 7, Switches: []int64{5}}, {Terminals: 2, Switches: []int64{0}}, {Terminals: -1, Switches: []int64{-3}},
		{Terminals: 1, Switches: []int64{math.MaxInt64, math.MinInt64}}, {Terminals: math.MinInt64 + 1, Switches: []int64{math.MaxInt64}}, {Terminals: math.MinInt64 + 2, Switches: []int64{math.MinInt64}}, {Terminals: 0, Switches: []int64{math.MaxInt64, math.MaxInt64}},
		wired("333333", ""), wired("444444", "0-1"), wired(strings.Repeat("3", 64), ""), wired(strings.Repeat("4", 1000), "0-2"),
		wired("3", strings.Repeat("0-1 ", 17)), wired("44444", strings.Repeat("0-1 ", 17)), wired("3", strings.Repeat("0-1 ", 1000)), wired("34", strings.Join(wireWords(9)[:17], " ")),
		wired("33", "1-5 0-2"), wired("33", "0-2 1-5 3-6 4-7 3-5"), wired("33", "0-3 0-2"), wired("33", "0-2 0-3 0-2"), wired("33", "3-7 4-5 3-6"), wired("44", "2-9 2-8"), wired("3333", "0-10 0-9"), wired("3333", "10-11 9-11"),
		wired("3", "2-0"), wired("3", "1-0"), wired("3", "4-3"), wired("3", "0-2 3-1"), wired("3", "0-0"), wired("3", "1-1"), wired("3", "4-4"), wired("3", "0-1 2-2"), wired("3", "0-5"), wired("3", "4-5"), wired("3", "5-6"), wired("4", "0-6"), wired("44444", "0-22"), wired("44444", "21-22"), wired("44444", "0-64"),
	}
	wires := [][]int64{nil, {}, {0}, {1}, {0, 1, 2}, {0, 1, 1}, {0, 1, 0}, {-1, 0}, {-1, 1}, {-2, -1}, {0, -1}, {math.MinInt64, 0}, {math.MinInt64, math.MaxInt64}, {0, math.MaxInt64}, {math.MaxInt64, math.MinInt64}, {math.MinInt64, math.MinInt64}, {0, 1 << 32}, {0, 1<<32 + 1}, make([]int64, 100)}
	for _, wire := range wires {
		for _, signs := range []string{"3", "44", "34443"} {
			x := wired(signs, "")
			x.Wires = [][]int64{wire}
			y := wired(signs, "0-2")
			y.Wires = append(y.Wires, wire)
			z := wired(signs, "0-2 2-3")
			z.Wires = slices.Insert(z.Wires, 1, wire)
			list = append(list, x, y, z)
		}
	}
	for _, far := range farBeyond(5) {
		list = append(list, impl.Wiring{Terminals: far, Switches: []int64{3}}, impl.Wiring{Terminals: 2 + far, Switches: []int64{far}}, impl.Wiring{Terminals: 5 + far, Switches: []int64{3, far}})
	}
	return slices.DeleteFunc(list, func(x impl.Wiring) bool { return sameWiring(x, wired("34", "")) })
}

func TestLightLimits(t *testing.T) {
	asByte, asFloat := byte(impl.MaxWires), float64(impl.MaxWires)
	if asByte != 16 || asFloat != 16 {
		t.Errorf("MaxWires = %d", impl.MaxWires)
	}
}

func TestIsWiring(t *testing.T) {
	for _, x := range sampleWirings() {
		if !impl.IsWiring(x) {
			t.Errorf("IsWiring(%v) is false", x)
		}
		for _, more := range []int64{-1, 1} {
			y := copyOfWiring(x)
			y.Terminals += more
			if impl.IsWiring(y) {
				t.Errorf("IsWiring(%v) is true", y)
			}
		}
	}
	for _, x := range noWirings() {
		if impl.IsWiring(x) {
			t.Errorf("IsWiring(%v) is true", x)
		}
	}
}

// TestIsWiringOfSwitches looks at lists of up to seven switches of all kinds that there could be.
func TestIsWiringOfSwitches(t *testing.T) {
	for count := range 8 {
		for kind := int64(-1); kind <= 7; kind++ {
			for place := range max(count, 1) {
				switches := slices.Repeat([]int64{4}, count)
				if count > 0 {
					switches[place] = kind
				}
				x := impl.Wiring{Terminals: 2, Switches: switches}
				for _, size := range switches {
					x.Terminals += size
				}
				want := count >= 1 && count <= 5 && (kind == 3 || kind == 4)
				if impl.IsWiring(x) != want {
					t.Errorf("IsWiring(%v) = %v", x, !want)
				}
			}
		}
	}
}

// TestIsWiringOfWires looks at all pairs of terminals as wires, alone and behind another one.
func TestIsWiringOfWires(t *testing.T) {
	for _, signs := range []string{"3", "4", "33", "343", "44444"} {
		terminals := wired(signs, "").Terminals
		for a := int64(-2); a < terminals+3; a++ {
			for b := int64(-2); b < terminals+3; b++ {
				isOne := a >= 0 && a < b && b < terminals
				alone := wired(signs, "")
				alone.Wires = [][]int64{{a, b}}
				if impl.IsWiring(alone) != isOne {
					t.Errorf("IsWiring(%v) = %v", alone, !isOne)
				}
				behind := wired(signs, "1-3")
				behind.Wires = append(behind.Wires, []int64{a, b})
				if want := isOne && (a > 1 || a == 1 && b >= 3); impl.IsWiring(behind) != want {
					t.Errorf("IsWiring(%v) = %v", behind, !want)
				}
			}
		}
		for count := range 40 {
			x := wired(signs, "")
			x.Wires = slices.Repeat([][]int64{{0, terminals - 1}}, count)
			if impl.IsWiring(x) != (count <= 16) {
				t.Errorf("IsWiring of %q with %d wires = %v", signs, count, count > 16)
			}
		}
	}
}

func TestStandardWiring(t *testing.T) {
	for k := int64(2); k <= 5; k++ {
		x, code := impl.StandardWiring(k)
		wantWiring(t, fmt.Sprintf("StandardWiring(%d)", k), x, code, standardWith(k))
		text, _ := impl.WiringText(x)
		if text != standardTexts[k-2] {
			t.Errorf("StandardWiring(%d) has the text %q", k, text)
		}
		// An even number of changes from the positions 0 lights the lamp.
		even := tableWith(k, func(row []int64) int64 { return 1 - onesIn(row)%2 })
		table, code := impl.TableOfWiring(x)
		wantTable(t, fmt.Sprintf("the table of StandardWiring(%d)", k), table, code, even)
		full, code := impl.IsFull(x)
		wantBool(t, fmt.Sprintf("IsFull of StandardWiring(%d)", k), full, code, true)
	}
	two, _ := impl.StandardWiring(2)
	table, code := impl.TableOfWiring(two)
	wantTable(t, "the table of StandardWiring(2)", table, code, tableOfText("2:1001"))
	for _, k := range append([]int64{1, 0, -1, -2, -3, -4, -5, 6, 7, 8}, farNumbers...) {
		x, code := impl.StandardWiring(k)
		wantWiringError(t, fmt.Sprintf("StandardWiring(%d)", k), x, code, impl.ErrRange)
	}
}

// kindOfLight returns a word for how many terminals are live, and whether the lamp is among them.
func kindOfLight(x impl.Wiring, live []int64) string {
	kind := "some are live"
	switch {
	case int64(len(live)) == x.Terminals:
		kind = "all are live"
	case len(live) == 1:
		kind = "the supply is live"
	}
	return fmt.Sprintf("%s, lit %v", kind, slices.Contains(live, 1))
}

func TestLights(t *testing.T) {
	kinds := map[string]int{}
	for _, x := range sampleWirings() {
		for positions := range int64(1) << len(x.Switches) {
			want := liveWith(x, positions)
			live, code := impl.LiveTerminals(x, positions)
			wantList(t, fmt.Sprintf("LiveTerminals(%v, %d)", x, positions), live, code, want)
			lit, code := impl.IsLit(x, positions)
			wantBool(t, fmt.Sprintf("IsLit(%v, %d)", x, positions), lit, code, slices.Contains(want, 1))
			kinds[kindOfLight(x, want)]++
		}
		table, code := impl.TableOfWiring(x)
		wantTable(t, fmt.Sprintf("TableOfWiring(%v)", x), table, code, tableOfWiringWith(x))
	}
	wantKinds(t, kinds, "some are live, lit true", "some are live, lit false", "all are live, lit true", "the supply is live, lit false")
}

// lightsByHand are wirings with their tables, and the live terminals for some positions.
var lightsByHand = []struct {
	signs, words string
	table        string
	positions    int64
	live         []int64
}{
	{"3", "", "1:00", 0, []int64{0}}, {"3", "", "1:00", 1, []int64{0}}, {"4", "", "1:00", 1, []int64{0}}, {"44444", "", "5:" + strings.Repeat("0", 32), 31, []int64{0}},
	// The supply is wired to the lamp.
	{"3", "0-1", "1:11", 0, []int64{0, 1}}, {"3", "0-4 1-4", "1:11", 0, []int64{0, 1, 4}}, {"3", "0-4 1-4", "1:11", 1, []int64{0, 1, 2, 4}}, {"44444", "0-1", "5:" + strings.Repeat("1", 32), 21, []int64{0, 1}},
	// One two-way switch, and one crossing.
	{"3", "0-2 1-3", "1:10", 0, []int64{0, 1, 2, 3}}, {"3", "0-2 1-3", "1:10", 1, []int64{0, 2, 4}}, {"3", "0-2 1-4", "1:01", 0, []int64{0, 2, 3}}, {"3", "0-2 1-4", "1:01", 1, []int64{0, 1, 2, 4}}, {"3", "0-4 1-2", "1:01", 1, []int64{0, 1, 2, 4}},
	{"3", "0-3 1-4", "1:00", 0, []int64{0, 2, 3}}, {"3", "0-3 1-4", "1:00", 1, []int64{0, 3}}, {"3", "0-2 1-3 1-4", "1:11", 1, []int64{0, 1, 2, 3, 4}}, {"3", "0-2 3-4", "1:00", 0, []int64{0, 2, 3, 4}},
	{"4", "0-2 1-4", "1:10", 0, []int64{0, 1, 2, 4}}, {"4", "0-2 1-4", "1:10", 1, []int64{0, 2, 5}}, {"4", "0-2 1-5", "1:01", 0, []int64{0, 2, 4}}, {"4", "0-2 1-5", "1:01", 1, []int64{0, 1, 2, 5}}, {"4", "0-3 1-4", "1:01", 1, []int64{0, 1, 3, 4}}, {"4", "0-3 1-4", "1:01", 0, []int64{0, 3, 5}}, {"4", "0-3 1-5", "1:10", 0, []int64{0, 1, 3, 5}}, {"4", "0-4 1-5", "1:00", 0, []int64{0, 2, 4}}, {"4", "0-4 1-5", "1:00", 1, []int64{0, 3, 4}},
	// Over a switch back and forth.
	{"4", "0-2 1-3", "1:00", 0, []int64{0, 2, 4}}, {"4", "0-2 1-3 4-5", "1:11", 0, []int64{0, 1, 2, 3, 4, 5}}, {"4", "0-2 1-3 4-5", "1:11", 1, []int64{0, 1, 2, 3, 4, 5}}, {"4", "0-4 1-5 2-3", "1:11", 1, []int64{0, 1, 2, 3, 4, 5}}, {"43", "0-2 1-3 4-6 5-7", "2:1100", 0, []int64{0, 1, 2, 3, 4, 5, 6, 7}}, {"43", "0-2 1-3 4-6 5-7", "2:1100", 2, []int64{0, 2, 4, 6, 8}}, {"43", "0-2 1-3 4-6 5-7", "2:1100", 3, []int64{0, 2, 5, 7}},
	// The digits of the positions are those of the switches in order.
	{"33", "0-2 1-6 4-5", "2:0100", 1, []int64{0, 1, 2, 4, 5, 6}}, {"33", "0-2 1-6 4-5", "2:0100", 2, []int64{0, 2, 3}}, {"33", "0-2 1-7 3-5", "2:0010", 2, []int64{0, 1, 2, 3, 5, 7}}, {"33", "0-2 1-7 3-5", "2:0010", 1, []int64{0, 2, 4}}, {"33", "0-2 1-5 3-6 4-7", "2:1001", 1, []int64{0, 2, 4, 7}},
	{"343", "0-5 1-6 7-8", "3:11111111", 5, []int64{0, 1, 5, 6, 7, 8}}, {"333", "0-8 1-10", "3:00001111", 4, []int64{0, 1, 8, 10}}, {"34", "0-5 1-7", "2:1100", 3, []int64{0, 5, 8}}, {"33333", "0-14 1-16", "5:" + strings.Repeat("0", 16) + strings.Repeat("1", 16), 16, []int64{0, 1, 14, 16}}, {"44444", "0-18 1-20", "5:" + strings.Repeat("1", 16) + strings.Repeat("0", 16), 31, []int64{0, 18, 21}},
	// All terminals are wired together.
	{"3", "0-1 1-2 2-3 3-4", "1:11", 0, []int64{0, 1, 2, 3, 4}}, {"3", "0-4 1-4 2-4 3-4", "1:11", 1, []int64{0, 1, 2, 3, 4}},
}

func TestLightsByHand(t *testing.T) {
	for _, c := range lightsByHand {
		x := wired(c.signs, c.words)
		table, code := impl.TableOfWiring(x)
		wantTable(t, fmt.Sprintf("TableOfWiring(%v)", x), table, code, tableOfText(c.table))
		live, code := impl.LiveTerminals(x, c.positions)
		wantList(t, fmt.Sprintf("LiveTerminals(%v, %d)", x, c.positions), live, code, c.live)
		lit, code := impl.IsLit(x, c.positions)
		wantBool(t, fmt.Sprintf("IsLit(%v, %d)", x, c.positions), lit, code, c.table[2+c.positions] == '1')
	}
}

// TestPositionsOutOfRange looks at positions at the ends of their range, and beyond.
func TestPositionsOutOfRange(t *testing.T) {
	for _, signs := range allSwitches() {
		last := int64(1)<<len(signs) - 1
		for _, words := range []string{"", "0-1", "0-2 1-3"} {
			x := wired(signs, words)
			for _, positions := range append(farBeyond(last), last+1, 2*last+1, 2*last+2, -last, -last-1) {
				lit, code := impl.IsLit(x, positions)
				wantBoolError(t, fmt.Sprintf("IsLit(%v, %d)", x, positions), lit, code, impl.ErrRange)
				live, code := impl.LiveTerminals(x, positions)
				wantListError(t, fmt.Sprintf("LiveTerminals(%v, %d)", x, positions), live, code, impl.ErrRange)
			}
			for _, positions := range []int64{0, last} {
				lit, code := impl.IsLit(x, positions)
				wantBool(t, fmt.Sprintf("IsLit(%v, %d)", x, positions), lit, code, litWith(x, positions) == 1)
			}
		}
	}
}

// isFullWith reports whether a wiring is full, by all positions and the next ones to them.
func isFullWith(x impl.Wiring) bool {
	for positions := range int64(1) << len(x.Switches) {
		for i := range x.Switches {
			if litWith(x, positions) == litWith(x, positions^1<<i) {
				return false
			}
		}
	}
	return true
}

func TestIsFull(t *testing.T) {
	kinds := map[string]int{}
	for _, x := range sampleWirings() {
		want := isFullWith(x)
		got, code := impl.IsFull(x)
		wantBool(t, fmt.Sprintf("IsFull(%v)", x), got, code, want)
		kinds[fmt.Sprintf("%d switches, %v", len(x.Switches), want)]++
		if want {
			kinds[fmt.Sprintf("full, lit with 0: %d", litWith(x, 0))]++
		}
	}
	wantKinds(t, kinds, "full, lit with 0: 0", "full, lit with 0: 1")
	for count := 1; count <= 5; count++ {
		wantKinds(t, kinds, fmt.Sprintf("%d switches, true", count), fmt.Sprintf("%d switches, false", count))
	}
}

func TestIsFullByHand(t *testing.T) {
	for _, c := range []struct {
		signs, words string
		want         bool
	}{
		{"3", "0-2 1-3", true}, {"3", "0-2 1-4", true}, {"3", "0-4 1-2", true}, {"3", "0-1 0-2 1-3", false}, {"3", "", false}, {"3", "0-1", false}, {"3", "0-3 1-4", false}, {"3", "0-2 1-3 1-4", false},
		{"4", "0-2 1-4", true}, {"4", "0-2 1-5", true}, {"4", "0-3 1-4", true}, {"4", "0-3 1-5", true}, {"4", "0-2 1-3 4-5", false}, {"4", "0-2 1-4 1-5", false}, {"4", "", false},
		{"33", "0-2 1-5 3-6 4-7", true}, {"33", "0-2 1-5 3-7 4-6", true}, {"33", "0-2 1-5 3-6", false}, {"33", "0-2 1-5 4-7", false}, {"33", "0-2 1-5 3-6 3-7", false}, {"33", "0-1 0-2 1-5 3-6 4-7", false}, {"33", "0-2 1-3", false}, {"33", "0-5 1-6", false}, {"33", "", false},
		// One switch beside two that are full does nothing.
		{"333", "0-2 1-5 3-6 4-7", false}, {"343", "0-2 1-9 3-10 4-11", false}, {"343", "0-2 1-9 3-5 4-6 7-10 8-11", true}, {"343", "0-2 1-9 3-5 4-6 7-11 8-10", true}, {"343", "0-2 1-9 3-7 4-8 5-10 6-11", true}, {"343", "0-2 1-9 3-5 4-8 6-10 7-11", false}, {"343", "0-2 1-9 3-5 4-6 7-10", false},
		{"44", "0-2 1-8 4-6 5-7", true}, {"44", "0-2 1-8 4-6", false}, {"44444", "0-2 1-20 4-6 5-7 8-10 9-11 12-14 13-15 16-18 17-19", true},
	} {
		x := wired(c.signs, c.words)
		got, code := impl.IsFull(x)
		wantBool(t, fmt.Sprintf("IsFull(%v)", x), got, code, c.want)
	}
}

// placeOfWire returns a word for where a wire comes to stand in a wiring.
func placeOfWire(x impl.Wiring, wire []int64) string {
	before, equal := 0, 0
	for _, other := range x.Wires {
		switch slices.Compare(other, wire) {
		case -1:
			before++
		case 0:
			equal++
		}
	}
	switch {
	case equal > 0:
		return "beside an equal one"
	case len(x.Wires) == 0:
		return "alone"
	case before == 0:
		return "first"
	case before == len(x.Wires):
		return "last"
	}
	return "between others"
}

func TestAddWire(t *testing.T) {
	kinds := map[string]int{}
	for _, x := range fewWirings() {
		for a := range x.Terminals {
			for b := range x.Terminals {
				y, code := impl.AddWire(x, a, b)
				call := fmt.Sprintf("AddWire(%v, %d, %d)", x, a, b)
				switch {
				case a == b:
					wantWiringError(t, call, y, code, impl.ErrRange)
				case len(x.Wires) == 16:
					wantWiringError(t, call, y, code, impl.ErrLimit)
					kinds["one too many"]++
				default:
					wire := []int64{min(a, b), max(a, b)}
					wantWiring(t, call, y, code, sortedWiring(signsOfSwitches(x), append(copyOfLists(x.Wires), wire)))
					kinds[placeOfWire(x, wire)]++
				}
			}
		}
	}
	wantKinds(t, kinds, "one too many", "alone", "first", "last", "between others", "beside an equal one")
}

func TestAddWireByHand(t *testing.T) {
	for _, c := range []struct {
		words string
		a, b  int64
		want  string
	}{
		{"", 0, 1, "0-1"}, {"", 7, 0, "0-7"}, {"", 6, 7, "6-7"}, {"1-5 3-6", 0, 2, "0-2 1-5 3-6"}, {"1-5 3-6", 2, 0, "0-2 1-5 3-6"}, {"1-5 3-6", 4, 7, "1-5 3-6 4-7"}, {"1-5 3-6", 7, 4, "1-5 3-6 4-7"},
		{"1-5 3-6", 1, 7, "1-5 1-7 3-6"}, {"1-5 3-6", 5, 3, "1-5 3-5 3-6"}, {"1-5 3-6", 6, 3, "1-5 3-6 3-6"}, {"1-5 3-6", 1, 5, "1-5 1-5 3-6"}, {"1-5 1-5 3-6", 5, 1, "1-5 1-5 1-5 3-6"}, {"1-5 3-6", 1, 4, "1-4 1-5 3-6"},
		{strings.Repeat("0-2 ", 15), 0, 1, "0-1 " + strings.Repeat("0-2 ", 15)}, {strings.Repeat("0-2 ", 15), 3, 0, strings.Repeat("0-2 ", 15) + "0-3"}, {strings.Repeat("0-2 ", 15), 2, 0, strings.Repeat("0-2 ", 16)},
	} {
		x := wired("33", c.words)
		y, code := impl.AddWire(x, c.a, c.b)
		wantWiring(t, fmt.Sprintf("AddWire(%v, %d, %d)", x, c.a, c.b), y, code, wired("33", c.want))
	}
	// A wire to a terminal of two digits stands behind those of one digit.
	y, code := impl.AddWire(wired("3333", "0-2 0-9 0-12"), 10, 0)
	wantWiring(t, "AddWire of 10 and 0", y, code, wired("3333", "0-2 0-9 0-10 0-12"))
}

func TestAddWireErrors(t *testing.T) {
	for _, signs := range allSwitches() {
		terminals := wired(signs, "").Terminals
		for _, words := range []string{"", "0-1", strings.Repeat("1-2 ", 15), strings.Repeat("1-2 ", 16)} {
			x := wired(signs, words)
			for _, far := range append(farBeyond(terminals-1), terminals) {
				for _, pair := range [][2]int64{{0, far}, {far, 0}, {far, far}, {terminals - 1, far}, {far, terminals - 1}, {far, -1}, {-1, far}} {
					y, code := impl.AddWire(x, pair[0], pair[1])
					wantWiringError(t, fmt.Sprintf("AddWire(%v, %d, %d)", x, pair[0], pair[1]), y, code, impl.ErrRange)
				}
			}
			for terminal := range terminals {
				y, code := impl.AddWire(x, terminal, terminal)
				wantWiringError(t, fmt.Sprintf("AddWire(%v, %d, %d)", x, terminal, terminal), y, code, impl.ErrRange)
			}
			y, code := impl.AddWire(x, 0, terminals-1)
			if len(x.Wires) == 16 {
				wantWiringError(t, fmt.Sprintf("AddWire(%v, 0, %d)", x, terminals-1), y, code, impl.ErrLimit)
			} else if !impl.IsWiring(y) || code != impl.ErrNone {
				t.Errorf("AddWire(%v, 0, %d) = %v, %d", x, terminals-1, y, code)
			}
		}
	}
}

func TestBreakWire(t *testing.T) {
	for _, x := range fewWirings() {
		for i := range x.Wires {
			y, code := impl.BreakWire(x, int64(i))
			wantWiring(t, fmt.Sprintf("BreakWire(%v, %d)", x, i), y, code, withoutWire(x, i))
		}
		for _, far := range farBeyond(int64(len(x.Wires)) - 1) {
			y, code := impl.BreakWire(x, far)
			wantWiringError(t, fmt.Sprintf("BreakWire(%v, %d)", x, far), y, code, impl.ErrRange)
		}
	}
}

func TestBreakWireByHand(t *testing.T) {
	for _, c := range []struct {
		words string
		i     int64
		want  string
	}{
		{"0-1", 0, ""}, {"0-2 1-5 3-6 4-7", 0, "1-5 3-6 4-7"}, {"0-2 1-5 3-6 4-7", 1, "0-2 3-6 4-7"}, {"0-2 1-5 3-6 4-7", 3, "0-2 1-5 3-6"}, {"0-2 0-2 1-5", 0, "0-2 1-5"}, {"0-2 0-2 1-5", 1, "0-2 1-5"}, {"0-2 0-2 1-5", 2, "0-2 0-2"}, {strings.Repeat("6-7 ", 16), 15, strings.Repeat("6-7 ", 15)},
	} {
		x := wired("33", c.words)
		y, code := impl.BreakWire(x, c.i)
		wantWiring(t, fmt.Sprintf("BreakWire(%v, %d)", x, c.i), y, code, wired("33", c.want))
	}
}

// TestBrokenWiresComeBack adds a wire that is broken, and breaks one that is added.
func TestBrokenWiresComeBack(t *testing.T) {
	for _, x := range fewWirings() {
		for i, wire := range x.Wires {
			y, _ := impl.BreakWire(x, int64(i))
			z, code := impl.AddWire(y, wire[1], wire[0])
			wantWiring(t, fmt.Sprintf("%v with its wire %d broken and added", x, i), z, code, x)
		}
	}
}

// neededWiresWith returns the wires without which a wiring has another table.
func neededWiresWith(x impl.Wiring) []int64 {
	var needed []int64
	for i, table := range faultTablesWith(x) {
		if table != tableOfWiringWith(x) {
			needed = append(needed, int64(i))
		}
	}
	return needed
}

func TestNeededWires(t *testing.T) {
	kinds := map[string]int{}
	for _, x := range sampleWirings() {
		want := neededWiresWith(x)
		got, code := impl.NeededWires(x)
		wantList(t, fmt.Sprintf("NeededWires(%v)", x), got, code, want)
		switch {
		case len(x.Wires) == 0:
			kinds["no wires"]++
		case len(want) == 0:
			kinds["none is needed"]++
		case len(want) == len(x.Wires):
			kinds["all are needed"]++
		default:
			kinds["some are needed"]++
		}
	}
	wantKinds(t, kinds, "no wires", "none is needed", "some are needed", "all are needed")
}

func TestNeededWiresByHand(t *testing.T) {
	for _, c := range []struct {
		signs, words string
		want         []int64
	}{
		{"3", "", nil}, {"3", "0-1", []int64{0}}, {"3", "0-1 0-1", nil}, {"3", "0-1 0-2 1-2", nil}, {"3", "0-2 1-3", []int64{0, 1}}, {"3", "0-1 0-2 1-3", []int64{0}}, {"3", "0-2 0-2 1-3", []int64{2}}, {"3", "0-2 1-3 1-4", []int64{0, 1, 2}}, {"3", "0-2", nil},
		{"33", "0-2 1-5 3-6 4-7", []int64{0, 1, 2, 3}}, {"33", "0-2 1-5 3-6 4-7 6-7", []int64{0, 1, 2, 3, 4}}, {"33", "0-2 1-5 3-6 3-6 4-7", []int64{0, 1, 4}}, {"33", "0-2 0-5 1-2", []int64{0, 2}}, {"33", "0-2 1-5", nil},
		{"4", "0-2 1-3 4-5", []int64{0, 1, 2}}, {"4", "0-2 1-4 1-5", []int64{0, 1, 2}}, {"343", "0-2 1-9 3-5 4-6 7-10 8-11", []int64{0, 1, 2, 3, 4, 5}}, {"33", strings.Repeat("0-1 ", 16), nil}, {"33", "0-1 " + strings.Repeat("2-3 ", 15), []int64{0}},
	} {
		x := wired(c.signs, c.words)
		got, code := impl.NeededWires(x)
		wantList(t, fmt.Sprintf("NeededWires(%v)", x), got, code, c.want)
	}
}

// sightsOf returns what a table shows for some positions.
func sightsOf(table impl.Table, list ...int64) [][]int64 {
	var sights [][]int64
	for _, positions := range list {
		sights = append(sights, []int64{positions, valuesOf(table)[positions]})
	}
	return sights
}

// listsOfSights returns lists of sights of a wiring: none, contradictory ones, those of the whole
// wiring and of some faults, and others from a sequence, up to 32 of them.
func listsOfSights(source *rand.Rand, x impl.Wiring) [][][]int64 {
	count := int64(1) << len(x.Switches)
	var all []int64
	for positions := range count {
		all = append(all, positions)
	}
	last := count - 1
	lists := [][][]int64{nil, {}, {{0, 0}}, {{0, 1}}, {{last, 0}}, {{last, 1}}, {{0, 0}, {0, 1}}, {{last, 1}, {0, 1}, {last, 0}}, slices.Repeat([][]int64{{0, 0}}, 32), slices.Repeat([][]int64{{last, 1}}, 32), sightsOf(tableOfWiringWith(x), all...)}
	tables := faultTablesWith(x)
	for range min(3, len(tables)) {
		table := tables[source.Intn(len(tables))]
		one, other := source.Int63n(count), source.Int63n(count)
		some := sightsOf(table, one, other)
		lists = append(lists, sightsOf(table, all...), sightsOf(table, one), some, slices.Repeat(some, 16))
		turned := sightsOf(table, all...)
		turned[one][1] = 1 - turned[one][1]
		lists = append(lists, turned, slices.Repeat(turned, 32/len(turned)))
	}
	var loose [][]int64
	for range source.Intn(33) {
		loose = append(loose, []int64{source.Int63n(count), source.Int63n(2)})
	}
	return append(lists, loose)
}

// agreeingWith returns the wires without which a wiring shows all sights, as its tables tell.
func agreeingWith(tables []impl.Table, sights [][]int64) []int64 {
	var faults []int64
wires:
	for i, table := range tables {
		for _, sight := range sights {
			if valuesOf(table)[sight[0]] != sight[1] {
				continue wires
			}
		}
		faults = append(faults, int64(i))
	}
	return faults
}

// bestTestWith returns the best test, and how many positions are as good. It goes through the
// differences from 0 on, and for each through the positions.
func bestTestWith(x impl.Wiring, tables []impl.Table, faults []int64) (int64, int) {
	for difference := range 17 {
		var best []int64
		for positions := range int64(1) << len(x.Switches) {
			lit, dark := 0, 0
			for _, i := range faults {
				if valuesOf(tables[i])[positions] == 1 {
					lit++
				} else {
					dark++
				}
			}
			if lit-dark == difference || dark-lit == difference {
				best = append(best, positions)
			}
		}
		if len(best) > 0 {
			return best[0], len(best)
		}
	}
	panic("more than 16 faults")
}

func TestFaultsThatAgree(t *testing.T) {
	kinds := map[string]int{}
	source := rand.New(rand.NewSource(11))
	for _, x := range sparseWirings(4) {
		tables := faultTablesWith(x)
		for _, sights := range listsOfSights(source, x) {
			want := agreeingWith(tables, sights)
			got, code := impl.FaultsThatAgree(x, sights)
			wantList(t, fmt.Sprintf("FaultsThatAgree(%v, %v)", x, sights), got, code, want)
			switch {
			case len(x.Wires) == 0:
				kinds["no wires"]++
			case len(sights) == 0:
				kinds["no sights"]++
			case len(want) == 0:
				kinds["no fault agrees"]++
			case len(want) == len(x.Wires):
				kinds["all faults agree"]++
			default:
				kinds["some faults agree"]++
			}
			if len(sights) == 32 {
				kinds["32 sights"]++
			}
		}
	}
	wantKinds(t, kinds, "no wires", "no sights", "no fault agrees", "some faults agree", "all faults agree", "32 sights")
}

func TestBestTest(t *testing.T) {
	kinds := map[string]int{}
	source := rand.New(rand.NewSource(12))
	for _, x := range sparseWirings(5) {
		tables := faultTablesWith(x)
		for _, sights := range listsOfSights(source, x) {
			faults := agreeingWith(tables, sights)
			want, count := bestTestWith(x, tables, faults)
			got, code := impl.BestTest(x, sights)
			wantNumber(t, fmt.Sprintf("BestTest(%v, %v)", x, sights), got, code, want)
			switch {
			case len(faults) == 0:
				kinds["no fault agrees"]++
			case count == 1:
				kinds["one best test"]++
			default:
				kinds["several best tests"]++
			}
			if want > 0 {
				kinds["not the first one"]++
			}
			if want == 1<<len(x.Switches)-1 {
				kinds["the last one"]++
			}
		}
	}
	wantKinds(t, kinds, "no fault agrees", "one best test", "several best tests", "not the first one", "the last one")
}

func TestFaultsByHand(t *testing.T) {
	two := "0-2 1-5 3-6 4-7"
	for _, c := range []struct {
		signs, words string
		sights       [][]int64
		faults       []int64
		test         int64
	}{
		{"33", two, nil, []int64{0, 1, 2, 3}, 0}, {"33", two, [][]int64{{0, 0}}, []int64{0, 1, 2}, 3}, {"33", two, [][]int64{{3, 0}}, []int64{0, 1, 3}, 0}, {"33", two, [][]int64{{0, 1}}, []int64{3}, 0}, {"33", two, [][]int64{{3, 1}}, []int64{2}, 0},
		{"33", two, [][]int64{{0, 0}, {3, 0}}, []int64{0, 1}, 0}, {"33", two, [][]int64{{3, 0}, {1, 0}, {2, 0}, {0, 0}}, []int64{0, 1}, 0}, {"33", two, [][]int64{{0, 1}, {3, 1}}, nil, 0}, {"33", two, [][]int64{{1, 1}}, nil, 0}, {"33", two, [][]int64{{0, 0}, {0, 1}}, nil, 0}, {"33", two, [][]int64{{1, 0}, {2, 0}}, []int64{0, 1, 2, 3}, 0},
		{"33", two, slices.Repeat([][]int64{{0, 0}}, 32), []int64{0, 1, 2}, 3}, {"33", two, append(slices.Repeat([][]int64{{0, 0}}, 31), []int64{3, 1}), []int64{2}, 0}, {"33", two, append(slices.Repeat([][]int64{{0, 0}}, 31), []int64{0, 1}), nil, 0},
		// The wiring turned round is lit in the positions 1 and 2.
		{"33", "0-2 1-5 3-7 4-6", [][]int64{{2, 0}}, []int64{0, 1, 2}, 1}, {"33", "0-2 1-5 3-7 4-6", nil, []int64{0, 1, 2, 3}, 1},
		{"3", "", nil, nil, 0}, {"3", "", [][]int64{{0, 0}, {1, 1}}, nil, 0}, {"44444", "", [][]int64{{31, 1}}, nil, 0}, {"3", "0-1", nil, []int64{0}, 0}, {"3", "0-1", [][]int64{{1, 0}}, []int64{0}, 0}, {"3", "0-1", [][]int64{{1, 1}}, nil, 0}, {"3", "0-1 0-1", [][]int64{{1, 1}}, []int64{0, 1}, 0},
		// With 1-3 broken the lamp is lit just in the position 1, with 1-4 broken just in 0, and with 0-2 never.
		{"3", "0-2 1-3 1-4", nil, []int64{0, 1, 2}, 0}, {"3", "0-2 1-3 1-4", [][]int64{{0, 0}}, []int64{0, 1}, 1}, {"3", "0-2 1-3 1-4", [][]int64{{1, 0}}, []int64{0, 2}, 0}, {"3", "0-2 1-3 1-4", [][]int64{{1, 1}}, []int64{1}, 0},
	} {
		x := wired(c.signs, c.words)
		faults, code := impl.FaultsThatAgree(x, c.sights)
		wantList(t, fmt.Sprintf("FaultsThatAgree(%v, %v)", x, c.sights), faults, code, c.faults)
		test, code := impl.BestTest(x, c.sights)
		wantNumber(t, fmt.Sprintf("BestTest(%v, %v)", x, c.sights), test, code, c.test)
	}
}

// badSights returns lists of sights that are not as told for a wiring of so many switches.
func badSights(count int) [][][]int64 {
	last := int64(1)<<count - 1
	wrong := [][]int64{nil, {}, {0}, {1}, {0, 0, 0}, {0, 1, 0}, make([]int64, 100), {0, 2}, {0, -1}, {last, 2}, {last + 1, 0}, {last + 1, 1}, {-1, 0}, {-1, 1}, {math.MinInt64, math.MaxInt64}, {-1, -1}}
	for _, far := range farBeyond(last) {
		wrong = append(wrong, []int64{far, 0}, []int64{far, 1})
	}
	for _, far := range farBeyond(1) {
		wrong = append(wrong, []int64{0, far}, []int64{last, far})
	}
	lists := [][][]int64{slices.Repeat([][]int64{{0, 0}}, 33), slices.Repeat([][]int64{{last, 1}}, 33), slices.Repeat([][]int64{{0, 0}}, 100000), make([][]int64, 33)}
	for _, sight := range wrong {
		lists = append(lists, [][]int64{sight}, [][]int64{{0, 0}, sight}, [][]int64{sight, {0, 0}}, [][]int64{{0, 0}, {0, 1}, sight}, append(slices.Repeat([][]int64{{0, 0}}, 31), sight))
	}
	return lists
}

func TestSightErrors(t *testing.T) {
	for _, x := range []impl.Wiring{wired("3", ""), wired("4", "0-1"), wired("3", "0-2 1-3"), standardWith(2), wired("434", strings.Repeat("0-1 ", 16)), wired("3333", "0-1 1-2"), standardWith(5), wired("44444", "")} {
		for _, sights := range badSights(len(x.Switches)) {
			faults, code := impl.FaultsThatAgree(x, sights)
			wantListError(t, fmt.Sprintf("FaultsThatAgree(%v, %.80s)", x, fmt.Sprint(sights)), faults, code, impl.ErrRange)
			test, code := impl.BestTest(x, sights)
			wantNumberError(t, fmt.Sprintf("BestTest(%v, %.80s)", x, fmt.Sprint(sights)), test, code, impl.ErrRange)
		}
	}
}

// pointsWith returns the points of the network of a wiring by its terminals, -1 for those in no point,
// and how many points there are.
func pointsWith(x impl.Wiring) ([]int64, int64) {
	labels := labelsBy(x.Terminals, x.Wires)
	members := map[int64]int{}
	for _, label := range labels {
		members[label]++
	}
	points := map[int64]int64{labels[0]: 0, labels[1]: 1}
	list := make([]int64, x.Terminals)
	for terminal, label := range labels {
		if _, known := points[label]; !known && members[label] > 1 {
			points[label] = int64(len(points))
		}
		if point, known := points[label]; known {
			list[terminal] = point
		} else {
			list[terminal] = -1
		}
	}
	return list, int64(len(points))
}

// networkOfWiringWith returns the network of a wiring, within the limits or not, how many contacts are
// left out within one point, and how many with a terminal that is in no point. The supply is not wired
// to the lamp.
func networkOfWiringWith(x impl.Wiring) (impl.Network, int, int) {
	points, count := pointsWith(x)
	var contacts [][]int64
	within, without := 0, 0
	for i := range x.Switches {
		for position := range int64(2) {
			for _, join := range joinsOf(x, i, position) {
				p, q := points[join[0]], points[join[1]]
				switch {
				case p < 0 || q < 0:
					without++
				case p == q:
					within++
				default:
					contacts = append(contacts, []int64{min(p, q), max(p, q), int64(i), 1 - position})
				}
			}
		}
	}
	return sortedNetwork(count, contacts), within, without
}

// isWiredThrough reports whether the supply is wired to the lamp.
func isWiredThrough(x impl.Wiring) bool {
	labels := labelsBy(x.Terminals, x.Wires)
	return labels[0] == labels[1]
}

// wantNetworkOfWiring fails unless the network of a wiring is as wanted, and counts what kind it is of.
func wantNetworkOfWiring(t *testing.T, kinds map[string]int, x impl.Wiring) {
	t.Helper()
	call := fmt.Sprintf("NetworkOfWiring(%v)", x)
	got, code := impl.NetworkOfWiring(x)
	if isWiredThrough(x) {
		wantNetworkError(t, call, got, code, impl.ErrState)
		kinds["the supply is wired to the lamp"]++
		return
	}
	want, within, without := networkOfWiringWith(x)
	contacts := len(want.Contacts)
	if want.Points > 8 || contacts > 12 {
		wantNetworkError(t, call, got, code, impl.ErrLimit)
		kinds[fmt.Sprintf("points beyond %v, contacts beyond %v", want.Points > 8, contacts > 12)]++
		return
	}
	wantNetwork(t, call, got, code, want)
	if !impl.IsNetwork(got) {
		t.Errorf("%s = %v, which is no network", call, got)
	}
	for kind, is := range map[string]bool{"just as many points": want.Points == 8, "just as many contacts": contacts == 12, "contacts within a point": within > 0, "terminals in no point": without > 0, "no contacts": contacts == 0, "the ends alone": want.Points == 2} {
		if is {
			kinds[kind]++
		}
	}
	for i := 1; i < contacts; i++ {
		if slices.Equal(want.Contacts[i], want.Contacts[i-1]) {
			kinds["equal contacts"]++
			break
		}
	}
}

func TestNetworkOfWiring(t *testing.T) {
	kinds := map[string]int{}
	for _, x := range sampleWirings() {
		wantNetworkOfWiring(t, kinds, x)
	}
	source := rand.New(rand.NewSource(13))
	for _, signs := range allSwitches() {
		for bunches := 3; bunches <= 10; bunches++ {
			for alone := range 7 {
				wantNetworkOfWiring(t, kinds, bunchedWires(source, signs, bunches, alone))
			}
			wantNetworkOfWiring(t, kinds, pairedWires(source, signs))
		}
	}
	wantKinds(t, kinds, "the supply is wired to the lamp", "points beyond true, contacts beyond false", "points beyond false, contacts beyond true", "points beyond true, contacts beyond true", "just as many points", "just as many contacts", "contacts within a point", "terminals in no point", "no contacts", "the ends alone", "equal contacts")
}

// networksOfWirings are wirings with their networks.
var networksOfWirings = []struct {
	signs, words string
	want         impl.Network
}{
	{"3", "", net(2)}, {"4", "", net(2)}, {"44444", "", net(2)}, {"3", "0-2", net(2)}, {"3", "0-2 1-3", net(2, "01A")}, {"3", "0-2 1-4", net(2, "01a")}, {"3", "0-4 1-2", net(2, "01a")}, {"3", "0-2 1-3 1-4", net(2, "01a", "01A")}, {"3", "0-3 1-4", net(2)}, {"3", "3-4", net(3)}, {"3", "0-2 3-4", net(3, "02a", "02A")}, {"3", "2-3", net(3)}, {"3", "2-4", net(3)}, {"3", "2-3 2-4", net(3)},
	{"4", "0-2 1-4", net(2, "01A")}, {"4", "0-2 1-5", net(2, "01a")}, {"4", "0-3 1-4", net(2, "01a")}, {"4", "0-3 1-5", net(2, "01A")}, {"4", "0-2 1-3 4-5", net(3, "02a", "02A", "12a", "12A")}, {"4", "0-2 0-3 1-4 1-5", net(2, "01a", "01a", "01A", "01A")}, {"4", "2-3 4-5", net(4, "23a", "23a", "23A", "23A")}, {"4", "2-4 3-5", net(4, "23a", "23a")}, {"4", "2-5 3-4", net(4, "23A", "23A")}, {"4", "0-2 1-3", net(2)}, {"4", "0-2 0-4 1-5", net(2, "01a")},
	// Standard wirings, the greatest of which is just within both limits.
	{"33", "0-2 1-5 3-6 4-7", net(4, "02A", "03a", "12B", "13b")}, {"343", "0-2 1-9 3-5 4-6 7-10 8-11", net(6, "02A", "03a", "14C", "15c", "24B", "25b", "34b", "35B")}, {"3443", "0-2 1-13 3-5 4-6 7-9 8-10 11-14 12-15", net(8, "02A", "03a", "16D", "17d", "24B", "25b", "34b", "35B", "46C", "47c", "56c", "57C")},
	// The points in the order of their least terminals, whatever the order of their wires is.
	{"33", "0-7 1-2 3-6 4-5", net(4, "03b", "12A", "13a", "23B")}, {"33", "0-5 1-2 3-7 4-6", net(4, "02b", "03B", "12A", "13a")}, {"33", "2-7 3-5 4-6 5-7", net(4, "23a", "23B")}, {"33", "3-4 5-6 6-7", net(4)}, {"333", "0-8 2-10 3-7 4-6 5-9", net(6, "02c", "05C", "23A", "24a", "35b", "45B")}, {"33", "2-6 3-6 4-7 5-7", net(4, "23a", "23B")}, {"33", "2-7 3-6 4-5 5-6", net(4, "23a", "23A", "23b")},
	// Terminals in no point, and contacts within one point.
	{"33", "0-2 1-5 3-6", net(3, "02A", "12B")}, {"33", "0-2 0-3 1-5 4-7", net(3, "02a", "12b")}, {"33", "0-2 0-3 0-4 1-5 1-6 1-7", net(2)}, {"34", "0-5 1-7", net(2, "01B")}, {"33333", "0-14 1-16", net(2, "01e")}, {"33333", "0-15 1-14", net(2, "01E")},
	// Two lines between the ends, and a wire that is doubled.
	{"33", "0-2 0-2 0-5 1-3 1-6", net(2, "01A", "01B")}, {"33", "0-2 0-5 1-4 1-7 3-6", net(3, "01a", "01b", "02A", "02B")},
	// Just MaxPoints points, and just MaxContacts contacts.
	{"444", "2-4 3-5 6-8 7-9 10-12 11-13", net(8, "23a", "23a", "45b", "45b", "67c", "67c")}, {"4443", "0-2 0-6 0-10 0-14 0-15 1-3 1-7 1-11 4-8 5-9 8-12 9-13", net(4, "02A", "02B", "02C", "03a", "03b", "03c", "12a", "12b", "12c", "13A", "13B", "13C")},
}

func TestNetworkOfWiringByHand(t *testing.T) {
	for _, c := range networksOfWirings {
		x := wired(c.signs, c.words)
		got, code := impl.NetworkOfWiring(x)
		wantNetwork(t, fmt.Sprintf("NetworkOfWiring(%v)", x), got, code, c.want)
	}
	for _, c := range []struct {
		signs, words string
		want         int64
	}{
		{"3", "0-1", impl.ErrState}, {"3", "0-4 1-4", impl.ErrState}, {"4", "0-3 2-3 2-5 1-5", impl.ErrState}, {"33", "0-1 0-2 1-5 3-6 4-7", impl.ErrState}, {"44444", "0-12 1-13 12-13", impl.ErrState}, {"3", "0-1 0-1", impl.ErrState},
		// One point more, one contact more, and both.
		{"4443", "2-4 3-5 6-8 7-9 10-12 11-13 15-16", impl.ErrLimit}, {"4443", "0-2 0-6 0-10 0-14 0-15 1-3 1-7 1-11 1-16 4-8 5-9 8-12 9-13", impl.ErrLimit}, {"34443", "0-2 1-17 3-5 4-6 7-9 8-10 11-13 12-14 15-18 16-19", impl.ErrLimit}, {"44444", "2-4 3-5 6-8 7-9 10-12 11-13 14-16 15-17 18-20 19-21", impl.ErrLimit},
		// Beyond the limits, and the supply wired to the lamp.
		{"34443", "0-1 0-2 1-17 3-5 4-6 7-9 8-10 11-13 12-14 15-18 16-19", impl.ErrState}, {"44444", "0-4 1-4 2-4 3-5 6-8 7-9 10-12 11-13 14-16 15-17 18-20 19-21", impl.ErrState},
	} {
		x := sortedWiring(c.signs, wired(c.signs, c.words).Wires)
		got, code := impl.NetworkOfWiring(x)
		wantNetworkError(t, fmt.Sprintf("NetworkOfWiring(%v)", x), got, code, c.want)
	}
}

func TestWiringTexts(t *testing.T) {
	for _, x := range sampleWirings() {
		text := textOfWiring(x)
		got, code := impl.WiringText(x)
		wantText(t, fmt.Sprintf("WiringText(%v)", x), got, code, text)
		back, code := impl.ParseWiring(text)
		wantWiring(t, fmt.Sprintf("ParseWiring(%q)", text), back, code, x)
	}
	for _, c := range []struct {
		x    impl.Wiring
		want string
	}{
		{impl.Wiring{Terminals: 5, Switches: []int64{3}}, "3:"}, {impl.Wiring{Terminals: 6, Switches: []int64{4}}, "4:"}, {impl.Wiring{Terminals: 22, Switches: []int64{4, 4, 4, 4, 4}}, "44444:"}, {impl.Wiring{Terminals: 5, Switches: []int64{3}, Wires: [][]int64{{0, 1}}}, "3:0-1"},
		{impl.Wiring{Terminals: 8, Switches: []int64{3, 3}, Wires: [][]int64{{0, 2}, {1, 5}, {3, 6}, {4, 7}}}, "33:0-2,1-5,3-6,4-7"}, {impl.Wiring{Terminals: 9, Switches: []int64{3, 4}, Wires: [][]int64{{0, 2}, {0, 2}, {7, 8}}}, "34:0-2,0-2,7-8"},
		{impl.Wiring{Terminals: 19, Switches: []int64{4, 3, 3, 4, 3}, Wires: [][]int64{{0, 9}, {0, 10}, {2, 18}, {10, 11}, {17, 18}}}, "43343:0-9,0-10,2-18,10-11,17-18"},
	} {
		got, code := impl.WiringText(c.x)
		wantText(t, fmt.Sprintf("WiringText(%v)", c.x), got, code, c.want)
		back, code := impl.ParseWiring(c.want)
		wantWiring(t, fmt.Sprintf("ParseWiring(%q)", c.want), back, code, c.x)
	}
}

// wiringForm is the form of the texts of wirings, without regard to the terminals that there are.
var wiringForm = regexp.MustCompile(`^[34]{1,5}:([0-9]+-[0-9]+(,[0-9]+-[0-9]+){0,15})?$`)

// textTellsWiring returns the wiring with a text, found by its form and by the list of the words of all
// its wires, in order, and whether there is one.
func textTellsWiring(text string) (impl.Wiring, bool) {
	if !wiringForm.MatchString(text) {
		return impl.Wiring{}, false
	}
	signs, words, _ := strings.Cut(text, ":")
	all := wireWords(wired(signs, "").Terminals)
	before := 0
	for _, word := range strings.FieldsFunc(words, func(sign rune) bool { return sign == ',' }) {
		place := slices.Index(all, word)
		if place < before {
			return impl.Wiring{}, false
		}
		before = place
	}
	return wired(signs, strings.ReplaceAll(words, ",", " ")), true
}

// wantParsedWiring fails unless a text is parsed as the tests do it, and reports whether it has a
// wiring.
func wantParsedWiring(t *testing.T, text string) bool {
	t.Helper()
	want, tells := textTellsWiring(text)
	got, code := impl.ParseWiring(text)
	if tells {
		wantWiring(t, fmt.Sprintf("ParseWiring(%q)", text), got, code, want)
	} else {
		wantWiringError(t, fmt.Sprintf("ParseWiring(%q)", text), got, code, impl.ErrSyntax)
	}
	return tells
}

// TestDamagedWirings damages texts in each place: a sign is left out, twice, or another one.
func TestDamagedWirings(t *testing.T) {
	kinds := map[string]int{}
	texts := append([]string{"3:", "4:", "44444:", "3:0-1", "34:0-2,0-2,7-8", "43343:0-9,0-10,2-18,10-11,17-18", "44444:" + strings.Repeat("20-21,", 15) + "20-21", "3:0-1,0-2,0-3,0-4,1-2,1-3,1-4,2-3,2-4,3-4"}, standardTexts...)
	for _, text := range texts {
		for at := range len(text) + 1 {
			for _, sign := range strings.Split("0 1 2 3 4 5 7 9 a A / - , ; + : . _ \x00 \xff \u0663 \n 00 01 -1 0x", " ") {
				kinds[fmt.Sprint(wantParsedWiring(t, text[:at]+sign+text[at:]))]++
				if at < len(text) {
					kinds[fmt.Sprint(wantParsedWiring(t, text[:at]+sign+text[at+1:]))]++
				}
			}
			wantParsedWiring(t, text[:at])
			wantParsedWiring(t, text[at:])
			wantParsedWiring(t, text[:at]+" "+text[at:])
			if at < len(text) {
				wantParsedWiring(t, text[:at]+text[at+1:])
				wantParsedWiring(t, text[:at]+text[at:at+1]+text[at:])
			}
		}
	}
	wantKinds(t, kinds, "true", "false")
}

// TestShortWiringTexts looks at all short texts of some signs, and at all words behind switches.
func TestShortWiringTexts(t *testing.T) {
	kinds := map[string]int{}
	for _, text := range shortTexts("0134:-,", 5) {
		kinds[fmt.Sprint(wantParsedWiring(t, text))]++
		kinds[fmt.Sprint(wantParsedWiring(t, "3:0-1,"+text))]++
		kinds[fmt.Sprint(wantParsedWiring(t, "44444:1"+text))]++
	}
	wantKinds(t, kinds, "true", "false")
}

func TestNoWiringTexts(t *testing.T) {
	for _, bad := range []string{
		"", ":", "3", "4", "33", "0-1", ":0-1", "3;", "3 :", " 3:", "3: ", "3:\n", "3::", "3:0-1:", "3:3:", "2:", "5:", "0:", "03:", "30:", "3,3:", "3-3:", "333333:", "444444:0-1", "a:", "3a:", "-3:", "+3:", "\x03:", "\u0663:", "\xb3:", "3.:",
		"3:0", "3:01", "3:0-", "3:-1", "3:-", "3:0--1", "3:--", "3:0-1-2", "3:0-1-", "3:-0-1", "3:0:1", "3:0 1", "3:0- 1", "3: 0-1", "3:0-1 ", "3:a-b", "3:0-x1", "3:0x0-1", "3:0-1e0", "3:0-1.0", "3:0-1_", "33:0-1_0",
		"3:00-1", "3:0-01", "3:00-01", "3:0-002", "3:+0-1", "3:0-+1", "3:-0-1", "3:0--0", "3:-1-0", "3:-1-1", "3:\u0660-1",
		"3:1-0", "3:4-3", "3:0-0", "3:4-4", "3:0-5", "3:4-5", "4:0-6", "44444:0-22", "44444:21-22", "33:0-8", "3:0-64", "3:0-4294967297", "3:0-18446744073709551617", "3:0-9223372036854775807", "3:0-9223372036854775808", "3:0-99999999999999999999", "3:9223372036854775807-9223372036854775808", "3:18446744073709551616-1", "3:-9223372036854775808-1",
		"3:,", "3:,0-1", "3:0-1,", "3:0-1,,0-2", "3:,,", "3:0-1,0", "3:0-1;0-2", "3:0-1 0-2", "3:0-1, 0-2", "3:0-2,0-1", "3:0-1,1-0", "3:1-2,0-4", "33:0-2,1-5,4-7,3-6", "3333:0-10,0-9", "3333:10-11,9-11", "3:0-1,0-2,0-1",
		"3:" + strings.Repeat("0-1,", 16) + "0-1", "3:" + strings.Repeat("0-1,", 16), "3:" + strings.Repeat("0-1,", 17) + "0-1", "3:" + strings.Repeat("0-1,", 100000) + "0-1", strings.Repeat("3", 100000) + ":", strings.Repeat(":", 100000), "3:" + strings.Repeat(",", 100000), "3:" + strings.Repeat("0", 100000) + "-1", "3:0-" + strings.Repeat("1", 100000), "3:0" + strings.Repeat("-", 100000),
	} {
		x, code := impl.ParseWiring(bad)
		wantWiringError(t, fmt.Sprintf("ParseWiring(%.40q)", bad), x, code, impl.ErrSyntax)
	}
}

// wiringCalls are the functions that take a wiring, with other arguments that are as told or not, each
// with a report whether its result is the zero value.
var wiringCalls = map[string]func(x impl.Wiring, number int64) (bool, int64){
	"IsLit": func(x impl.Wiring, number int64) (bool, int64) {
		lit, code := impl.IsLit(x, number)
		return !lit, code
	},
	"LiveTerminals": func(x impl.Wiring, number int64) (bool, int64) {
		live, code := impl.LiveTerminals(x, number)
		return len(live) == 0, code
	},
	"TableOfWiring": func(x impl.Wiring, number int64) (bool, int64) {
		table, code := impl.TableOfWiring(x)
		return table == impl.Table{}, code
	},
	"IsFull": func(x impl.Wiring, number int64) (bool, int64) {
		full, code := impl.IsFull(x)
		return !full, code
	},
	"AddWire": func(x impl.Wiring, number int64) (bool, int64) {
		y, code := impl.AddWire(x, 0, number)
		return sameWiring(y, impl.Wiring{}), code
	},
	"AddWire, the other way round": func(x impl.Wiring, number int64) (bool, int64) {
		y, code := impl.AddWire(x, number, 1)
		return sameWiring(y, impl.Wiring{}), code
	},
	"BreakWire": func(x impl.Wiring, number int64) (bool, int64) {
		y, code := impl.BreakWire(x, number)
		return sameWiring(y, impl.Wiring{}), code
	},
	"NeededWires": func(x impl.Wiring, number int64) (bool, int64) {
		wires, code := impl.NeededWires(x)
		return len(wires) == 0, code
	},
	"FaultsThatAgree": func(x impl.Wiring, number int64) (bool, int64) {
		wires, code := impl.FaultsThatAgree(x, [][]int64{{number, 0}})
		return len(wires) == 0, code
	},
	"FaultsThatAgree without sights": func(x impl.Wiring, number int64) (bool, int64) {
		wires, code := impl.FaultsThatAgree(x, nil)
		return len(wires) == 0, code
	},
	"FaultsThatAgree with too many sights": func(x impl.Wiring, number int64) (bool, int64) {
		wires, code := impl.FaultsThatAgree(x, make([][]int64, 33))
		return len(wires) == 0, code
	},
	"BestTest": func(x impl.Wiring, number int64) (bool, int64) {
		test, code := impl.BestTest(x, [][]int64{{number, 0}})
		return test == 0, code
	},
	"BestTest with too many sights": func(x impl.Wiring, number int64) (bool, int64) {
		test, code := impl.BestTest(x, make([][]int64, 33))
		return test == 0, code
	},
	"NetworkOfWiring": func(x impl.Wiring, number int64) (bool, int64) {
		network, code := impl.NetworkOfWiring(x)
		return sameNetwork(network, impl.Network{}), code
	},
	"WiringText": func(x impl.Wiring, number int64) (bool, int64) {
		text, code := impl.WiringText(x)
		return text == "", code
	},
}

// TestNoWirings gives what is no wiring, with all else as it should be or not.
func TestNoWirings(t *testing.T) {
	for _, x := range noWirings() {
		for name, run := range wiringCalls {
			for _, number := range append([]int64{0, 1, 2, 4, 16}, farNumbers...) {
				if zero, code := run(x, number); !zero || code != impl.ErrInvalid {
					t.Errorf("%s with %v, %d: code %d, zero value: %v", name, x, number, code, zero)
				}
			}
		}
	}
}

// TestWiringArgumentsStay checks that no function writes on an argument, or behind its lists.
func TestWiringArgumentsStay(t *testing.T) {
	source := rand.New(rand.NewSource(14))
	for _, x := range append(fewWirings(), noWirings()...) {
		given, unchanged := spareWiring(x)
		impl.IsWiring(given)
		for _, run := range wiringCalls {
			for _, number := range []int64{0, 1, 2, -1} {
				run(given, number)
			}
		}
		if !unchanged() {
			t.Errorf("%v is changed, or what is behind its lists", x)
		}
		if !impl.IsWiring(x) {
			continue
		}
		for _, sights := range append(listsOfSights(source, x), [][]int64{{0, 2}}, [][]int64{{0}, nil}, make([][]int64, 33)) {
			lists, stayed := spareLists(sights)
			impl.FaultsThatAgree(given, lists)
			impl.BestTest(given, lists)
			if !unchanged() || !stayed() {
				t.Errorf("%v or %v is changed, or what is behind them", x, sights)
			}
		}
	}
}

// listsInWiring returns all lists of numbers in a wiring.
func listsInWiring(x impl.Wiring) [][]int64 {
	return append(slices.Clone(x.Wires), x.Switches)
}

// newWirings are the functions that return wirings.
var newWirings = map[string]func(x impl.Wiring) impl.Wiring{
	"StandardWiring": func(x impl.Wiring) impl.Wiring {
		y, _ := impl.StandardWiring(max(2, int64(len(x.Switches))))
		return y
	},
	"AddWire": func(x impl.Wiring) impl.Wiring { y, _ := impl.AddWire(x, 0, 3); return y },
	"AddWire, the last one": func(x impl.Wiring) impl.Wiring {
		y, _ := impl.AddWire(x, x.Terminals-1, x.Terminals-2)
		return y
	},
	"BreakWire": func(x impl.Wiring) impl.Wiring { y, _ := impl.BreakWire(x, 0); return y },
	"BreakWire, the last one": func(x impl.Wiring) impl.Wiring {
		y, _ := impl.BreakWire(x, int64(len(x.Wires))-1)
		return y
	},
	"ParseWiring": func(x impl.Wiring) impl.Wiring { y, _ := impl.ParseWiring(textOfWiring(x)); return y },
}

// TestWiringResultsAreNew writes on results, and looks at what else is there, and asks again.
func TestWiringResultsAreNew(t *testing.T) {
	for name, run := range newWirings {
		for _, x := range []impl.Wiring{standardWith(2), standardWith(4), wired("3", "0-1"), wired("34", "0-2 0-2 0-3 7-8"), wired("4", strings.Repeat("0-1 ", 15))} {
			given, unchanged := spareWiring(x)
			first := run(given)
			want := copyOfWiring(first)
			if !impl.IsWiring(first) {
				t.Fatalf("%s of %v = %v", name, x, first)
			}
			wantApart(t, fmt.Sprintf("%s of %v", name, x), listsInWiring(first))
			for _, list := range listsInWiring(first) {
				scribble(list)
			}
			outer := first.Wires[:cap(first.Wires)]
			for i := range outer {
				outer[i] = nil
			}
			if !unchanged() {
				t.Errorf("%s of %v shares memory with its argument", name, x)
			}
			again := run(given)
			wantWiring(t, fmt.Sprintf("%s of %v once more", name, x), again, impl.ErrNone, want)
		}
	}
}

// TestLightListsAreNew writes on lists of results, and looks at what else is there, and asks again.
func TestLightListsAreNew(t *testing.T) {
	sights := [][]int64{{0, 0}}
	calls := map[string]func(x impl.Wiring, sights [][]int64) [][]int64{
		"LiveTerminals": func(x impl.Wiring, sights [][]int64) [][]int64 {
			list, _ := impl.LiveTerminals(x, 1)
			return [][]int64{list}
		},
		"NeededWires": func(x impl.Wiring, sights [][]int64) [][]int64 {
			list, _ := impl.NeededWires(x)
			return [][]int64{list}
		},
		"FaultsThatAgree": func(x impl.Wiring, sights [][]int64) [][]int64 {
			list, _ := impl.FaultsThatAgree(x, sights)
			return [][]int64{list}
		},
		"NetworkOfWiring": func(x impl.Wiring, sights [][]int64) [][]int64 {
			y, _ := impl.NetworkOfWiring(x)
			return y.Contacts
		},
	}
	for name, run := range calls {
		for _, x := range []impl.Wiring{standardWith(2), standardWith(4), wired("4", "0-2 0-3 1-4 1-5"), wired("3", "0-2 1-4")} {
			given, unchanged := spareWiring(x)
			seen, stayed := spareLists(sights)
			first := run(given, seen)
			want := copyOfLists(first)
			wantApart(t, fmt.Sprintf("%s of %v", name, x), first)
			for i := range first {
				scribble(first[i])
				first[i] = nil
			}
			if !unchanged() || !stayed() {
				t.Errorf("%s of %v shares memory with an argument", name, x)
			}
			if again := run(given, seen); !sameLists(again, want) {
				t.Errorf("%s of %v once more: %v, want %v", name, x, again, want)
			}
		}
	}
}

// TestPromise10 checks the tenth promise by the functions of the chapter alone.
func TestPromise10(t *testing.T) {
	for k := int64(2); k <= 5; k++ {
		x, code := impl.StandardWiring(k)
		full, also := impl.IsFull(x)
		if !impl.IsWiring(x) || code != impl.ErrNone || !full || also != impl.ErrNone || int64(len(x.Switches)) != k {
			t.Errorf("StandardWiring(%d) = %v, %d, IsFull: %v, %d", k, x, code, full, also)
		}
	}
	kinds := map[string]int{}
	for _, x := range sampleWirings() {
		whole, _ := impl.TableOfWiring(x)
		needed, _ := impl.NeededWires(x)
		for i := range int64(len(x.Wires)) {
			broken, code := impl.BreakWire(x, i)
			table, also := impl.TableOfWiring(broken)
			if code != impl.ErrNone || also != impl.ErrNone || !impl.IsWiring(broken) {
				t.Fatalf("BreakWire(%v, %d) = %v, %d, its table: %d", x, i, broken, code, also)
			}
			sum, _ := impl.SumOf(whole, table)
			wantTable(t, fmt.Sprintf("the lights of %v with the wire %d and without it", x, i), sum, impl.ErrNone, whole)
			if slices.Contains(needed, i) != (table != whole) {
				t.Errorf("NeededWires(%v) = %v, but without %d the table is %v", x, needed, i, table)
			}
			for positions := range int64(1) << len(x.Switches) {
				lit, _ := impl.IsLit(x, positions)
				still, _ := impl.IsLit(broken, positions)
				if still && !lit {
					t.Errorf("without its wire %d, %v is lit in %d", i, x, positions)
				}
				kinds[fmt.Sprintf("lit %v, then %v", lit, still)]++
			}
		}
	}
	wantKinds(t, kinds, "lit true, then true", "lit true, then false", "lit false, then false")
}

// TestFaultsAreFound checks that the fault of a wire that is broken always agrees with what is seen,
// and that best tests go on to leave just faults with the same table.
func TestFaultsAreFound(t *testing.T) {
	for _, x := range sparseWirings(31) {
		for i := range int64(len(x.Wires)) {
			broken, _ := impl.BreakWire(x, i)
			table, _ := impl.TableOfWiring(broken)
			var sights [][]int64
			for range 1 << len(x.Switches) {
				positions, code := impl.BestTest(x, sights)
				if code != impl.ErrNone || positions < 0 || positions >= 1<<len(x.Switches) {
					t.Fatalf("BestTest(%v, %v) = %d, %d", x, sights, positions, code)
				}
				sights = append(sights, sightsOf(table, positions)...)
				faults, code := impl.FaultsThatAgree(x, sights)
				if code != impl.ErrNone || !slices.Contains(faults, i) {
					t.Fatalf("FaultsThatAgree(%v, %v) = %v, %d, but the wire %d is broken", x, sights, faults, code, i)
				}
			}
			faults, _ := impl.FaultsThatAgree(x, sights)
			for _, other := range faults {
				also, _ := impl.BreakWire(x, other)
				alike, code := impl.TableOfWiring(also)
				wantTable(t, fmt.Sprintf("the table of %v without its wire %d, that agrees with %d", x, other, i), alike, code, table)
			}
		}
	}
}

// TestPromise14 checks the fourteenth promise by the functions of the chapters alone.
func TestPromise14(t *testing.T) {
	kinds := map[string]int{}
	source := rand.New(rand.NewSource(15))
	samples := sampleWirings()
	for range 40 {
		for _, signs := range []string{"3", "34", "43", "343", "444", "3343", "44344"} {
			samples = append(samples, bunchedWires(source, signs, 3+source.Intn(5), source.Intn(5)))
		}
	}
	for _, x := range samples {
		network, code := impl.NetworkOfWiring(x)
		if code != impl.ErrNone {
			kinds["no network"]++
			continue
		}
		n := int64(len(x.Switches))
		table, also := impl.TableOfWiring(x)
		between, code := impl.TableBetween(network, n, 0, 1)
		wantTable(t, fmt.Sprintf("the table between the ends of NetworkOfWiring(%v)", x), between, code, table)
		kinds[fmt.Sprintf("%d switches", n)]++
		if ones := onesIn(valuesOf(table)); also == impl.ErrNone && ones > 0 && ones < 1<<n {
			kinds["lit in some positions"]++
		}
	}
	wantKinds(t, kinds, "no network", "1 switches", "2 switches", "3 switches", "4 switches", "5 switches", "lit in some positions")
}

// TestWiringsComeBack checks that wirings come back from their texts, by the functions of the chapter
// alone.
func TestWiringsComeBack(t *testing.T) {
	for _, x := range sampleWirings() {
		text, code := impl.WiringText(x)
		back, also := impl.ParseWiring(text)
		if code != impl.ErrNone {
			t.Errorf("WiringText(%v): code %d", x, code)
		}
		wantWiring(t, fmt.Sprintf("ParseWiring(%q)", text), back, also, x)
	}
}
