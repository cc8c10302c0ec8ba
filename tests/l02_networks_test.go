package tests

import (
	"fmt"
	"slices"
	"strings"
	"testing"

	"loop.example/g01392/impl"
)

// net returns the network with so many points and with contacts told as their signs are in texts,
// such as 02a, in the order in which they are told.
func net(points int64, words ...string) impl.Network {
	x := impl.Network{Points: points}
	for _, word := range words {
		x.Contacts = append(x.Contacts, contactOfWord(word))
	}
	return x
}

// contactOfWord returns the contact that three signs tell.
func contactOfWord(word string) []int64 {
	place := int64(strings.IndexByte("aAbBcCdDeE", word[2]))
	return []int64{int64(word[0]) - 48, int64(word[1]) - 48, place / 2, place % 2}
}

// wordsOfNetwork returns the text of a network.
func wordsOfNetwork(x impl.Network) string {
	var words []string
	for _, c := range x.Contacts {
		words = append(words, fmt.Sprintf("%d%d%c", c[0], c[1], "aAbBcCdDeE"[2*c[2]+c[3]]))
	}
	return fmt.Sprintf("%d:%s", x.Points, strings.Join(words, ","))
}

// fullNetwork returns a network at both limits.
func fullNetwork() impl.Network {
	return net(8, "02a", "03B", "04c", "16D", "17e", "25A", "27b", "34C", "36d", "45E", "57a", "67b")
}

// bridge is the network in which two lines have a contact between their middles.
func bridge() impl.Network {
	return net(4, "02a", "03b", "12c", "13d", "23e")
}

// rowsToLookAt are the rows of MaxInputs inputs.
func rowsToLookAt() []int64 {
	var rows []int64
	for row := range int64(32) {
		rows = append(rows, row)
	}
	return rows
}

func TestNetworkLimits(t *testing.T) {
	var asByte byte = impl.MaxPoints
	var asFloat float64 = impl.MaxContacts
	if asByte != 8 || asFloat != 12 {
		t.Errorf("MaxPoints %d, MaxContacts %v", asByte, asFloat)
	}
}

func TestIsNetwork(t *testing.T) {
	good := append(sampleNetworks(), net(2), net(8), fullNetwork(), bridge(), net(2, "01a", "01a"), net(2, "01a", "01A", "01b", "01e", "01E"), net(8, "67E"))
	good = append(good, impl.Network{Points: 2, Contacts: slices.Repeat([][]int64{{0, 1, 0, 0}}, 12)}, impl.Network{Points: 2, Contacts: [][]int64{}})
	for _, x := range good {
		if !impl.IsNetwork(x) {
			t.Errorf("IsNetwork(%v) = false", x)
		}
	}
	for _, x := range noNetworks {
		if impl.IsNetwork(x) {
			t.Errorf("IsNetwork(%v) = true", x)
		}
	}
	for _, far := range farNumbers {
		if impl.IsNetwork(impl.Network{Points: far}) {
			t.Errorf("IsNetwork with %d points = true", far)
		}
	}
	// A network at its limits with one number beyond every range in each place in turn.
	for i := range fullNetwork().Contacts {
		for place := range 4 {
			for _, far := range farNumbers {
				x := fullNetwork()
				x.Contacts[i][place] = far
				if impl.IsNetwork(x) {
					t.Errorf("IsNetwork(%v) = true", x)
				}
			}
		}
	}
}

// TestOrderOfContacts looks at all pairs of contacts that differ a little.
func TestOrderOfContacts(t *testing.T) {
	words := []string{"01a", "01A", "01b", "01B", "01e", "02a", "02A", "03a", "12a", "12B", "13a", "23A", "23e"}
	for i, first := range words {
		for j, second := range words {
			x := net(4, first, second)
			if got := impl.IsNetwork(x); got != (i <= j) {
				t.Errorf("IsNetwork(%v) = %v", x, got)
			}
		}
	}
}

// isClosed reports whether a contact is closed in a row.
func isClosed(c []int64, row int64) bool {
	value := digitsOf(row, 5)[c[2]]
	return c[3] == 0 && value == 1 || c[3] == 1 && value == 0
}

// closedWith returns the numbers of the contacts that are closed in a row.
func closedWith(x impl.Network, row int64) []int64 {
	var closed []int64
	for i, c := range x.Contacts {
		if isClosed(c, row) {
			closed = append(closed, int64(i))
		}
	}
	return closed
}

func TestClosedContacts(t *testing.T) {
	for _, x := range append(sampleNetworks(), net(2), net(8), fullNetwork()) {
		for _, row := range rowsToLookAt() {
			got, code := impl.ClosedContacts(x, row)
			wantList(t, fmt.Sprintf("ClosedContacts(%v, %d)", x, row), got, code, closedWith(x, row))
		}
		for _, row := range farNumbers {
			got, code := impl.ClosedContacts(x, row)
			wantListError(t, fmt.Sprintf("ClosedContacts(%v, %d)", x, row), got, code, impl.ErrRange)
		}
	}
	x := net(3, "01B", "02a", "12b", "12b", "12E")
	for row, want := range map[int64][]int64{0: {0, 4}, 1: {0, 1, 4}, 2: {2, 3, 4}, 3: {1, 2, 3, 4}, 4: {0, 4}, 16: {0}, 31: {1, 2, 3}} {
		got, code := impl.ClosedContacts(x, row)
		wantList(t, fmt.Sprintf("ClosedContacts(%v, %d)", x, row), got, code, want)
	}
}

// joinedPairs returns for each two points whether they are joined by contacts with these numbers.
func joinedPairs(x impl.Network, closed []int64) [8][8]bool {
	var joined [8][8]bool
	for p := range joined {
		joined[p][p] = true
	}
	for _, i := range closed {
		c := x.Contacts[i]
		joined[c[0]][c[1]], joined[c[1]][c[0]] = true, true
	}
	for m := range joined {
		for p := range joined {
			for q := range joined {
				joined[p][q] = joined[p][q] || joined[p][m] && joined[m][q]
			}
		}
	}
	return joined
}

func TestPointsWith(t *testing.T) {
	for _, x := range append(sampleNetworks(), net(2), net(8), fullNetwork()) {
		for _, row := range rowsToLookAt() {
			joined := joinedPairs(x, closedWith(x, row))
			for p := range x.Points {
				var want []int64
				for q := range x.Points {
					if joined[p][q] {
						want = append(want, q)
					}
				}
				got, code := impl.PointsWith(x, row, p)
				wantList(t, fmt.Sprintf("PointsWith(%v, %d, %d)", x, row, p), got, code, want)
			}
		}
		for _, bad := range append([]int64{x.Points, x.Points + 1}, farNumbers...) {
			got, code := impl.PointsWith(x, 0, bad)
			wantListError(t, fmt.Sprintf("PointsWith(%v, 0, %d)", x, bad), got, code, impl.ErrRange)
		}
		for _, bad := range farNumbers {
			got, code := impl.PointsWith(x, bad, 0)
			wantListError(t, fmt.Sprintf("PointsWith(%v, %d, 0)", x, bad), got, code, impl.ErrRange)
		}
	}
	// A line whose contacts stand in the opposite order: the ways lead over them backwards.
	line := net(8, "06a", "17a", "23a", "24a", "35a", "46a", "57a")
	got, code := impl.PointsWith(line, 31, 1)
	wantList(t, "PointsWith at the end of a line", got, code, []int64{0, 1, 2, 3, 4, 5, 6, 7})
	got, code = impl.PointsWith(line, 0, 7)
	wantList(t, "PointsWith a point that nothing joins", got, code, []int64{7})
}

// tableBetweenWith returns the table between two points, found by its rows.
func tableBetweenWith(x impl.Network, n int64, p int64, q int64) impl.Table {
	return tableWith(n, func(row []int64) int64 {
		if joinedPairs(x, closedWith(x, numberOf(row)))[p][q] {
			return 1
		}
		return 0
	})
}

// leastInputs returns the least number of inputs that is more than all inputs of contacts.
func leastInputs(x impl.Network) int64 {
	n := int64(1)
	for _, c := range x.Contacts {
		n = max(n, c[2]+1)
	}
	return n
}

func TestTableBetween(t *testing.T) {
	for at, x := range append(sampleNetworks(), net(2), net(8), fullNetwork(), bridge()) {
		for n := int64(1); n <= 5; n++ {
			for p := range x.Points {
				for q := range x.Points {
					call := fmt.Sprintf("TableBetween(%v, %d, %d, %d)", x, n, p, q)
					got, code := impl.TableBetween(x, n, p, q)
					if n < leastInputs(x) {
						wantTableError(t, call, got, code, impl.ErrRange)
					} else if n < 5 || (at+int(p)+int(q))%5 == 0 {
						wantTable(t, call, got, code, tableBetweenWith(x, n, p, q))
					}
				}
			}
		}
	}
}

func TestTableBetweenByHand(t *testing.T) {
	cases := []struct {
		x    impl.Network
		n    int64
		p, q int64
		want string
	}{
		{net(3, "02a", "12b"), 2, 0, 1, "2:0001"}, // the example of the document
		{net(3, "02a", "12b"), 2, 1, 0, "2:0001"},
		{net(3, "02a", "12b"), 2, 0, 2, "2:0101"},
		{net(3, "02a", "12b"), 2, 2, 1, "2:0011"},
		{net(3, "02a", "12b"), 2, 2, 2, "2:1111"},
		{net(3, "02a", "12b"), 3, 0, 1, "3:00010001"},
		{net(2), 1, 0, 1, "1:00"},
		{net(2), 1, 1, 1, "1:11"},
		{net(8), 2, 6, 7, "2:0000"},
		{net(2, "01a"), 1, 0, 1, "1:01"},
		{net(2, "01A"), 1, 0, 1, "1:10"},
		{net(2, "01a", "01A"), 1, 0, 1, "1:11"},
		{net(3, "02a", "12A"), 1, 0, 1, "1:00"},
		{net(3, "01B", "02a", "12b"), 2, 0, 1, "2:1101"},
		{net(4, "02a", "03b", "12b", "13c", "23c"), 3, 0, 1, "3:00010111"},
		{net(2, "01e"), 5, 0, 1, "5:" + strings.Repeat("0", 16) + strings.Repeat("1", 16)},
		{net(2, "01E"), 5, 0, 1, "5:" + strings.Repeat("1", 16) + strings.Repeat("0", 16)},
	}
	for _, c := range cases {
		got, code := impl.TableBetween(c.x, c.n, c.p, c.q)
		if text, _ := impl.TableText(got); text != c.want || code != impl.ErrNone {
			t.Errorf("TableBetween(%v, %d, %d, %d) = %q, %d, want %q, 0", c.x, c.n, c.p, c.q, text, code, c.want)
		}
	}
}

func TestTableBetweenErrors(t *testing.T) {
	for _, x := range []impl.Network{net(2), net(2, "01a"), bridge(), net(8), fullNetwork()} {
		for _, n := range append([]int64{0, 6}, farNumbers...) {
			got, code := impl.TableBetween(x, n, 0, 1)
			wantTableError(t, fmt.Sprintf("TableBetween(%v, %d, 0, 1)", x, n), got, code, impl.ErrRange)
		}
		for _, p := range append([]int64{x.Points, x.Points + 1}, farNumbers...) {
			got, code := impl.TableBetween(x, 5, p, 0)
			wantTableError(t, fmt.Sprintf("TableBetween(%v, 5, %d, 0)", x, p), got, code, impl.ErrRange)
			got, code = impl.TableBetween(x, 5, 0, p)
			wantTableError(t, fmt.Sprintf("TableBetween(%v, 5, 0, %d)", x, p), got, code, impl.ErrRange)
			got, code = impl.TableBetween(x, 5, p, p)
			wantTableError(t, fmt.Sprintf("TableBetween(%v, 5, %d, %d)", x, p, p), got, code, impl.ErrRange)
		}
	}
	// The input that counts is the greatest one, wherever its contact stands, and if it is idle.
	for _, x := range []impl.Network{net(2, "01d"), net(3, "01a", "02D", "12a"), net(4, "01a", "23d"), net(3, "01D", "02a")} {
		for n := int64(1); n <= 5; n++ {
			if _, code := impl.TableBetween(x, n, 0, 0); (code == impl.ErrNone) != (n >= 4) {
				t.Errorf("TableBetween(%v, %d, 0, 0): code %d", x, n, code)
			}
		}
	}
}

// pathsWith returns the paths of a network, found by going on from point to point.
func pathsWith(x impl.Network) [][]int64 {
	var paths [][]int64
	var goOn func(p int64, met []int64, way []int64)
	goOn = func(p int64, met []int64, way []int64) {
		if p == 1 {
			paths = append(paths, slices.Sorted(slices.Values(way)))
			return
		}
		for i, c := range x.Contacts {
			next := c[0] + c[1] - p
			if (c[0] == p || c[1] == p) && !slices.Contains(met, next) {
				goOn(next, append(slices.Clone(met), next), append(slices.Clone(way), int64(i)))
			}
		}
	}
	goOn(0, []int64{0}, nil)
	slices.SortFunc(paths, slices.Compare)
	return paths
}

// numberOfSet returns the number that has the digits 1 at the places in a list.
func numberOfSet(list []int64) int64 {
	set := int64(0)
	for _, i := range list {
		set += 1 << i
	}
	return set
}

// cutsWith returns the cuts of a network, found as the least sets that meet all its paths.
func cutsWith(x impl.Network) [][]int64 {
	var paths []int64
	for _, path := range pathsWith(x) {
		paths = append(paths, numberOfSet(path))
	}
	var cuts [][]int64
	var least []int64
	// The parts of a set are lesser numbers, so that they come ahead of it.
	for set := range int64(1) << len(x.Contacts) {
		missesOne := slices.ContainsFunc(paths, func(path int64) bool { return path&set == 0 })
		hasLess := slices.ContainsFunc(least, func(part int64) bool { return part&set == part })
		if missesOne || hasLess {
			continue
		}
		least = append(least, set)
		cut := []int64{}
		for i, digit := range digitsOf(set, int64(len(x.Contacts))) {
			if digit == 1 {
				cut = append(cut, int64(i))
			}
		}
		cuts = append(cuts, cut)
	}
	slices.SortFunc(cuts, slices.Compare)
	return cuts
}

func TestPathsAndCuts(t *testing.T) {
	for _, x := range append(sampleNetworks(), net(2), net(8), fullNetwork()) {
		paths, code := impl.PathsOf(x)
		wantLists(t, fmt.Sprintf("PathsOf(%v)", x), paths, code, pathsWith(x))
		cuts, code := impl.CutsOf(x)
		wantLists(t, fmt.Sprintf("CutsOf(%v)", x), cuts, code, cutsWith(x))
	}
}

// pathsByHand are networks whose paths, cuts and idle contacts were found without a program.
var pathsByHand = []struct {
	x     impl.Network
	paths [][]int64
	cuts  [][]int64
	idle  []int64
}{
	{net(2), nil, [][]int64{{}}, nil},
	{net(8), nil, [][]int64{{}}, nil},
	{net(3, "02a"), nil, [][]int64{{}}, []int64{0}},
	{net(4, "02a", "02a", "13b"), nil, [][]int64{{}}, []int64{0, 1, 2}},
	{net(4, "23a"), nil, [][]int64{{}}, []int64{0}},
	{net(2, "01a"), [][]int64{{0}}, [][]int64{{0}}, nil},
	{net(2, "01a", "01a"), [][]int64{{0}, {1}}, [][]int64{{0, 1}}, nil},
	{net(3, "02a", "12A"), [][]int64{{0, 1}}, [][]int64{{0}, {1}}, nil},
	{net(3, "02a", "02a", "12b"), [][]int64{{0, 2}, {1, 2}}, [][]int64{{0, 1}, {2}}, nil},
	{net(3, "01B", "02a", "12b"), [][]int64{{0}, {1, 2}}, [][]int64{{0, 1}, {0, 2}}, nil},
	{bridge(), [][]int64{{0, 2}, {0, 3, 4}, {1, 2, 4}, {1, 3}}, [][]int64{{0, 1}, {0, 3, 4}, {1, 2, 4}, {2, 3}}, nil},
	// A contact behind one of the ends, a ring on a point of the path, and one apart from all.
	{net(3, "01a", "12b"), [][]int64{{0}}, [][]int64{{0}}, []int64{1}},
	{net(5, "02a", "12b", "23c", "24c", "34c"), [][]int64{{0, 1}}, [][]int64{{0}, {1}}, []int64{2, 3, 4}},
	{net(5, "01a", "02a", "03a", "23a", "24b"), [][]int64{{0}}, [][]int64{{0}}, []int64{1, 2, 3, 4}},
	{net(6, "01a", "23a", "24a", "34a", "45a"), [][]int64{{0}}, [][]int64{{0}}, []int64{1, 2, 3, 4}},
	// Of contacts between the same points, all are idle or none; others of their input are not.
	{net(4, "02a", "12a", "23a", "23a", "23B"), [][]int64{{0, 1}}, [][]int64{{0}, {1}}, []int64{2, 3, 4}},
	{net(3, "02a", "02a", "12b", "12b"), [][]int64{{0, 2}, {0, 3}, {1, 2}, {1, 3}}, [][]int64{{0, 1}, {2, 3}}, nil},
	{net(8, "02a", "13b", "24c", "35d", "46e", "57A", "67B"), [][]int64{{0, 1, 2, 3, 4, 5, 6}}, [][]int64{{0}, {1}, {2}, {3}, {4}, {5}, {6}}, nil},
}

func TestPathsByHand(t *testing.T) {
	for _, c := range pathsByHand {
		paths, code := impl.PathsOf(c.x)
		wantLists(t, fmt.Sprintf("PathsOf(%v)", c.x), paths, code, c.paths)
		cuts, code := impl.CutsOf(c.x)
		wantLists(t, fmt.Sprintf("CutsOf(%v)", c.x), cuts, code, c.cuts)
		idle, code := impl.IdleContacts(c.x)
		wantList(t, fmt.Sprintf("IdleContacts(%v)", c.x), idle, code, c.idle)
	}
}

// idleWith returns the numbers of the idle contacts, found by the paths.
func idleWith(x impl.Network) []int64 {
	used := slices.Concat(pathsWith(x)...)
	var idle []int64
	for i := range x.Contacts {
		if !slices.Contains(used, int64(i)) {
			idle = append(idle, int64(i))
		}
	}
	return idle
}

// withoutContacts returns a network without the contacts with these numbers.
func withoutContacts(x impl.Network, numbers []int64) impl.Network {
	y := impl.Network{Points: x.Points}
	for i, c := range x.Contacts {
		if !slices.Contains(numbers, int64(i)) {
			y.Contacts = append(y.Contacts, slices.Clone(c))
		}
	}
	return y
}

func TestIdleContacts(t *testing.T) {
	samples := append(sampleNetworks(), net(2), net(8), fullNetwork())
	for _, c := range pathsByHand {
		samples = append(samples, c.x)
	}
	for _, x := range samples {
		idle, code := impl.IdleContacts(x)
		wantList(t, fmt.Sprintf("IdleContacts(%v)", x), idle, code, idleWith(x))
		y, code := impl.WithoutIdle(x)
		wantNetwork(t, fmt.Sprintf("WithoutIdle(%v)", x), y, code, withoutContacts(x, idleWith(x)))
		z, code := impl.WithoutIdle(y)
		wantNetwork(t, fmt.Sprintf("WithoutIdle(%v) once more", y), z, code, y)
		before, _ := impl.TableBetween(x, 5, 0, 1)
		after, code := impl.TableBetween(y, 5, 0, 1)
		wantTable(t, fmt.Sprintf("the table of %v without idle contacts", x), after, code, before)
	}
}

func TestLoadsOf(t *testing.T) {
	for _, x := range append(sampleNetworks(), net(2), net(8), fullNetwork()) {
		want := make([]int64, 5)
		for i := range want {
			for _, c := range x.Contacts {
				if c[2] == int64(i) {
					want[i]++
				}
			}
		}
		got, code := impl.LoadsOf(x)
		wantList(t, fmt.Sprintf("LoadsOf(%v)", x), got, code, want)
	}
	got, code := impl.LoadsOf(net(2))
	wantList(t, "LoadsOf without contacts", got, code, []int64{0, 0, 0, 0, 0})
	got, code = impl.LoadsOf(net(3, "01a", "01a", "01A", "02c", "12E"))
	wantList(t, "LoadsOf", got, code, []int64{3, 0, 1, 0, 1})
}

// renumberWith returns the contacts of a network with other points, each with the lesser one first.
func renumberWith(x impl.Network, number func(p int64) int64) [][]int64 {
	var contacts [][]int64
	for _, c := range x.Contacts {
		points := []int64{number(c[0]), number(c[1])}
		slices.Sort(points)
		contacts = append(contacts, append(points, c[2], c[3]))
	}
	return contacts
}

// sortedNetwork returns the network with so many points and with these contacts in order.
func sortedNetwork(points int64, contacts [][]int64) impl.Network {
	slices.SortFunc(contacts, slices.Compare)
	return impl.Network{Points: points, Contacts: contacts}
}

// sideBySideWith returns both networks side by side, and whether they are within the limits.
func sideBySideWith(x impl.Network, y impl.Network) (impl.Network, bool) {
	contacts := copyOfLists(x.Contacts)
	contacts = append(contacts, renumberWith(y, func(p int64) int64 {
		if p <= 1 {
			return p
		}
		return x.Points + p - 2
	})...)
	z := sortedNetwork(x.Points+y.Points-2, contacts)
	return z, z.Points <= 8 && len(contacts) <= 12
}

// oneBehindWith returns y behind x, and whether this is within the limits.
func oneBehindWith(x impl.Network, y impl.Network) (impl.Network, bool) {
	contacts := renumberWith(x, func(p int64) int64 { return []int64{0, 2, 3, 4, 5, 6, 7, 8}[p] })
	contacts = append(contacts, renumberWith(y, func(p int64) int64 {
		switch p {
		case 0:
			return 2
		case 1:
			return 1
		}
		return p + x.Points - 1
	})...)
	z := sortedNetwork(x.Points+y.Points-1, contacts)
	return z, z.Points <= 8 && len(contacts) <= 12
}

// joinFunctions are the functions of two networks, with the table that the ends then have.
var joinFunctions = []struct {
	name  string
	run   func(x impl.Network, y impl.Network) (impl.Network, int64)
	want  func(x impl.Network, y impl.Network) (impl.Network, bool)
	table func(t impl.Table, u impl.Table) (impl.Table, int64)
}{
	{"SideBySide", impl.SideBySide, sideBySideWith, impl.SumOf},
	{"OneBehind", impl.OneBehind, oneBehindWith, impl.ProductOf},
}

func TestTwoNetworks(t *testing.T) {
	samples := append(sampleNetworks(), net(2), net(8), fullNetwork(), bridge())
	for _, f := range joinFunctions {
		good, bad := 0, 0
		for i := range samples {
			for j := i % 3; j < len(samples); j += 3 {
				x, y := samples[i], samples[j]
				call := fmt.Sprintf("%s(%v, %v)", f.name, x, y)
				got, code := f.run(x, y)
				want, within := f.want(x, y)
				if !within {
					bad++
					wantNetworkError(t, call, got, code, impl.ErrLimit)
					continue
				}
				good++
				wantNetwork(t, call, got, code, want)
				a, _ := impl.TableBetween(x, 5, 0, 1)
				b, _ := impl.TableBetween(y, 5, 0, 1)
				joined, _ := f.table(a, b)
				table, code := impl.TableBetween(got, 5, 0, 1)
				wantTable(t, "the table of "+call, table, code, joined)
			}
		}
		if good < 1000 || bad < 1000 {
			t.Errorf("%s: %d pairs within the limits, %d beyond", f.name, good, bad)
		}
	}
}

func TestTwoNetworksByHand(t *testing.T) {
	cases := []struct {
		x, y         impl.Network
		side, behind string
	}{
		{net(2), net(2), "2:", "3:"},
		{net(2, "01a"), net(2, "01a"), "2:01a,01a", "3:02a,12a"},
		{net(2, "01b"), net(2, "01A"), "2:01A,01b", "3:02b,12A"},
		{net(3, "02a", "12b"), net(3, "02c", "12d"), "4:02a,03c,12b,13d", "5:03a,14d,23b,24c"},
		{net(4, "03a", "12b", "23c"), net(3, "01D", "02e", "12A"), "5:01D,03a,04e,12b,14A,23c", "6:04a,12D,15A,23b,25e,34c"},
		{net(2, "01a"), net(4, "23b"), "4:01a,23b", "5:02a,34b"},
		{net(4, "23b"), net(2, "01a"), "4:01a,23b", "5:12a,34b"},
	}
	for _, c := range cases {
		got, code := impl.SideBySide(c.x, c.y)
		if wordsOfNetwork(got) != c.side || code != impl.ErrNone {
			t.Errorf("SideBySide(%v, %v) = %v, %d, want %s", c.x, c.y, got, code, c.side)
		}
		got, code = impl.OneBehind(c.x, c.y)
		if wordsOfNetwork(got) != c.behind || code != impl.ErrNone {
			t.Errorf("OneBehind(%v, %v) = %v, %d, want %s", c.x, c.y, got, code, c.behind)
		}
	}
}

// TestTwoNetworksAtLimits looks at all numbers of points and contacts about the limits.
func TestTwoNetworksAtLimits(t *testing.T) {
	many := func(points int64, count int) impl.Network {
		return impl.Network{Points: points, Contacts: slices.Repeat([][]int64{{0, 1, 0, 0}}, count)}
	}
	for points := int64(2); points <= 8; points++ {
		for others := int64(2); others <= 8; others++ {
			for _, counts := range [][2]int{{0, 0}, {12, 0}, {0, 12}, {6, 6}, {12, 1}, {1, 12}, {7, 6}, {12, 12}} {
				x, y := many(points, counts[0]), many(others, counts[1])
				for _, f := range joinFunctions {
					call := fmt.Sprintf("%s(%v, %v)", f.name, x, y)
					got, code := f.run(x, y)
					want, within := f.want(x, y)
					if within {
						wantNetwork(t, call, got, code, want)
					} else {
						wantNetworkError(t, call, got, code, impl.ErrLimit)
					}
				}
			}
		}
	}
	z, code := impl.SideBySide(fullNetwork(), fullNetwork())
	wantNetworkError(t, "SideBySide at the limits", z, code, impl.ErrLimit)
	z, code = impl.OneBehind(fullNetwork(), fullNetwork())
	wantNetworkError(t, "OneBehind at the limits", z, code, impl.ErrLimit)
	z, code = impl.SideBySide(fullNetwork(), net(2))
	wantNetwork(t, "SideBySide of a network at the limits and an empty one", z, code, fullNetwork())
}

func TestExchangeEnds(t *testing.T) {
	for _, x := range append(sampleNetworks(), net(2), net(8), fullNetwork()) {
		want := sortedNetwork(x.Points, renumberWith(x, func(p int64) int64 { return []int64{1, 0, 2, 3, 4, 5, 6, 7}[p] }))
		y, code := impl.ExchangeEnds(x)
		wantNetwork(t, fmt.Sprintf("ExchangeEnds(%v)", x), y, code, want)
		z, code := impl.ExchangeEnds(y)
		wantNetwork(t, fmt.Sprintf("ExchangeEnds(%v)", y), z, code, x)
		before, _ := impl.TableBetween(x, 5, 0, 1)
		after, code := impl.TableBetween(y, 5, 0, 1)
		wantTable(t, fmt.Sprintf("the table of %v with its ends exchanged", x), after, code, before)
	}
	for text, want := range map[string]string{
		"2:":                "2:",
		"2:01a,01a,01B":     "2:01a,01a,01B",
		"3:01B,02a,12b":     "3:01B,02b,12a",
		"3:02a":             "3:12a",
		"4:02c,03a,12b,23d": "4:02b,12c,13a,23d",
		"5:02a,02a,12a,34e": "5:02a,12a,12a,34e",
		"8:07a,16B,17b,25c": "8:06B,07b,17a,25c",
		"8:":                "8:",
	} {
		x, _ := impl.ParseNetwork(text)
		y, code := impl.ExchangeEnds(x)
		if wordsOfNetwork(y) != want || code != impl.ErrNone {
			t.Errorf("ExchangeEnds(%s) = %s, %d, want %s", text, wordsOfNetwork(y), code, want)
		}
	}
}

func TestNetworkText(t *testing.T) {
	for _, x := range append(sampleNetworks(), net(2), net(8), fullNetwork()) {
		text, code := impl.NetworkText(x)
		if text != wordsOfNetwork(x) || code != impl.ErrNone {
			t.Errorf("NetworkText(%v) = %q, %d, want %q, 0", x, text, code, wordsOfNetwork(x))
		}
		y, code := impl.ParseNetwork(wordsOfNetwork(x))
		wantNetwork(t, fmt.Sprintf("ParseNetwork(%q)", wordsOfNetwork(x)), y, code, x)
	}
	for text, x := range map[string]impl.Network{
		"2:":                                 {Points: 2},
		"8:":                                 {Points: 8},
		"2:01a":                              {Points: 2, Contacts: [][]int64{{0, 1, 0, 0}}},
		"2:01a,01a,01A":                      {Points: 2, Contacts: [][]int64{{0, 1, 0, 0}, {0, 1, 0, 0}, {0, 1, 0, 1}}},
		"3:01B,02a,12b":                      {Points: 3, Contacts: [][]int64{{0, 1, 1, 1}, {0, 2, 0, 0}, {1, 2, 1, 0}}},
		"8:17d,27E,67e":                      {Points: 8, Contacts: [][]int64{{1, 7, 3, 0}, {2, 7, 4, 1}, {6, 7, 4, 0}}},
		"2:01a" + strings.Repeat(",01a", 11): {Points: 2, Contacts: slices.Repeat([][]int64{{0, 1, 0, 0}}, 12)},
	} {
		if got, code := impl.NetworkText(x); got != text || code != impl.ErrNone {
			t.Errorf("NetworkText(%v) = %q, %d, want %q, 0", x, got, code, text)
		}
		y, code := impl.ParseNetwork(text)
		wantNetwork(t, fmt.Sprintf("ParseNetwork(%q)", text), y, code, x)
	}
}

func TestParseNetworkErrors(t *testing.T) {
	bad := []string{
		"", ":", "2", "23", ":2", "2;", "0:", "1:", "9:", "02:", "08:01a", "+2:", "-2:", " 2:", "2 :", "2: ", "2:\n", "10:", "12:01a", "2::", "2:,", "a:", "\x00:", "\xff:", "٢:", "2:01",
		"2:0a", "2:01a,", "2:,01a", "2:01a,,01a", "2:01a01a", "2:01a;01a", "2:01a, 01a", "2:01a ,01a", "2:01a 01a", "2:01a\n", "2:01a:", "2:01aa", "2:001a", "2:0001a", "2:1a", "2:0,1,a",
		"2:01f", "2:01F", "2:01z", "2:01`", "2:01@", "2:01_", "2:01[", "2:010", "2:01\x00", "2:01\xe1", "2:01á", "2:10a", "2:00a", "2:11a", "2:02a", "2:12a", "2:0-1a", "2:-11a", "2:ab1", "2:a01", "2:0/a", "2:0:a", "8:08a", "8:78a", "8:0;a", "8:/1a",
		"2:01A,01a", "2:01b,01a", "3:02a,01a", "3:12a,02a", "3:12b,12A", "4:01a,23a,12a", "01:01a", "2:01a,02a", "2.01a", "201a", "2:01a" + strings.Repeat(",01a", 12), "2:01a" + strings.Repeat(",01a", 5000), "2:" + strings.Repeat(",", 5000), strings.Repeat("2:", 5000),
	}
	for _, text := range bad {
		x, code := impl.ParseNetwork(text)
		wantNetworkError(t, fmt.Sprintf("ParseNetwork(%q)", text), x, code, impl.ErrSyntax)
	}
}

// textTellsNetwork returns the network with a text, found by comparing it with all texts of
// contacts, and whether there is one.
func textTellsNetwork(text string) (impl.Network, bool) {
	for points := int64(2); points <= 8; points++ {
		words, found := strings.CutPrefix(text, fmt.Sprintf("%d:", points))
		if !found {
			continue
		}
		x := impl.Network{Points: points}
		if words == "" {
			return x, true
		}
		last := 0
		for _, word := range strings.Split(words, ",") {
			at := slices.Index(wordsOfContacts(points), word)
			if at < last {
				return impl.Network{}, false
			}
			last = at
			x.Contacts = append(x.Contacts, contactOfWord(word))
		}
		return x, len(x.Contacts) <= 12
	}
	return impl.Network{}, false
}

// wordsOfContacts returns the signs of all contacts of a network with so many points, in order.
func wordsOfContacts(points int64) []string {
	var words []string
	for p := range points {
		for q := p + 1; q < points; q++ {
			for _, letter := range "aAbBcCdDeE" {
				words = append(words, fmt.Sprintf("%d%d%c", p, q, letter))
			}
		}
	}
	return words
}

// TestParseNetworkNearTexts changes, leaves out and puts in one byte of texts.
func TestParseNetworkNearTexts(t *testing.T) {
	for _, text := range []string{"2:", "4:02a,12B,13b", "3:01e,01E"} {
		near := map[string]bool{text: true}
		for at := range len(text) {
			near[text[:at]+text[at+1:]] = true
			for sign := range 256 {
				near[text[:at]+string([]byte{byte(sign)})+text[at+1:]] = true
				near[text[:at]+string([]byte{byte(sign)})+text[at:]] = true
			}
		}
		for other := range near {
			x, code := impl.ParseNetwork(other)
			call := fmt.Sprintf("ParseNetwork(%q)", other)
			if want, yes := textTellsNetwork(other); yes {
				wantNetwork(t, call, x, code, want)
			} else {
				wantNetworkError(t, call, x, code, impl.ErrSyntax)
			}
		}
	}
}

// networkCalls are the functions of networks but IsNetwork and ParseNetwork, with numbers where
// they take some. Each returns whether its result is the zero value, and the code.
var networkCalls = []struct {
	name string
	run  func(x impl.Network, a int64, b int64, c int64) (bool, int64)
}{
	{"ClosedContacts", func(x impl.Network, a int64, b int64, c int64) (bool, int64) {
		list, code := impl.ClosedContacts(x, a)
		return len(list) == 0, code
	}},
	{"PointsWith", func(x impl.Network, a int64, b int64, c int64) (bool, int64) {
		list, code := impl.PointsWith(x, a, b)
		return len(list) == 0, code
	}},
	{"TableBetween", func(x impl.Network, a int64, b int64, c int64) (bool, int64) {
		table, code := impl.TableBetween(x, a, b, c)
		return table == impl.Table{}, code
	}},
	{"PathsOf", func(x impl.Network, a int64, b int64, c int64) (bool, int64) {
		lists, code := impl.PathsOf(x)
		return len(lists) == 0, code
	}},
	{"CutsOf", func(x impl.Network, a int64, b int64, c int64) (bool, int64) {
		lists, code := impl.CutsOf(x)
		return len(lists) == 0, code
	}},
	{"IdleContacts", func(x impl.Network, a int64, b int64, c int64) (bool, int64) {
		list, code := impl.IdleContacts(x)
		return len(list) == 0, code
	}},
	{"WithoutIdle", func(x impl.Network, a int64, b int64, c int64) (bool, int64) {
		y, code := impl.WithoutIdle(x)
		return sameNetwork(y, impl.Network{}), code
	}},
	{"LoadsOf", func(x impl.Network, a int64, b int64, c int64) (bool, int64) {
		list, code := impl.LoadsOf(x)
		return len(list) == 0, code
	}},
	{"SideBySide as the first one", func(x impl.Network, a int64, b int64, c int64) (bool, int64) {
		y, code := impl.SideBySide(x, fullNetwork())
		return sameNetwork(y, impl.Network{}), code
	}},
	{"SideBySide as the second one", func(x impl.Network, a int64, b int64, c int64) (bool, int64) {
		y, code := impl.SideBySide(fullNetwork(), x)
		return sameNetwork(y, impl.Network{}), code
	}},
	{"OneBehind as the first one", func(x impl.Network, a int64, b int64, c int64) (bool, int64) {
		y, code := impl.OneBehind(x, fullNetwork())
		return sameNetwork(y, impl.Network{}), code
	}},
	{"OneBehind as the second one", func(x impl.Network, a int64, b int64, c int64) (bool, int64) {
		y, code := impl.OneBehind(fullNetwork(), x)
		return sameNetwork(y, impl.Network{}), code
	}},
	{"ExchangeEnds", func(x impl.Network, a int64, b int64, c int64) (bool, int64) {
		y, code := impl.ExchangeEnds(x)
		return sameNetwork(y, impl.Network{}), code
	}},
	{"NetworkText", func(x impl.Network, a int64, b int64, c int64) (bool, int64) {
		text, code := impl.NetworkText(x)
		return text == "", code
	}},
}

// TestNoNetworks checks that what is no network is found ahead of all other errors.
func TestNoNetworks(t *testing.T) {
	for _, call := range networkCalls {
		for _, x := range noNetworks {
			for _, numbers := range [][3]int64{{1, 0, 1}, {5, 0, 0}, {-1, -1, -1}, {99, 0, 0}, {1, 99, 99}} {
				zero, code := call.run(x, numbers[0], numbers[1], numbers[2])
				if !zero || code != impl.ErrInvalid {
					t.Errorf("%s, %v and %v: zero value %v, code %d", call.name, x, numbers, zero, code)
				}
			}
		}
	}
	for _, f := range joinFunctions {
		for _, x := range noNetworks {
			z, code := f.run(x, x)
			wantNetworkError(t, fmt.Sprintf("%s(%v, %v)", f.name, x, x), z, code, impl.ErrInvalid)
		}
	}
}

// TestNetworksStay checks that no function writes on a network, or behind its lists.
func TestNetworksStay(t *testing.T) {
	for _, x := range append(sampleNetworks(), noNetworks...) {
		contacts, unchanged := spareLists(x.Contacts)
		given := impl.Network{Points: x.Points, Contacts: contacts}
		impl.IsNetwork(given)
		for _, call := range networkCalls {
			call.run(given, 5, 0, 1)
		}
		impl.SideBySide(given, net(2))
		impl.OneBehind(given, net(2))
		impl.SideBySide(given, given)
		impl.OneBehind(given, given)
		if !unchanged() {
			t.Errorf("%v is changed, or what is behind its lists", x)
		}
	}
}

// wantApart fails unless each of some lists can be written on without a change to the others.
func wantApart(t *testing.T, call string, lists [][]int64) {
	t.Helper()
	for i := range lists {
		before := copyOfLists(lists)
		scribble(lists[i])
		for j := range lists {
			if j != i && !slices.Equal(lists[j], before[j]) {
				t.Errorf("%s: the lists %d and %d share memory", call, i, j)
			}
		}
		copy(lists[i], before[i])
	}
}

// TestNetworkResultsAreNew writes on results, and looks at what else is there, and asks again.
func TestNetworkResultsAreNew(t *testing.T) {
	calls := map[string]func(x impl.Network) [][]int64{
		"ClosedContacts": func(x impl.Network) [][]int64 { list, _ := impl.ClosedContacts(x, 9); return [][]int64{list} },
		"PointsWith":     func(x impl.Network) [][]int64 { list, _ := impl.PointsWith(x, 9, 0); return [][]int64{list} },
		"PathsOf":        func(x impl.Network) [][]int64 { lists, _ := impl.PathsOf(x); return lists },
		"CutsOf":         func(x impl.Network) [][]int64 { lists, _ := impl.CutsOf(x); return lists },
		"IdleContacts":   func(x impl.Network) [][]int64 { list, _ := impl.IdleContacts(x); return [][]int64{list} },
		"WithoutIdle":    func(x impl.Network) [][]int64 { y, _ := impl.WithoutIdle(x); return y.Contacts },
		"LoadsOf":        func(x impl.Network) [][]int64 { list, _ := impl.LoadsOf(x); return [][]int64{list} },
		"SideBySide":     func(x impl.Network) [][]int64 { y, _ := impl.SideBySide(x, x); return y.Contacts },
		"OneBehind":      func(x impl.Network) [][]int64 { y, _ := impl.OneBehind(x, x); return y.Contacts },
		"ExchangeEnds":   func(x impl.Network) [][]int64 { y, _ := impl.ExchangeEnds(x); return y.Contacts },
		"ParseNetwork":   func(x impl.Network) [][]int64 { y, _ := impl.ParseNetwork(wordsOfNetwork(x)); return y.Contacts },
	}
	for name, run := range calls {
		for _, x := range []impl.Network{bridge(), net(2, "01a", "01a"), net(4, "01a", "02b", "02b", "12c", "23e")} {
			contacts, unchanged := spareLists(x.Contacts)
			given := impl.Network{Points: x.Points, Contacts: contacts}
			first := run(given)
			want := copyOfLists(first)
			wantApart(t, fmt.Sprintf("%s of %v", name, x), first)
			for i := range first {
				scribble(first[i])
				first[i] = nil
			}
			if !unchanged() {
				t.Errorf("%s of %v shares memory with its argument", name, x)
			}
			if again := run(given); !sameLists(again, want) {
				t.Errorf("%s of %v once more: %v, want %v", name, x, again, want)
			}
		}
	}
}

// TestPromise2 checks the second promise by the functions of the chapters alone.
func TestPromise2(t *testing.T) {
	samples := sampleNetworks()
	for i, x := range samples {
		paths, a := impl.PathsOf(x)
		cuts, b := impl.CutsOf(x)
		if a != impl.ErrNone || b != impl.ErrNone {
			t.Errorf("the paths and cuts of %v: codes %d, %d", x, a, b)
		}
		for _, path := range paths {
			for _, cut := range cuts {
				if !slices.ContainsFunc(path, func(i int64) bool { return slices.Contains(cut, i) }) {
					t.Errorf("%v: the path %v does not meet the cut %v", x, path, cut)
				}
			}
		}
		y := samples[(i*7+3)%len(samples)]
		side, code := impl.SideBySide(x, y)
		if code != impl.ErrNone {
			continue
		}
		one, _ := impl.TableBetween(x, 5, 0, 1)
		other, _ := impl.TableBetween(y, 5, 0, 1)
		sum, _ := impl.SumOf(one, other)
		table, code := impl.TableBetween(side, 5, 0, 1)
		wantTable(t, fmt.Sprintf("the table of %v and %v side by side", x, y), table, code, sum)
	}
}
