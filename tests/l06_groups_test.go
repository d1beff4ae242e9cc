package tests

import (
	"maps"
	"slices"
	"strconv"
	"testing"

	"loop.example/g01267/impl"
)

// groupNames has the names of the known groups in order.
var groupNames = []string{"c1", "c2", "c3", "c4", "c5", "c6", "v4", "s3"}

// wildNumbers has numbers that are in no range of chapter 6.
var wildNumbers = []int64{-1, -2, -7, 14, 15, 17, 256, 257, 1 << 32, 1<<32 + 1, 1 << 62, 1<<63 - 1, -1 << 63, -1<<63 + 1}

// notPrimes has numbers for which there are no algebras.
var notPrimes = append([]int64{0, 1, 4, 6, 8, 9, 10, 12}, wildNumbers...)

// badNames has texts that are no names of known groups: the last ones have digits and letters that only
// look like those of names.
var badNames = []string{
	"", "c", "v", "s", "c0", "c7", "c8", "c9", "v2", "v3", "v5", "s1", "s2", "s4", "C1", "C6", "V4", "S3",
	"c01", "c06", "c10", "c16", "c66", " c1", "c1 ", "c 1", "c-1", "c+1", "c1c1", "c1c", "1c", "3s", "d3",
	"k4", "z2", "q8", "a3", "c1\x00", "c1\n", "symmetric", "cyclic3", "\xff\xfe", "c\u0661", "\u04411",
}

// knownGroup returns the known group with a name.
func knownGroup(t *testing.T, name string) impl.Group {
	t.Helper()
	g, code := impl.KnownGroup(name)
	if code != impl.ErrNone {
		t.Fatalf("KnownGroup(%q): code %d", name, code)
	}
	return g
}

// groupBy returns the table of an order and a rule.
func groupBy(n int64, rule func(i, j int64) int64) impl.Group {
	g := impl.Group{Order: n}
	for i := range n {
		for j := range n {
			g.Table[i][j] = byte(rule(i, j))
		}
	}
	return g
}

// at returns the product of elements.
func at(g impl.Group, elements ...int64) int64 {
	product := int64(0)
	for _, x := range elements {
		product = int64(g.Table[product][x])
	}
	return product
}

// back returns the inverse of an element.
func back(g impl.Group, x int64) int64 {
	for y := range g.Order {
		if at(g, x, y) == 0 && at(g, y, x) == 0 {
			return y
		}
	}
	return -1
}

// triangleLists returns the permutations of 0, 1, 2 for which r^b t^a, at 3 a + b, makes of i the rest
// of b + i or of b - i by 3.
func triangleLists() [][]int64 {
	var lists [][]int64
	for place := range int64(6) {
		b, sign := place%3, int64(1)
		if place >= 3 {
			sign = 2
		}
		lists = append(lists, []int64{b, (b + sign) % 3, (b + 2*sign) % 3})
	}
	return lists
}

// triangleGroup returns the group of the permutations of triangleLists.
func triangleGroup() impl.Group {
	lists := triangleLists()
	return groupBy(6, func(i, j int64) int64 {
		var composed []int64
		for _, x := range lists[j] {
			composed = append(composed, lists[i][x])
		}
		return int64(slices.IndexFunc(lists, func(list []int64) bool { return slices.Equal(list, composed) }))
	})
}

// plainGroups returns the known groups by other words of their descriptions.
func plainGroups() map[string]impl.Group {
	groups := map[string]impl.Group{"s3": triangleGroup()}
	for n := int64(1); n <= 6; n++ {
		groups["c"+digit(n)] = groupBy(n, func(i, j int64) int64 {
			if i+j >= n {
				return i + j - n
			}
			return i + j
		})
	}
	groups["v4"] = groupBy(4, func(i, j int64) int64 { return (i/2+j/2)%2*2 + (i%2+j%2)%2 })
	return groups
}

// renamed returns a group with the name list[i] for the element i.
func renamed(g impl.Group, list []int64) impl.Group {
	again := impl.Group{Order: g.Order}
	for i := range g.Order {
		for j := range g.Order {
			again.Table[list[i]][list[j]] = byte(list[g.Table[i][j]])
		}
	}
	return again
}

// renamings returns all different tables of a group whose elements other than the unit are named anew.
func renamings(g impl.Group) []impl.Group {
	seen := map[impl.Group]bool{}
	var groups []impl.Group
	for _, list := range permutations(g.Order) {
		again := renamed(g, list)
		if list[0] == 0 && !seen[again] {
			seen[again] = true
			groups = append(groups, again)
		}
	}
	return groups
}

// sampleGroups returns all groups there are, the known ones and all with other names of elements.
func sampleGroups(t *testing.T) []impl.Group {
	t.Helper()
	var groups []impl.Group
	for _, name := range groupNames {
		groups = append(groups, renamings(knownGroup(t, name))...)
	}
	return groups
}

// fewGroups returns the known groups, and some of each with other names of elements.
func fewGroups(t *testing.T) []impl.Group {
	t.Helper()
	var groups []impl.Group
	for _, name := range groupNames {
		all := renamings(knownGroup(t, name))
		groups = append(groups, all[0])
		if len(all) > 1 {
			groups = append(groups, all[len(all)/2], all[len(all)-1])
		}
	}
	return groups
}

// isPlainGroup reports whether a table of an Order in 1..6, with elements only, is that of a group,
// straight from the definition.
func isPlainGroup(g impl.Group) bool {
	for i := range g.Order {
		if g.Table[0][i] != byte(i) || g.Table[i][0] != byte(i) || back(g, i) < 0 {
			return false
		}
		for j := range g.Order {
			for k := range g.Order {
				if g.Table[g.Table[i][j]][k] != g.Table[i][g.Table[j][k]] {
					return false
				}
			}
		}
	}
	return true
}

func isAbelian(g impl.Group) bool {
	for i := range g.Order {
		for j := range g.Order {
			if g.Table[i][j] != g.Table[j][i] {
				return false
			}
		}
	}
	return true
}

// plainClasses returns the classes: x and y are conjugate if h x = y h for some h.
func plainClasses(g impl.Group) [][]int64 {
	var classes [][]int64
	seen := map[int64]bool{}
	for x := range g.Order {
		var class []int64
		for y := range g.Order {
			for h := range g.Order {
				if at(g, h, x) == at(g, y, h) && !slices.Contains(class, y) {
					class = append(class, y)
				}
			}
		}
		if !seen[x] {
			classes = append(classes, class)
		}
		for _, y := range class {
			seen[y] = true
		}
	}
	return classes
}

func classesOf(t *testing.T, g impl.Group) [][]int64 {
	t.Helper()
	classes, code := impl.ClassesOf(g)
	if code != impl.ErrNone {
		t.Fatalf("ClassesOf(%v): code %d", g, code)
	}
	return classes
}

func groupAlgebra(t *testing.T, p int64, g impl.Group) impl.Algebra {
	t.Helper()
	a, code := impl.GroupAlgebra(p, g)
	if code != impl.ErrNone {
		t.Fatalf("GroupAlgebra(%d, %v): code %d", p, g, code)
	}
	return a
}

func classAlgebra(t *testing.T, p int64, g impl.Group) impl.Algebra {
	t.Helper()
	a, code := impl.ClassAlgebra(p, g)
	if code != impl.ErrNone {
		t.Fatalf("ClassAlgebra(%d, %v): code %d", p, g, code)
	}
	return a
}

func twistedAlgebra(t *testing.T, p int64, g impl.Group, table [][]int64) impl.Algebra {
	t.Helper()
	a, code := impl.TwistedAlgebra(p, g, table)
	if code != impl.ErrNone {
		t.Fatalf("TwistedAlgebra(%d, %v, %v): code %d", p, g, table, code)
	}
	return a
}

func coboundaryOf(t *testing.T, p int64, g impl.Group, list []int64) [][]int64 {
	t.Helper()
	table, code := impl.CoboundaryOf(p, g, list)
	if code != impl.ErrNone {
		t.Fatalf("CoboundaryOf(%d, %v, %v): code %d", p, g, list, code)
	}
	return table
}

func regularClasses(t *testing.T, p int64, g impl.Group, table [][]int64) []int64 {
	t.Helper()
	list, code := impl.RegularClasses(p, g, table)
	if code != impl.ErrNone {
		t.Fatalf("RegularClasses(%d, %v, %v): code %d", p, g, table, code)
	}
	return list
}

// surfaces returns the surface count of a group.
func surfaces(t *testing.T, g impl.Group, genus int64) int64 {
	t.Helper()
	count, code := impl.CountSurface(g, genus)
	if code != impl.ErrNone {
		t.Fatalf("CountSurface(%v, %d): code %d", g, genus, code)
	}
	return count
}

func TestKnownGroups(t *testing.T) {
	plain := plainGroups()
	for _, name := range groupNames {
		g, code := impl.KnownGroup(name)
		if g != plain[name] || code != impl.ErrNone {
			t.Errorf("KnownGroup(%q) = %v, %d instead of %v", name, g, code, plain[name])
		}
		if !impl.IsGroup(g) || !isPlainGroup(g) {
			t.Errorf("KnownGroup(%q) = %v is no group", name, g)
		}
		if isAbelian(g) != (name != "s3") {
			t.Errorf("KnownGroup(%q) = %v is abelian: %v", name, g, isAbelian(g))
		}
	}
	want := impl.Group{Order: 6, Table: [6][6]byte{{0, 1, 2, 3, 4, 5}, {1, 2, 0, 4, 5, 3}, {2, 0, 1, 5, 3, 4},
		{3, 5, 4, 0, 2, 1}, {4, 3, 5, 1, 0, 2}, {5, 4, 3, 2, 1, 0}}}
	if g := knownGroup(t, "s3"); g != want {
		t.Errorf("s3 is %v instead of %v", g, want)
	}
	// r r r = t t = 1 and t r = r r t, where r is 1 and t is 3.
	if g := knownGroup(t, "s3"); at(g, 1, 1, 1) != 0 || at(g, 3, 3) != 0 || at(g, 3, 1) != at(g, 1, 1, 3) || at(g, 1, 3) != 4 || at(g, 2, 3) != 5 {
		t.Errorf("s3 is %v", g)
	}
	if g := knownGroup(t, "v4"); g.Table != [6][6]byte{{0, 1, 2, 3}, {1, 0, 3, 2}, {2, 3, 0, 1}, {3, 2, 1, 0}} {
		t.Errorf("v4 is %v", g)
	}
	if g := knownGroup(t, "c1"); g != (impl.Group{Order: 1}) {
		t.Errorf("c1 is %v", g)
	}
}

// checkNoName checks that there is no known group with a name.
func checkNoName(t *testing.T, name string) {
	t.Helper()
	if g, code := impl.KnownGroup(name); g != (impl.Group{}) || code != impl.ErrNotFound {
		t.Errorf("KnownGroup(%q) = %v, %d", name, g, code)
	}
}

func TestUnknownGroups(t *testing.T) {
	for _, name := range badNames {
		checkNoName(t, name)
	}
	found := 0
	for first := range 256 {
		for second := range 256 {
			name := string([]byte{byte(first), byte(second)})
			if slices.Contains(groupNames, name) {
				found++
				continue
			}
			checkNoName(t, name)
		}
		checkNoName(t, string([]byte{byte(first)}))
	}
	for _, name := range groupNames {
		for letter := range 256 {
			checkNoName(t, name+string([]byte{byte(letter)}))
			checkNoName(t, string([]byte{byte(letter)})+name)
		}
	}
	if found != len(groupNames) {
		t.Errorf("there are %d names of two bytes", found)
	}
}

func TestRenamedGroups(t *testing.T) {
	counts := map[int64]int{}
	for _, g := range sampleGroups(t) {
		counts[g.Order]++
		if !impl.IsGroup(g) || !isPlainGroup(g) {
			t.Errorf("IsGroup(%v) is false", g)
		}
	}
	// As many as there are permutations that keep the unit, divided by those that keep products.
	if want := (map[int64]int{1: 1, 2: 1, 3: 1, 4: 3 + 1, 5: 6, 6: 60 + 20}); !maps.Equal(counts, want) {
		t.Errorf("there are %v groups instead of %v", counts, want)
	}
}

// productsAt returns the table of n elements with the digits of a number, to the base n, from the row and
// the column first on, and with the unit 0 before them.
func productsAt(n, first, number int64) impl.Group {
	return groupBy(n, func(i, j int64) int64 {
		if min(i, j) < first {
			return i + j
		}
		return number / plainCount(n, (i-first)*(n-first)+j-first) % n
	})
}

// TestSmallGroups looks at all tables of the Orders 1 to 3, and at all of the Order 4 with the unit 0.
func TestSmallGroups(t *testing.T) {
	for _, look := range []struct{ n, first, want int64 }{{1, 0, 1}, {2, 0, 1}, {3, 0, 1}, {4, 1, 4}} {
		free, found := look.n-look.first, int64(0)
		for number := range plainCount(look.n, free*free) {
			g := productsAt(look.n, look.first, number)
			yes := isPlainGroup(g)
			if impl.IsGroup(g) != yes {
				t.Errorf("IsGroup(%v) is %v", g, !yes)
			}
			if yes {
				found++
			}
		}
		if found != look.want {
			t.Errorf("there are %d groups of the Order %d instead of %d", found, look.n, look.want)
		}
	}
}

// brokenGroups returns what is no group, each for another reason.
func brokenGroups(t *testing.T) map[string]impl.Group {
	broken := map[string]impl.Group{"zero value": {}, "order 2 alone": {Order: 2}, "order 6 alone": {Order: 6}}
	change := func(why string, name string, f func(g *impl.Group)) {
		g := knownGroup(t, name)
		f(&g)
		broken[why] = g
	}
	for _, n := range []int64{0, -1, -6, 7, 8, 12, 256 + 6, 1<<32 + 6, 1 << 62, 1<<63 - 1, -1 << 63, -1<<63 + 6} {
		for _, name := range []string{"c1", "s3"} {
			change("order "+strconv.FormatInt(n, 10)+" of "+name, name, func(g *impl.Group) { g.Order = n })
		}
	}
	change("order too small", "c2", func(g *impl.Group) { g.Order = 1 })
	change("order smaller by one", "c6", func(g *impl.Group) { g.Order = 5 })
	change("order too great", "c2", func(g *impl.Group) { g.Order = 3 })
	change("order of 6 for c1", "c1", func(g *impl.Group) { g.Order = 6 })
	change("entry of the order", "c2", func(g *impl.Group) { g.Table[1][1] = 2 })
	change("entry of the order at 0, 0", "c1", func(g *impl.Group) { g.Table[0][0] = 1 })
	change("entry above the order", "c3", func(g *impl.Group) { g.Table[1][2] = 5 })
	change("entry of six", "s3", func(g *impl.Group) { g.Table[5][5] = 6 })
	change("entry of 255", "c6", func(g *impl.Group) { g.Table[3][3] = 255 })
	change("row behind", "c1", func(g *impl.Group) { g.Table[1][0] = 1 })
	change("column behind", "c1", func(g *impl.Group) { g.Table[0][1] = 1 })
	change("both behind", "c2", func(g *impl.Group) { g.Table[2][2] = 1 })
	change("last row behind", "c3", func(g *impl.Group) { g.Table[5][1] = 2 })
	change("last column behind", "c4", func(g *impl.Group) { g.Table[3][5] = 3 })
	change("last entry behind", "c5", func(g *impl.Group) { g.Table[5][5] = 4 })
	broken["another unit"] = renamed(knownGroup(t, "c3"), []int64{1, 0, 2})
	broken["the last one is the unit"] = renamed(knownGroup(t, "s3"), []int64{5, 1, 2, 3, 4, 0})
	broken["unit at the left alone"] = groupBy(3, func(i, j int64) int64 { return j })
	broken["unit at the right alone"] = groupBy(3, func(i, j int64) int64 { return i })
	broken["no inverse"] = groupBy(2, func(i, j int64) int64 { return max(i, j) })
	broken["no inverses"] = groupBy(6, func(i, j int64) int64 { return max(i, j) })
	// The numbers 0 to 3 for 1, 3, 2, 0 modulo 4, where 3 alone has an inverse.
	broken["one inverse"] = groupBy(4, func(i, j int64) int64 {
		numbers := []int64{1, 3, 2, 0}
		return int64(slices.Index(numbers, numbers[i]*numbers[j]%4))
	})
	// Each element stands once in each row and column, and is its own inverse.
	broken["not associative"] = impl.Group{Order: 5, Table: [6][6]byte{{0, 1, 2, 3, 4}, {1, 0, 3, 4, 2}, {2, 4, 0, 1, 3}, {3, 2, 4, 0, 1}, {4, 3, 1, 2, 0}}}
	// c6 with a square of four entries turned over, so that all elements still have inverses.
	change("four entries turned over", "c6", func(g *impl.Group) {
		g.Table[1][1], g.Table[1][4], g.Table[4][1], g.Table[4][4] = 5, 2, 2, 5
	})
	return broken
}

// badTables returns what is no table of n rows of n numbers modulo p.
func badTables(p, n int64) map[string][][]int64 {
	bad := map[string][][]int64{"nil": nil, "empty": {}, "empty rows": make([][]int64, n), "too great": onesTable(n + 1)}
	bad["a row too few"], bad["a row too many"] = onesTable(n)[:n-1], append(onesTable(n), onesTable(n)[0])
	bad["an empty row too many"] = append(onesTable(n), nil)
	bad["numbers too many"], bad["numbers too few"] = onesTable(n), onesTable(n)
	for i := range n {
		bad["numbers too many"][i] = append(bad["numbers too many"][i], 1)
		bad["numbers too few"][i] = bad["numbers too few"][i][1:]
		for _, length := range []int64{0, n - 1, n + 1} {
			ragged := onesTable(n)
			ragged[i] = onesTable(max(length, 1))[0][:length]
			bad["row "+digit(i)+" of the length "+digit(length)] = ragged
		}
		for j := range n {
			for _, number := range append([]int64{p, p + 1, 1 + 256*p}, wildNumbers...) {
				table := onesTable(n)
				table[i][j] = number
				bad[strconv.FormatInt(number, 10)+" at "+digit(i)+", "+digit(j)] = table
			}
		}
	}
	return bad
}

// onesTable returns the table of n rows of n numbers 1.
func onesTable(n int64) [][]int64 {
	table := make([][]int64, n)
	for i := range table {
		table[i] = slices.Repeat([]int64{1}, int(n))
	}
	return table
}

// checkNoGroup checks that all functions tell that g is no group, whatever the other arguments are.
func checkNoGroup(t *testing.T, why string, g impl.Group) {
	t.Helper()
	if impl.IsGroup(g) {
		t.Errorf("%s: IsGroup is true", why)
	}
	if x, code := impl.ClassesOf(g); len(x) != 0 || code != impl.ErrInvalid {
		t.Errorf("%s: ClassesOf = %v, %d", why, x, code)
	}
	if n, code := impl.CommutingPairs(g); n != 0 || code != impl.ErrInvalid {
		t.Errorf("%s: CommutingPairs = %d, %d", why, n, code)
	}
	for _, genus := range []int64{0, 1, 8, 9, -1, 1<<63 - 1, -1 << 63} {
		if n, code := impl.CountSurface(g, genus); n != 0 || code != impl.ErrInvalid {
			t.Errorf("%s: CountSurface of %d = %d, %d", why, genus, n, code)
		}
	}
	for _, name := range groupNames {
		checkNoHomomorphisms(t, why, g, knownGroup(t, name))
		checkNoHomomorphisms(t, why, knownGroup(t, name), g)
	}
	checkNoHomomorphisms(t, why, g, g)
	for _, p := range []int64{2, 5, 13, 0, 4, -5, 17, 1<<63 - 1, -1 << 63} {
		checkNoAlgebras(t, why, p, g, impl.ErrInvalid)
		for _, table := range [][][]int64{nil, {{1}}, {{1, 1}, {1, 1}}, {{0}}, {{1, 2}, {3}}, onesTable(6), onesTable(7), {{2, 2}, {2, 2}}} {
			checkNoTwist(t, why, p, g, table, impl.ErrInvalid)
		}
		for _, list := range [][]int64{nil, {1}, {0}, {1, 1}, {1, 1, 1, 1, 1, 1}, {1, 1, 1, 1, 1, 1, 1}, {-1, 99}} {
			checkNoCoboundary(t, why, p, g, list, impl.ErrInvalid)
		}
	}
}

func checkNoHomomorphisms(t *testing.T, why string, g, h impl.Group) {
	t.Helper()
	if n, code := impl.CountHomomorphisms(g, h); n != 0 || code != impl.ErrInvalid {
		t.Errorf("%s: CountHomomorphisms(%v, %v) = %d, %d", why, g, h, n, code)
	}
}

func checkNoAlgebras(t *testing.T, why string, p int64, g impl.Group, want int64) {
	t.Helper()
	if a, code := impl.GroupAlgebra(p, g); a != (impl.Algebra{}) || code != want {
		t.Errorf("%s: GroupAlgebra(%d) = %v, %d", why, p, a, code)
	}
	if a, code := impl.ClassAlgebra(p, g); a != (impl.Algebra{}) || code != want {
		t.Errorf("%s: ClassAlgebra(%d) = %v, %d", why, p, a, code)
	}
}

// checkNoTwist checks that all functions of a table return this code alone.
func checkNoTwist(t *testing.T, why string, p int64, g impl.Group, table [][]int64, want int64) {
	t.Helper()
	if yes, code := impl.IsCocycle(p, g, table); yes || code != want {
		t.Errorf("%s: IsCocycle(%d, %v, %v) = %v, %d", why, p, g, table, yes, code)
	}
	checkNoCocycle(t, why, p, g, table, want)
}

// checkNoCocycle checks that the functions of a cocycle return this code alone.
func checkNoCocycle(t *testing.T, why string, p int64, g impl.Group, table [][]int64, want int64) {
	t.Helper()
	if a, code := impl.TwistedAlgebra(p, g, table); a != (impl.Algebra{}) || code != want {
		t.Errorf("%s: TwistedAlgebra(%d, %v, %v) = %v, %d", why, p, g, table, a, code)
	}
	if x, code := impl.RegularClasses(p, g, table); len(x) != 0 || code != want {
		t.Errorf("%s: RegularClasses(%d, %v, %v) = %v, %d", why, p, g, table, x, code)
	}
}

func checkNoCoboundary(t *testing.T, why string, p int64, g impl.Group, list []int64, want int64) {
	t.Helper()
	if x, code := impl.CoboundaryOf(p, g, list); len(x) != 0 || code != want {
		t.Errorf("%s: CoboundaryOf(%d, %v, %v) = %v, %d", why, p, g, list, x, code)
	}
}

func TestBrokenGroups(t *testing.T) {
	for why, g := range brokenGroups(t) {
		checkNoGroup(t, why, g)
	}
}

// TestChangedGroups checks that a group with one other entry, at any place, is none.
func TestChangedGroups(t *testing.T) {
	for _, g := range sampleGroups(t) {
		for i := range g.Table {
			for j := range g.Table {
				for step := 1; step <= 6; step++ {
					changed := g
					changed.Table[i][j] = (g.Table[i][j] + byte(step)) % 7
					if impl.IsGroup(changed) {
						t.Errorf("IsGroup(%v) is true", changed)
					}
				}
			}
		}
		for n := int64(-1); n <= 8; n++ {
			changed := g
			changed.Order = n
			if impl.IsGroup(changed) != (n == g.Order) {
				t.Errorf("IsGroup(%v) is %v", changed, n != g.Order)
			}
		}
	}
}

func TestClasses(t *testing.T) {
	for _, g := range sampleGroups(t) {
		classes, code := impl.ClassesOf(g)
		if !sameTables(classes, plainClasses(g)) || code != impl.ErrNone {
			t.Errorf("ClassesOf(%v) = %v, %d instead of %v", g, classes, code, plainClasses(g))
		}
		if isAbelian(g) != (int64(len(classes)) == g.Order) {
			t.Errorf("ClassesOf(%v) = %v", g, classes)
		}
	}
	for name, want := range map[string][][]int64{
		"c1": {{0}}, "c4": {{0}, {1}, {2}, {3}}, "v4": {{0}, {1}, {2}, {3}}, "c6": {{0}, {1}, {2}, {3}, {4}, {5}}, "s3": {{0}, {1, 2}, {3, 4, 5}},
	} {
		if classes := classesOf(t, knownGroup(t, name)); !sameTables(classes, want) {
			t.Errorf("ClassesOf(%s) = %v", name, classes)
		}
	}
	// The elements of two are named 2 and 5, so that they are the last class.
	mixed := renamed(knownGroup(t, "s3"), []int64{0, 2, 5, 1, 3, 4})
	if classes := classesOf(t, mixed); !sameTables(classes, [][]int64{{0}, {1, 3, 4}, {2, 5}}) {
		t.Errorf("ClassesOf(%v) = %v", mixed, classes)
	}
}

func TestGroupAlgebras(t *testing.T) {
	for _, g := range sampleGroups(t) {
		for _, p := range primes {
			a, code := impl.GroupAlgebra(p, g)
			want := impl.Algebra{Prime: p, Size: g.Order, Form: impl.Vector{1}}
			for i := range g.Order {
				for j := range g.Order {
					want.Table[i][j] = basis(at(g, i, j))
				}
			}
			if a != want || code != impl.ErrNone {
				t.Errorf("GroupAlgebra(%d, %v) = %v, %d", p, g, a, code)
			}
			if !impl.IsAlgebra(a) || !isPlainFrobenius(a) || unitOf(t, a) != basis(0) || isPlainCommutative(a) != isAbelian(g) {
				t.Errorf("GroupAlgebra(%d, %v) = %v is no such algebra", p, g, a)
			}
		}
	}
}

// TestGroupAlgebrasOfNames checks that algebras of chapter 1 are group algebras.
func TestGroupAlgebrasOfNames(t *testing.T) {
	lists := [][]int64{{0, 1, 2}, {0, 2, 1}, {1, 0, 2}, {1, 2, 0}, {2, 0, 1}, {2, 1, 0}}
	var names []int64
	for _, list := range triangleLists() {
		names = append(names, int64(slices.IndexFunc(lists, func(other []int64) bool { return slices.Equal(other, list) })))
	}
	for _, p := range primes {
		for group, algebra := range map[string]string{"c1": "field", "c3": "cyclic3"} {
			if a := groupAlgebra(t, p, knownGroup(t, group)); a != named(t, algebra, p) {
				t.Errorf("GroupAlgebra(%d, %s) = %v", p, group, a)
			}
		}
		if a := groupAlgebra(t, p, renamed(knownGroup(t, "s3"), names)); a != named(t, "symmetric", p) {
			t.Errorf("GroupAlgebra(%d, s3) = %v with the names %v", p, a, names)
		}
		two := groupAlgebra(t, p, knownGroup(t, "c2"))
		if a := groupAlgebra(t, p, knownGroup(t, "v4")); a != tensorOf(t, two, two) {
			t.Errorf("GroupAlgebra(%d, v4) = %v", p, a)
		}
	}
}

// plainClassAlgebra counts, for each third class, the pairs of elements of two classes whose product
// is its first element.
func plainClassAlgebra(p int64, g impl.Group) impl.Algebra {
	classes := plainClasses(g)
	a := impl.Algebra{Prime: p, Size: int64(len(classes)), Form: impl.Vector{1}}
	for i, first := range classes {
		for j, second := range classes {
			for k, third := range classes {
				count := int64(0)
				for _, x := range first {
					for _, y := range second {
						if at(g, x, y) == third[0] {
							count++
						}
					}
				}
				a.Table[i][j][k] = byte(count % p)
			}
		}
	}
	return a
}

// hasClassOfMultiples reports whether p divides the number of elements of a class.
func hasClassOfMultiples(p int64, g impl.Group) bool {
	return slices.ContainsFunc(plainClasses(g), func(class []int64) bool { return int64(len(class))%p == 0 })
}

func TestClassAlgebras(t *testing.T) {
	counts := map[bool]int{}
	for _, g := range sampleGroups(t) {
		for _, p := range primes {
			a, code := impl.ClassAlgebra(p, g)
			if a != plainClassAlgebra(p, g) || code != impl.ErrNone {
				t.Errorf("ClassAlgebra(%d, %v) = %v, %d", p, g, a, code)
			}
			if !impl.IsAlgebra(a) || !isPlainCommutative(a) || unitOf(t, a) != basis(0) {
				t.Errorf("ClassAlgebra(%d, %v) = %v is no such algebra", p, g, a)
			}
			yes, code := impl.IsFrobenius(a)
			if yes == hasClassOfMultiples(p, g) || code != impl.ErrNone {
				t.Errorf("ClassAlgebra(%d, %v) = %v is Frobenius: %v", p, g, a, yes)
			}
			counts[yes]++
			if isAbelian(g) && a != groupAlgebra(t, p, g) {
				t.Errorf("ClassAlgebra(%d, %v) = %v is not the group algebra", p, g, a)
			}
		}
	}
	if counts[false] != 2*20 {
		t.Errorf("Frobenius or not: %v", counts)
	}
}

func TestClassAlgebrasOfTriangles(t *testing.T) {
	want := [6][6][6]byte{{{1}, {0, 1}, {0, 0, 1}}, {{0, 1}, {2, 1}, {0, 0, 2}}, {{0, 0, 1}, {0, 0, 2}, {3, 3}}}
	for _, p := range primes {
		table := want
		for i := range table {
			for j := range table[i] {
				for k := range table[i][j] {
					table[i][j][k] %= byte(p)
				}
			}
		}
		a := classAlgebra(t, p, knownGroup(t, "s3"))
		if a != (impl.Algebra{Prime: p, Size: 3, Table: table, Form: impl.Vector{1}}) {
			t.Errorf("ClassAlgebra(%d, s3) = %v", p, a)
		}
		if one := classAlgebra(t, p, knownGroup(t, "c1")); one != named(t, "field", p) {
			t.Errorf("ClassAlgebra(%d, c1) = %v", p, one)
		}
	}
}

// TestClassAlgebrasAreCentres checks that the sums of the classes are what is central in group algebras,
// with the same products.
func TestClassAlgebrasAreCentres(t *testing.T) {
	for _, g := range sampleGroups(t) {
		for _, p := range primes {
			whole, a := groupAlgebra(t, p, g), classAlgebra(t, p, g)
			centre, code := impl.CentreOf(whole)
			var sums []impl.Vector
			for _, class := range classesOf(t, g) {
				var sum impl.Vector
				for _, x := range class {
					sum[x]++
				}
				sums = append(sums, sum)
			}
			if !sameVectors(centre, sums) || code != impl.ErrNone {
				t.Errorf("CentreOf of the group algebra of %v for %d is %v, %d", g, p, centre, code)
			}
			for i, v := range sums {
				for j, w := range sums {
					if product := times(t, whole, v, w); product != imageOf(a, sums, a.Table[i][j]) {
						t.Errorf("the product of the classes %d, %d of %v for %d is %v", i, j, g, p, product)
					}
				}
			}
		}
	}
}

// isPlainCocycle reports whether a table of numbers modulo p is a cocycle, straight from the definition.
func isPlainCocycle(p int64, g impl.Group, table [][]int64) bool {
	for i := range g.Order {
		for j := range g.Order {
			for k := range g.Order {
				left := table[i][j] * table[at(g, i, j)][k]
				right := table[j][k] * table[i][at(g, j, k)]
				if table[i][j] == 0 || left%p != right%p {
					return false
				}
			}
		}
	}
	return table[0][0] == 1
}

// checkCocycle checks whether a table is a cocycle, and what it makes, and returns what it is.
func checkCocycle(t *testing.T, p int64, g impl.Group, table [][]int64) bool {
	t.Helper()
	want := isPlainCocycle(p, g, table)
	yes, code := impl.IsCocycle(p, g, table)
	if yes != want || code != impl.ErrNone {
		t.Errorf("IsCocycle(%d, %v, %v) = %v, %d", p, g, table, yes, code)
	}
	if want {
		checkTwisted(t, p, g, table)
		checkRegular(t, p, g, table)
	} else {
		checkNoCocycle(t, "no cocycle", p, g, table, impl.ErrRange)
	}
	return want
}

func checkTwisted(t *testing.T, p int64, g impl.Group, table [][]int64) {
	t.Helper()
	a, code := impl.TwistedAlgebra(p, g, table)
	want := impl.Algebra{Prime: p, Size: g.Order, Form: impl.Vector{1}}
	for i := range g.Order {
		for j := range g.Order {
			want.Table[i][j][at(g, i, j)] = byte(table[i][j])
		}
	}
	if a != want || code != impl.ErrNone {
		t.Errorf("TwistedAlgebra(%d, %v, %v) = %v, %d", p, g, table, a, code)
	}
	if !impl.IsAlgebra(a) || !isPlainFrobenius(a) || unitOf(t, a) != basis(0) {
		t.Errorf("TwistedAlgebra(%d, %v, %v) = %v is no such algebra", p, g, table, a)
	}
}

// plainRegular returns the numbers of the classes that are regular.
func plainRegular(g impl.Group, table [][]int64) []int64 {
	var numbers []int64
	for number, class := range plainClasses(g) {
		regular := true
		for y := range g.Order {
			x := class[0]
			regular = regular && (at(g, x, y) != at(g, y, x) || table[x][y] == table[y][x])
		}
		if regular {
			numbers = append(numbers, int64(number))
		}
	}
	return numbers
}

// checkRegular checks the regular classes of a cocycle: there are as many as the centre of the twisted
// algebra has dimensions.
func checkRegular(t *testing.T, p int64, g impl.Group, table [][]int64) {
	t.Helper()
	list, code := impl.RegularClasses(p, g, table)
	if !slices.Equal(list, plainRegular(g, table)) || code != impl.ErrNone {
		t.Errorf("RegularClasses(%d, %v, %v) = %v, %d", p, g, table, list, code)
	}
	centre, code := impl.CentreOf(twistedAlgebra(t, p, g, table))
	if len(centre) != len(list) || code != impl.ErrNone {
		t.Errorf("RegularClasses(%d, %v, %v) = %v, but what is central is %v, %d", p, g, table, list, centre, code)
	}
}

// tableAt returns the table with the digits of a number, to the base, behind first rows and columns of 1
// if units is 1, and first added to each digit.
func tableAt(n, units, base, first, number int64) [][]int64 {
	table := onesTable(n)
	for i := units; i < n; i++ {
		for j := units; j < n; j++ {
			table[i][j] = first + number%base
			number /= base
		}
	}
	return table
}

// TestAllTables looks at all tables of c1, c2 and c3 for some primes.
func TestAllTables(t *testing.T) {
	for _, look := range []struct {
		name string
		p    int64
		want int64 // the numbers of cocycles
	}{
		{"c1", 2, 1}, {"c1", 3, 1}, {"c1", 5, 1}, {"c1", 7, 1}, {"c1", 11, 1}, {"c1", 13, 1},
		{"c2", 2, 1}, {"c2", 3, 2}, {"c2", 5, 4}, {"c2", 7, 6}, {"c2", 11, 10}, {"c2", 13, 12}, {"c3", 2, 1}, {"c3", 3, 4},
	} {
		g, found := knownGroup(t, look.name), int64(0)
		for number := range plainCount(look.p, g.Order*g.Order) {
			if checkCocycle(t, look.p, g, tableAt(g.Order, 0, look.p, 0, number)) {
				found++
			}
		}
		if found != look.want {
			t.Errorf("there are %d cocycles of %s for %d instead of %d", found, look.name, look.p, look.want)
		}
	}
}

// TestTablesWithUnits looks at tables without 0 that have 1 in the first row and column, as all cocycles
// have.
func TestTablesWithUnits(t *testing.T) {
	for _, look := range []struct {
		name string
		p    int64
		want int64 // two numbers are free for c3; there are 2 coboundaries of v4 for 3, times 8
	}{{"c3", 5, 16}, {"c3", 7, 36}, {"c3", 11, 100}, {"v4", 2, 1}, {"v4", 3, 16}, {"c4", 2, 1}, {"c4", 3, 8}} {
		for _, g := range renamings(knownGroup(t, look.name)) {
			found := int64(0)
			for number := range plainCount(look.p-1, (g.Order-1)*(g.Order-1)) {
				if checkCocycle(t, look.p, g, tableAt(g.Order, 1, look.p-1, 1, number)) {
					found++
				}
			}
			if found != look.want {
				t.Errorf("there are %d cocycles of %v for %d instead of %d", found, g, look.p, look.want)
			}
		}
	}
}

// unitLists returns lists of n numbers other than 0 modulo p, all of them if there are at most 300.
func unitLists(p, n int64) [][]int64 {
	const most = 300
	count := plainCount(p-1, n)
	var lists [][]int64
	for i := range min(count, most) {
		number := i
		if count > most && i >= 10 {
			number = i * 999983 % count
		}
		list := []int64{}
		for range n {
			list = append(list, 1+number%(p-1))
			number /= p - 1
		}
		lists = append(lists, list)
	}
	return lists
}

// plainCoboundary finds each number as the one that fits.
func plainCoboundary(p int64, g impl.Group, list []int64) [][]int64 {
	table := onesTable(g.Order)
	for i := range g.Order {
		for j := range g.Order {
			for number := range p {
				if number*list[at(g, i, j)]*list[0]%p == list[i]*list[j]%p {
					table[i][j] = number
				}
			}
		}
	}
	return table
}

// Promise 6: coboundaries are cocycles.
func TestCoboundariesAreCocycles(t *testing.T) {
	for _, g := range fewGroups(t) {
		for _, p := range primes {
			for _, list := range unitLists(p, g.Order) {
				table, code := impl.CoboundaryOf(p, g, list)
				if !sameTables(table, plainCoboundary(p, g, list)) || code != impl.ErrNone {
					t.Errorf("CoboundaryOf(%d, %v, %v) = %v, %d", p, g, list, table, code)
				}
				if yes, code := impl.IsCocycle(p, g, table); !yes || code != impl.ErrNone || !isPlainCocycle(p, g, table) {
					t.Errorf("IsCocycle(%d, %v, %v) = %v, %d", p, g, table, yes, code)
				}
			}
		}
	}
	for _, g := range sampleGroups(t) {
		for _, p := range primes {
			lists := unitLists(p, g.Order)
			for _, list := range lists[len(lists)-min(len(lists), 5):] {
				if table := coboundaryOf(t, p, g, list); !isPlainCocycle(p, g, table) || !checkCocycle(t, p, g, table) {
					t.Errorf("CoboundaryOf(%d, %v, %v) = %v is no cocycle", p, g, list, table)
				}
			}
		}
	}
}

func TestCoboundaries(t *testing.T) {
	for _, look := range []struct {
		name string
		p    int64
		list []int64
		want [][]int64
	}{
		{"c1", 2, []int64{1}, [][]int64{{1}}},
		{"c1", 13, []int64{12}, [][]int64{{1}}},
		{"c2", 2, []int64{1, 1}, [][]int64{{1, 1}, {1, 1}}},
		{"c2", 5, []int64{1, 2}, [][]int64{{1, 1}, {1, 4}}},
		{"c2", 5, []int64{2, 1}, [][]int64{{1, 1}, {1, 4}}},
		{"c2", 7, []int64{3, 5}, [][]int64{{1, 1}, {1, 2}}},
		{"c3", 7, []int64{1, 2, 3}, [][]int64{{1, 1, 1}, {1, 6, 6}, {1, 6, 1}}},
		{"s3", 3, []int64{2, 1, 1, 1, 1, 1}, [][]int64{{1, 1, 1, 1, 1, 1}, {1, 2, 1, 2, 2, 2}, {1, 1, 2, 2, 2, 2}, {1, 2, 2, 1, 2, 2}, {1, 2, 2, 2, 1, 2}, {1, 2, 2, 2, 2, 1}}},
	} {
		if table := coboundaryOf(t, look.p, knownGroup(t, look.name), look.list); !sameTables(table, look.want) {
			t.Errorf("CoboundaryOf(%d, %s, %v) = %v", look.p, look.name, look.list, table)
		}
	}
}

// TestTwistedByCoboundaries checks that multiples of the basis of a group algebra have the products of
// the algebra that is twisted by a coboundary.
func TestTwistedByCoboundaries(t *testing.T) {
	for _, g := range fewGroups(t) {
		for _, p := range primes {
			whole := groupAlgebra(t, p, g)
			lists := unitLists(p, g.Order)
			for _, list := range lists[:min(20, len(lists))] {
				twisted := twistedAlgebra(t, p, g, coboundaryOf(t, p, g, list))
				var multiples []impl.Vector
				for i, number := range list {
					multiples = append(multiples, plainSum(whole, impl.Vector{}, basis(int64(i)), number*plainInverse(p, list[0])))
				}
				for i, v := range multiples {
					for j, w := range multiples {
						if times(t, whole, v, w) != imageOf(twisted, multiples, twisted.Table[i][j]) {
							t.Errorf("the algebra of %v for %d, twisted by %v, is %v", g, p, list, twisted)
						}
					}
				}
			}
		}
	}
}

// carryTable returns the table for c2 to c6 with a number where i + j is at least n, and else 1.
func carryTable(n, number int64) [][]int64 {
	table := onesTable(n)
	for i := range n {
		for j := n - i; j < n; j++ {
			table[i][j] = number
		}
	}
	return table
}

// isCoboundary looks through all lists with 1 at 0, which give all coboundaries.
func isCoboundary(t *testing.T, p int64, g impl.Group, table [][]int64) bool {
	t.Helper()
	for number := range plainCount(p-1, g.Order-1) {
		list := []int64{1}
		for range g.Order - 1 {
			list = append(list, 1+number%(p-1))
			number /= p - 1
		}
		if sameTables(coboundaryOf(t, p, g, list), table) {
			return true
		}
	}
	return false
}

// TestCarries checks cocycles of cyclic groups, which are coboundaries for powers alone: the twisted
// algebra has a vector whose power with n factors is the number.
func TestCarries(t *testing.T) {
	others := 0
	for n := int64(2); n <= 6; n++ {
		g := knownGroup(t, "c"+digit(n))
		for _, p := range primes {
			for number := int64(1); number < p; number++ {
				table := carryTable(n, number)
				if !checkCocycle(t, p, g, table) {
					t.Errorf("IsCocycle(%d, %v, %v) is false", p, g, table)
				}
				if list := regularClasses(t, p, g, table); !slices.Equal(list, counted(int(n))) {
					t.Errorf("RegularClasses(%d, %v, %v) = %v", p, g, table, list)
				}
				twisted := twistedAlgebra(t, p, g, table)
				if power, code := impl.PowerVector(twisted, basis(1), n); power != (impl.Vector{byte(number)}) || code != impl.ErrNone {
					t.Errorf("the power %d in the algebra twisted by %v is %v, %d", n, table, power, code)
				}
				if plainCount(p-1, n-1) > 2000 {
					continue
				}
				isPower := slices.ContainsFunc(unitLists(p, 1), func(list []int64) bool { return plainPower(p, list[0], n) == number })
				if isCoboundary(t, p, g, table) != isPower {
					t.Errorf("%v is a coboundary for %d: %v", table, p, !isPower)
				}
				if !isPower {
					others++
				}
			}
		}
	}
	if others < 30 {
		t.Errorf("only %d cocycles are no coboundaries", others)
	}
}

// TestTwistedFields checks that c2, twisted by what is no square, has the field of p p numbers.
func TestTwistedFields(t *testing.T) {
	for _, p := range primes[1:] {
		for number := int64(1); number < p; number++ {
			twisted := twistedAlgebra(t, p, knownGroup(t, "c2"), carryTable(2, number))
			want := []int64{2}
			for root := range p {
				if root*root%p == number {
					want = []int64{1, 1}
				}
			}
			if degrees, code := impl.DegreesOfParts(twisted); !slices.Equal(degrees, want) || code != impl.ErrNone {
				t.Errorf("c2 twisted by %d for %d has the degrees %v, %d", number, p, degrees, code)
			}
		}
	}
}

// signTable returns the table of v4 with the product of first where both first digits of i and j are 1,
// of second where both second digits are, and of mixed where the first one of i and the second one of j
// are.
func signTable(p, first, second, mixed int64) [][]int64 {
	table := onesTable(4)
	for i := range int64(4) {
		for j := range int64(4) {
			number := plainPower(p, first, i/2*(j/2)) * plainPower(p, second, i%2*(j%2)) * plainPower(p, mixed, i/2*(j%2))
			table[i][j] = number % p
		}
	}
	return table
}

// TestFewRegularClasses checks cocycles of v4 for which only the class of the unit is regular.
func TestFewRegularClasses(t *testing.T) {
	g := knownGroup(t, "v4")
	for _, p := range primes[1:] {
		for _, first := range []int64{1, p - 1} {
			for _, second := range []int64{1, p - 1} {
				table := signTable(p, first, second, p-1)
				if !checkCocycle(t, p, g, table) || isCoboundary(t, p, g, table) {
					t.Errorf("%v is no cocycle of v4 for %d, or a coboundary", table, p)
				}
				if list := regularClasses(t, p, g, table); !slices.Equal(list, []int64{0}) {
					t.Errorf("RegularClasses(%d, v4, %v) = %v", p, table, list)
				}
				plain := signTable(p, first, second, 1)
				if list := regularClasses(t, p, g, plain); !checkCocycle(t, p, g, plain) || !slices.Equal(list, []int64{0, 1, 2, 3}) {
					t.Errorf("RegularClasses(%d, v4, %v) = %v", p, plain, list)
				}
			}
		}
		// Products with coboundaries change no regular classes.
		for _, list := range unitLists(p, 4)[:8] {
			table, other := signTable(p, 1, 1, p-1), coboundaryOf(t, p, g, list)
			for i := range table {
				for j := range table[i] {
					table[i][j] = table[i][j] * other[i][j] % p
				}
			}
			if !checkCocycle(t, p, g, table) || !slices.Equal(regularClasses(t, p, g, table), []int64{0}) {
				t.Errorf("%v is no such cocycle of v4 for %d", table, p)
			}
		}
	}
}

// TestSignsOfTriangles checks the carries of s3 by what turns over.
func TestSignsOfTriangles(t *testing.T) {
	g := knownGroup(t, "s3")
	for _, p := range primes {
		for number := int64(1); number < p; number++ {
			table := onesTable(6)
			for i := 3; i < 6; i++ {
				for j := 3; j < 6; j++ {
					table[i][j] = number
				}
			}
			if !checkCocycle(t, p, g, table) || !slices.Equal(regularClasses(t, p, g, table), []int64{0, 1, 2}) {
				t.Errorf("%v is no such cocycle of s3 for %d", table, p)
			}
		}
	}
}

// TestChangedCocycles changes one number of cocycles, at any place.
func TestChangedCocycles(t *testing.T) {
	counts := map[bool]int{}
	for _, g := range fewGroups(t) {
		for _, p := range primes {
			lists := unitLists(p, g.Order)
			table := coboundaryOf(t, p, g, lists[len(lists)/2])
			for i := range table {
				for j := range table {
					for number := range p {
						changed := slices.Clone(table)
						changed[i] = slices.Clone(table[i])
						changed[i][j] = number
						counts[checkCocycle(t, p, g, changed)]++
					}
				}
			}
		}
	}
	if counts[true] < 1000 || counts[false] < 1000 {
		t.Errorf("there are too few cocycles, or others: %v", counts)
	}
}

// TestOtherFirstNumbers checks tables of one number, which lack nothing but 1 at 0, 0.
func TestOtherFirstNumbers(t *testing.T) {
	for _, g := range fewGroups(t) {
		for _, p := range primes {
			for number := range p {
				table := onesTable(g.Order)
				for i := range table {
					for j := range table {
						table[i][j] = number
					}
				}
				if yes, code := impl.IsCocycle(p, g, table); yes != (number == 1) || code != impl.ErrNone {
					t.Errorf("IsCocycle(%d, %v, %v) = %v, %d", p, g, table, yes, code)
				}
				if number != 1 {
					checkNoCocycle(t, "one number", p, g, table, impl.ErrRange)
				}
			}
		}
	}
}

func TestBadTables(t *testing.T) {
	for _, name := range groupNames {
		g := knownGroup(t, name)
		for _, p := range primes {
			for why, table := range badTables(p, g.Order) {
				checkNoTwist(t, why, p, g, table, impl.ErrRange)
			}
		}
		for _, p := range notPrimes {
			checkNoAlgebras(t, "no prime", p, g, impl.ErrRange)
			for _, table := range [][][]int64{nil, onesTable(g.Order), onesTable(g.Order + 1)} {
				checkNoTwist(t, "no prime", p, g, table, impl.ErrRange)
			}
			for _, list := range [][]int64{nil, onesTable(g.Order)[0], onesTable(7)[0]} {
				checkNoCoboundary(t, "no prime", p, g, list, impl.ErrRange)
			}
		}
	}
}

func TestBadLists(t *testing.T) {
	for _, name := range groupNames {
		g := knownGroup(t, name)
		for _, p := range primes {
			for length := range 9 {
				list := slices.Repeat([]int64{1}, length)
				if int64(length) != g.Order {
					checkNoCoboundary(t, "length", p, g, list, impl.ErrRange)
				}
				for i := range list {
					for _, number := range append([]int64{0, p, p + 1, 2 * p, 1 + 256*p}, wildNumbers...) {
						changed := slices.Clone(list)
						changed[i] = number
						checkNoCoboundary(t, "number", p, g, changed, impl.ErrRange)
					}
				}
			}
			checkNoCoboundary(t, "nil", p, g, nil, impl.ErrRange)
		}
	}
}

// plainSurfaces counts the lists of elements by following all of them.
func plainSurfaces(g impl.Group, genus int64, product int64) int64 {
	if genus == 0 {
		if product == 0 {
			return 1
		}
		return 0
	}
	count := int64(0)
	for a := range g.Order {
		for b := range g.Order {
			count += plainSurfaces(g, genus-1, at(g, product, a, b, back(g, a), back(g, b)))
		}
	}
	return count
}

func TestSurfaceCounts(t *testing.T) {
	for _, g := range sampleGroups(t) {
		for genus := int64(0); genus <= 2; genus++ {
			if want := plainSurfaces(g, genus, 0); surfaces(t, g, genus) != want {
				t.Errorf("CountSurface(%v, %d) = %d instead of %d", g, genus, surfaces(t, g, genus), want)
			}
		}
	}
	for _, name := range groupNames {
		g := knownGroup(t, name)
		for genus := int64(3); plainCount(g.Order, 2*genus) < 100000 && genus <= 8; genus++ {
			if want := plainSurfaces(g, genus, 0); surfaces(t, g, genus) != want {
				t.Errorf("CountSurface(%s, %d) = %d instead of %d", name, genus, surfaces(t, g, genus), want)
			}
		}
	}
	if count := surfaces(t, knownGroup(t, "c2"), 1); count != 4 {
		t.Errorf("CountSurface(c2, 1) = %d", count)
	}
}

// checkSurface checks a surface count, or that it is too great.
func checkSurface(t *testing.T, g impl.Group, genus, want int64) {
	t.Helper()
	wantCode := int64(impl.ErrNone)
	if want > 1000000000000 {
		want, wantCode = 0, impl.ErrLimit
	}
	if count, code := impl.CountSurface(g, genus); count != want || code != wantCode {
		t.Errorf("CountSurface(%v, %d) = %d, %d instead of %d, %d", g, genus, count, code, want, wantCode)
	}
}

// TestSurfaceLimits checks the counts of all genera by rules: in abelian groups each commutator is the
// unit; for s3 the counts are told by its representations of the dimensions 1, 1, 2. No count is just
// the limit; s3 comes near it, and c6 goes beyond it, for the genus 8 alone.
func TestSurfaceLimits(t *testing.T) {
	limits := 0
	for _, g := range sampleGroups(t) {
		for genus := range int64(9) {
			want := plainCount(g.Order, 2*genus)
			if !isAbelian(g) && genus > 0 {
				want = 2*plainCount(6, 2*genus-1) + 6*plainCount(9, genus-1)
			}
			checkSurface(t, g, genus, want)
			if want > 1000000000000 {
				limits++
			}
		}
		for _, genus := range append([]int64{-1, 9, 10, 30, 31}, wildNumbers...) {
			if count, code := impl.CountSurface(g, genus); count != 0 || code != impl.ErrRange {
				t.Errorf("CountSurface(%v, %d) = %d, %d", g, genus, count, code)
			}
		}
	}
	if limits != 60 {
		t.Errorf("%d counts are beyond the limit", limits)
	}
	checkSurface(t, knownGroup(t, "s3"), 8, 940398666966)
	checkSurface(t, knownGroup(t, "c6"), 8, 2821109907456)
	checkSurface(t, knownGroup(t, "c6"), 7, 78364164096)
	checkSurface(t, knownGroup(t, "c5"), 8, 152587890625)
	checkSurface(t, knownGroup(t, "c1"), 8, 1)
}

// Promise 14, the part on surface groups: the order to the power of the genus, times the genus number of
// the class algebra, is the surface count modulo the prime.
func TestSurfaceCountsAreGenusNumbers(t *testing.T) {
	looked := 0
	for _, g := range sampleGroups(t) {
		for _, p := range primes {
			a := classAlgebra(t, p, g)
			for genus := range int64(9) {
				number, code := impl.GenusNumber(a, genus)
				if hasClassOfMultiples(p, g) {
					if number != 0 || code != impl.ErrState {
						t.Errorf("GenusNumber(%v, %d) = %d, %d", a, genus, number, code)
					}
					continue
				}
				count, limit := impl.CountSurface(g, genus)
				if limit == impl.ErrLimit && genus == 8 {
					continue
				}
				if want := plainPower(p, g.Order, genus) * number % p; count%p != want || code != impl.ErrNone || limit != impl.ErrNone {
					t.Errorf("CountSurface(%v, %d) = %d, %d instead of %d modulo %d", g, genus, count, limit, want, p)
				}
				looked++
			}
		}
	}
	if looked < 4000 {
		t.Errorf("only %d counts are genus numbers", looked)
	}
}

// TestSurfacesOfSpheres checks that there is one empty list, also for the class algebras: the form of the
// unit is 1.
func TestSurfacesOfSpheres(t *testing.T) {
	for _, g := range sampleGroups(t) {
		if count := surfaces(t, g, 0); count != 1 {
			t.Errorf("CountSurface(%v, 0) = %d", g, count)
		}
		for _, p := range primes {
			a := classAlgebra(t, p, g)
			if form, code := impl.FormOf(a, unitOf(t, a)); form != 1 || code != impl.ErrNone {
				t.Errorf("the form of the unit of %v is %d, %d", a, form, code)
			}
		}
	}
}

// Promise 6: there are as many commuting pairs as elements times classes. They are the lists for the
// genus 1 too, whose product of commutators is the unit.
func TestCommutingPairs(t *testing.T) {
	for _, g := range sampleGroups(t) {
		count, code := impl.CommutingPairs(g)
		want := int64(0)
		for x := range g.Order {
			for y := range g.Order {
				if g.Table[x][y] == g.Table[y][x] {
					want++
				}
			}
		}
		if count != want || code != impl.ErrNone {
			t.Errorf("CommutingPairs(%v) = %d, %d instead of %d", g, count, code, want)
		}
		if classes := classesOf(t, g); count != g.Order*int64(len(classes)) || count != surfaces(t, g, 1) {
			t.Errorf("CommutingPairs(%v) = %d, with %v and %d", g, count, classes, surfaces(t, g, 1))
		}
	}
	for name, want := range map[string]int64{"c1": 1, "c2": 4, "c3": 9, "c4": 16, "c5": 25, "c6": 36, "v4": 16, "s3": 18} {
		if count, code := impl.CommutingPairs(knownGroup(t, name)); count != want || code != impl.ErrNone {
			t.Errorf("CommutingPairs(%s) = %d, %d", name, count, code)
		}
	}
}

// plainHomomorphisms counts the maps that keep products, image by image: a map is left as soon as a
// product of elements with images has another image.
func plainHomomorphisms(g, h impl.Group, images []int64) int64 {
	known := int64(len(images))
	for i := range known {
		for j := range known {
			product := at(g, i, j)
			if product < known && images[product] != int64(h.Table[images[i]][images[j]]) {
				return 0
			}
		}
	}
	if known == g.Order {
		return 1
	}
	count := int64(0)
	for image := range h.Order {
		count += plainHomomorphisms(g, h, append(slices.Clone(images), image))
	}
	return count
}

func checkHomomorphisms(t *testing.T, g, h impl.Group, want int64) {
	t.Helper()
	if count, code := impl.CountHomomorphisms(g, h); count != want || code != impl.ErrNone {
		t.Errorf("CountHomomorphisms(%v, %v) = %d, %d instead of %d", g, h, count, code, want)
	}
}

// TestHomomorphisms checks the numbers between all known groups, in their order.
func TestHomomorphisms(t *testing.T) {
	wants := map[string][]int64{
		"c1": {1, 1, 1, 1, 1, 1, 1, 1},
		"c2": {1, 2, 1, 2, 1, 2, 4, 4},
		"c3": {1, 1, 3, 1, 1, 3, 1, 3},
		"c4": {1, 2, 1, 4, 1, 2, 4, 4},
		"c5": {1, 1, 1, 1, 5, 1, 1, 1},
		"c6": {1, 2, 3, 2, 1, 6, 4, 6},
		"v4": {1, 4, 1, 4, 1, 4, 16, 10},
		"s3": {1, 2, 1, 2, 1, 2, 4, 10},
	}
	for name, want := range wants {
		for i, other := range groupNames {
			g, h := knownGroup(t, name), knownGroup(t, other)
			checkHomomorphisms(t, g, h, want[i])
			if plain := plainHomomorphisms(g, h, nil); plain != want[i] {
				t.Errorf("there are %d homomorphisms from %s to %s instead of %d", plain, name, other, want[i])
			}
		}
	}
}

// TestHomomorphismsOfRenamed checks that other names of elements change no numbers, at either side.
func TestHomomorphismsOfRenamed(t *testing.T) {
	few := fewGroups(t)
	for _, g := range sampleGroups(t) {
		for _, name := range groupNames {
			h := knownGroup(t, name)
			checkHomomorphisms(t, g, h, plainHomomorphisms(g, h, nil))
			checkHomomorphisms(t, h, g, plainHomomorphisms(h, g, nil))
		}
		h := few[(3*int(g.Table[1][2])+int(g.Table[2][3]))%len(few)]
		checkHomomorphisms(t, g, h, plainHomomorphisms(g, h, nil))
	}
}

// TestHomomorphismsOfCyclic checks that those of c2 to c6 are as many as the elements whose power with
// so many factors is the unit, and those of v4 as many as commuting pairs of such elements.
func TestHomomorphismsOfCyclic(t *testing.T) {
	for _, h := range sampleGroups(t) {
		for n := int64(1); n <= 6; n++ {
			want := int64(0)
			for x := range h.Order {
				if at(h, slices.Repeat([]int64{x}, int(n))...) == 0 {
					want++
				}
			}
			checkHomomorphisms(t, knownGroup(t, "c"+digit(n)), h, want)
		}
		pairs := int64(0)
		for x := range h.Order {
			for y := range h.Order {
				if at(h, x, x) == 0 && at(h, y, y) == 0 && at(h, x, y) == at(h, y, x) {
					pairs++
				}
			}
		}
		checkHomomorphisms(t, knownGroup(t, "v4"), h, pairs)
	}
}

// checkRows checks that rows of numbers share no memory, also behind their ends, and that the next
// result is the same whatever is done with them.
func checkRows(t *testing.T, why string, call func() [][]int64) {
	t.Helper()
	rows := call()
	var copied [][]int64
	for _, row := range rows {
		copied = append(copied, slices.Clone(row))
	}
	for i, row := range rows {
		all := row[:cap(row)]
		for k := range all {
			all[k] = 99
		}
		if i+1 < len(rows) && !sameTables(rows[i+1:], copied[i+1:]) {
			t.Errorf("%s: %v became %v by its row %d", why, copied, rows, i)
		}
		for _, other := range rows[:i] {
			other[0] = 98
			if slices.Contains(row, 98) {
				t.Errorf("%s: the row %d shares memory", why, i)
			}
		}
	}
	clear(rows[:cap(rows)])
	if again := call(); len(again) == 0 || !sameTables(again, copied) {
		t.Errorf("%s: %v, and then %v", why, copied, again)
	}
}

// spareRows returns a table whose rows, and which itself, have more behind their ends, and the rows with
// that.
func spareRows(table [][]int64) ([][]int64, [][]int64) {
	var rows, all [][]int64
	for _, row := range table {
		long := append(slices.Clone(row), 77, 78, 79, 80, 81, 82, 83)
		rows, all = append(rows, long[:len(row)]), append(all, long)
	}
	more := append(rows, []int64{70, 71}, nil, nil, nil)
	return more[:len(rows)], append(all, more[len(rows)])
}

func TestGroupMemory(t *testing.T) {
	for _, g := range fewGroups(t) {
		checkRows(t, "ClassesOf", func() [][]int64 {
			classes, _ := impl.ClassesOf(g)
			return classes
		})
		for _, p := range primes {
			list := append(unitLists(p, g.Order)[0], 77, 78, 79, 80, 81, 82)
			checkRows(t, "CoboundaryOf", func() [][]int64 {
				table, _ := impl.CoboundaryOf(p, g, list[:g.Order])
				return table
			})
			checkMemory(t, "CoboundaryOf", func() []int64 { return slices.Concat(coboundaryOf(t, p, g, list[:g.Order])...) }, list)
			kept := coboundaryOf(t, p, g, list[:g.Order])
			table, all := spareRows(kept)
			checkMemory(t, "RegularClasses", func() []int64 { return regularClasses(t, p, g, table) }, all...)
			checkMemory(t, "TwistedAlgebra", func() []int64 { return numbersOf(twistedAlgebra(t, p, g, table), impl.Vector{1}) }, all...)
			checkMemory(t, "IsCocycle", func() []int64 {
				impl.IsCocycle(p, g, table)
				return nil
			}, all...)
			more := table[:len(table)+3]
			if !sameTables(table, kept) || !sameTables(more[len(table):], [][]int64{{70, 71}, nil, nil}) {
				t.Errorf("%v and what is behind it became %v", kept, more)
			}
		}
	}
}
