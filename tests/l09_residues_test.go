package tests

import (
	"slices"
	"strconv"
	"testing"

	"loop.example/g01267/impl"
)

// polynomialLists returns the lists of all polynomials of the degree d if there are at most 130, and else
// of as many of them that lie far apart, powers of x and what is near them among them.
func polynomialLists(p int64, d int) [][]int64 {
	const most = 130
	count := plainCount(p, int64(d))
	var lists [][]int64
	for i := range min(count, most) {
		number := i
		if count > most && i >= 10 {
			number = i * 999983 % count
		}
		lists = append(lists, polynomialAt(p, d, number)[:d])
	}
	return lists
}

// forPolynomials looks at polynomials of all degrees for all primes.
func forPolynomials(look func(p int64, list []int64)) {
	for _, p := range primes {
		for d := 1; d <= 6; d++ {
			for _, list := range polynomialLists(p, d) {
				look(p, list)
			}
		}
	}
}

// whole returns the numbers of a polynomial together with the last one, which is 1.
func whole(list []int64) []int64 {
	return append(slices.Clone(list), 1)
}

// plainAt is the value of a polynomial at r, power by power.
func plainAt(p int64, list []int64, r int64) int64 {
	sum := int64(0)
	for i, number := range whole(list) {
		sum += number * plainPower(p, r, int64(i))
	}
	return sum % p
}

// plainSlope is the slope straight from the definition.
func plainSlope(p int64, list []int64, r int64) int64 {
	sum := int64(0)
	for i, number := range whole(list) {
		if i > 0 {
			sum += int64(i) * number * plainPower(p, r, int64(i-1))
		}
	}
	return sum % p
}

func plainRoots(p int64, list []int64) []int64 {
	var roots []int64
	for r := range p {
		if plainAt(p, list, r) == 0 {
			roots = append(roots, r)
		}
	}
	return roots
}

// plainRootNumber is the sum of powers of slopes at different roots.
func plainRootNumber(p int64, list []int64, g int64) int64 {
	sum := int64(0)
	for _, r := range plainRoots(p, list) {
		slope := plainSlope(p, list, r)
		if g == 0 {
			sum += plainInverse(p, slope)
		} else {
			sum += plainPower(p, slope, g-1)
		}
	}
	return sum % p
}

// plainByRoots returns the list of the product of x - r for all r.
func plainByRoots(p int64, roots []int64) []int64 {
	f := []int64{1}
	for _, r := range roots {
		f = polynomialTimes(p, f, []int64{(p - r) % p, 1})
	}
	return f[:len(roots)]
}

// rootSets returns the ascending lists of d different numbers modulo p: all if there are at most so many,
// and else some that are equally far apart.
func rootSets(p int64, d int, most int) [][]int64 {
	var sets [][]int64
	for number := range 1 << p {
		var set []int64
		for r := range p {
			if number>>r&1 == 1 {
				set = append(set, r)
			}
		}
		if len(set) == d {
			sets = append(sets, set)
		}
	}
	step := (len(sets) + most - 1) / most
	var some [][]int64
	for i := 0; i < len(sets); i += step {
		some = append(some, sets[i])
	}
	return some
}

func polynomialAlgebra(t *testing.T, p int64, list []int64) impl.Algebra {
	t.Helper()
	a, code := impl.PolynomialAlgebra(p, list)
	if code != impl.ErrNone {
		t.Fatalf("PolynomialAlgebra(%d, %v): code %d", p, list, code)
	}
	return a
}

func stairsAlgebra(t *testing.T, p int64, stairs []int64) impl.Algebra {
	t.Helper()
	a, code := impl.StairsAlgebra(p, stairs)
	if code != impl.ErrNone {
		t.Fatalf("StairsAlgebra(%d, %v): code %d", p, stairs, code)
	}
	return a
}

func socleOf(t *testing.T, a impl.Algebra) []impl.Vector {
	t.Helper()
	list, code := impl.SocleOf(a)
	if code != impl.ErrNone {
		t.Fatalf("SocleOf(%v): code %d", a, code)
	}
	return list
}

// isFrobenius returns the program's own answer.
func isFrobenius(t *testing.T, a impl.Algebra) bool {
	t.Helper()
	yes, code := impl.IsFrobenius(a)
	if code != impl.ErrNone {
		t.Fatalf("IsFrobenius(%v): code %d", a, code)
	}
	return yes
}

// Promise 9: algebras of polynomials are Frobenius.
func TestPolynomialAlgebras(t *testing.T) {
	forPolynomials(func(p int64, list []int64) {
		a, code := impl.PolynomialAlgebra(p, list)
		if want := polynomialsBy(p, whole(list)); a != want || code != impl.ErrNone {
			t.Errorf("PolynomialAlgebra(%d, %v) = %v, %d instead of %v", p, list, a, code, want)
		}
		if !impl.IsAlgebra(a) || !isPlainCommutative(a) || !isPlainFrobenius(a) || !isFrobenius(t, a) {
			t.Errorf("%v, of %v, is no commutative Frobenius algebra", a, list)
		}
	})
}

// TestProductsOfPolynomials checks products against products of polynomials and their rests, and forms
// against the number of the greatest power.
func TestProductsOfPolynomials(t *testing.T) {
	forPolynomials(func(p int64, list []int64) {
		a := polynomialAlgebra(t, p, list)
		vectors := drawnVectors(a, 5)
		for i, v := range vectors {
			w := vectors[(i+1)%5]
			want := vectorFrom(restBy(p, polynomialTimes(p, numbersOf(a, v), numbersOf(a, w)), whole(list)))
			if x := times(t, a, v, w); x != want {
				t.Errorf("modulo %v and %d, %v times %v is %v instead of %v", list, p, v, w, x, want)
			}
			if n, code := impl.FormOf(a, v); n != int64(v[len(list)-1]) || code != impl.ErrNone {
				t.Errorf("FormOf(%v, %v) = %d, %d", a, v, n, code)
			}
		}
		if unit := unitOf(t, a); unit != basis(0) {
			t.Errorf("modulo %v and %d, the unit is %v", list, p, unit)
		}
	})
}

func TestPolynomialExamples(t *testing.T) {
	for _, p := range primes {
		if a := polynomialAlgebra(t, p, []int64{0, 0}); a != named(t, "dual", p) {
			t.Errorf("PolynomialAlgebra(%d, 0 0) = %v", p, a)
		}
		// The third roots of the unit are cyclic3 with another form.
		cyclic := named(t, "cyclic3", p)
		cyclic.Form = basis(2)
		if a := polynomialAlgebra(t, p, []int64{p - 1, 0, 0}); a != cyclic {
			t.Errorf("PolynomialAlgebra(%d, x^3 - 1) = %v", p, a)
		}
		// In degree 1, x is a number, and the powers are 1 alone.
		for number := range p {
			if a := polynomialAlgebra(t, p, []int64{number}); a != named(t, "field", p) {
				t.Errorf("PolynomialAlgebra(%d, %d) = %v", p, number, a)
			}
			if roots, code := impl.RootsOf(p, []int64{number}); !slices.Equal(roots, []int64{(p - number) % p}) || code != impl.ErrNone {
				t.Errorf("RootsOf(%d, %d) = %v, %d", p, number, roots, code)
			}
			for _, g := range []int64{0, 1, 2, 30} {
				if n, code := impl.RootNumber(p, []int64{number}, g); n != 1 || code != impl.ErrNone {
					t.Errorf("RootNumber(%d, %d, %d) = %d, %d", p, number, g, n, code)
				}
			}
		}
	}
	if impl.MaxRoots != 6 {
		t.Errorf("MaxRoots is %d", impl.MaxRoots)
	}
}

// Guarantee of chapter 9: roots solve polynomials. They are looked for among all numbers.
func TestRoots(t *testing.T) {
	counts := map[int]int{}
	forPolynomials(func(p int64, list []int64) {
		roots, code := impl.RootsOf(p, list)
		if !slices.Equal(roots, plainRoots(p, list)) || code != impl.ErrNone {
			t.Errorf("RootsOf(%d, %v) = %v, %d", p, list, roots, code)
		}
		counts[len(roots)]++
	})
	for count := range 5 {
		if counts[count] < 20 {
			t.Errorf("only %d polynomials have %d roots", counts[count], count)
		}
	}
}

// TestRootsByInverses checks that x - r has an inverse exactly if r is no root.
func TestRootsByInverses(t *testing.T) {
	for _, p := range primes {
		for d := 2; d <= 6; d++ {
			for _, list := range polynomialLists(p, d)[:min(20, plainCount(p, int64(d)))] {
				a := polynomialAlgebra(t, p, list)
				roots, _ := impl.RootsOf(p, list)
				for r := range p {
					yes, code := impl.IsInvertible(a, impl.Vector{byte((p - r) % p), 1})
					if yes == slices.Contains(roots, r) || code != impl.ErrNone {
						t.Errorf("RootsOf(%d, %v) = %v, and x - %d has an inverse: %v, %d", p, list, roots, r, yes, code)
					}
				}
			}
		}
	}
}

// TestSlopes checks slopes at all numbers, roots or not, and that they are 0 at those roots alone that are
// roots twice.
func TestSlopes(t *testing.T) {
	twice := 0
	forPolynomials(func(p int64, list []int64) {
		for r := range p {
			n, code := impl.SlopeAt(p, list, r)
			if n != plainSlope(p, list, r) || code != impl.ErrNone {
				t.Errorf("SlopeAt(%d, %v, %d) = %d, %d", p, list, r, n, code)
			}
			square := polynomialTimes(p, []int64{(p - r) % p, 1}, []int64{(p - r) % p, 1})
			isTwice := len(list) >= 2 && vectorFrom(restBy(p, whole(list), square)) == (impl.Vector{})
			if plainAt(p, list, r) == 0 && isTwice != (n == 0) {
				t.Errorf("SlopeAt(%d, %v, %d) = %d", p, list, r, n)
			}
			if isTwice {
				twice++
			}
		}
	})
	if twice < 50 {
		t.Errorf("there are only %d roots twice", twice)
	}
}

// checkRootNumbers checks all root numbers of a polynomial with these different roots, and numbers that are
// out of the range.
func checkRootNumbers(t *testing.T, p int64, roots []int64) {
	t.Helper()
	list := plainByRoots(p, roots)
	for g := range int64(31) {
		if n, code := impl.RootNumber(p, list, g); n != plainRootNumber(p, list, g) || code != impl.ErrNone {
			t.Errorf("RootNumber(%d, %v, %d) = %d, %d", p, list, g, n, code)
		}
	}
	for _, g := range append([]int64{31, 32, 60, 1000}, wildGenera()...) {
		if n, code := impl.RootNumber(p, list, g); n != 0 || code != impl.ErrRange {
			t.Errorf("RootNumber(%d, %v, %d) = %d, %d", p, list, g, n, code)
		}
	}
}

// wildGenera returns the wild numbers that are not in 0..30.
func wildGenera() []int64 {
	return slices.DeleteFunc(slices.Clone(wildNumbers), func(g int64) bool { return g >= 0 && g <= 30 })
}

func TestRootNumbers(t *testing.T) {
	count := 0
	for _, p := range primes {
		for d := 1; d <= min(6, int(p)); d++ {
			for _, roots := range rootSets(p, d, 300) {
				checkRootNumbers(t, p, roots)
				count++
			}
		}
	}
	if count < 1500 {
		t.Errorf("there are only %d polynomials with all their roots", count)
	}
}

// Promise 17: root numbers are genus numbers.
func TestRootNumbersAreGenusNumbers(t *testing.T) {
	for _, p := range primes {
		for d := 1; d <= min(6, int(p)); d++ {
			for _, roots := range rootSets(p, d, 120) {
				list := plainByRoots(p, roots)
				a := polynomialAlgebra(t, p, list)
				for g := range int64(31) {
					n, code := impl.RootNumber(p, list, g)
					genus, genusCode := impl.GenusNumber(a, g)
					if n != genus || code != impl.ErrNone || genusCode != impl.ErrNone {
						t.Errorf("RootNumber(%d, %v, %d) = %d, %d, and the genus number is %d, %d", p, list, g, n, code, genus, genusCode)
					}
				}
			}
		}
	}
}

// TestRootNumberExamples checks numbers that are worked out by hand: x^2 - x has the slopes -1 and 1.
func TestRootNumberExamples(t *testing.T) {
	for _, p := range primes {
		for g, want := range map[int64]int64{0: 0, 1: 2 % p, 2: 0, 3: 2 % p, 29: 2 % p, 30: 0} {
			if n, code := impl.RootNumber(p, []int64{0, p - 1}, g); n != want || code != impl.ErrNone {
				t.Errorf("RootNumber(%d, x^2 - x, %d) = %d, %d", p, g, n, code)
			}
		}
	}
	// The slopes of x^4 - 1 modulo 5 are 4 r^3, at 1 to 4: 4, 2, 3, 1.
	for g, want := range []int64{0, 4, 0, 0, 0, 4} {
		if n, code := impl.RootNumber(5, []int64{4, 0, 0, 0}, int64(g)); n != want || code != impl.ErrNone {
			t.Errorf("RootNumber(5, x^4 - 1, %d) = %d, %d", g, n, code)
		}
	}
	// Those of x^3 - 1 modulo 7 are 3 r^2, at 1, 2, 4: 3, 5, 6; the inverses are 5, 3, 6, and each cube is 6.
	for g, want := range []int64{0, 3, 0, 0, 4, 0, 0, 3} {
		if n, code := impl.RootNumber(7, []int64{6, 0, 0}, int64(g)); n != want || code != impl.ErrNone {
			t.Errorf("RootNumber(7, x^3 - 1, %d) = %d, %d", g, n, code)
		}
	}
}

// checkNoRootNumber checks a polynomial with fewer different roots than its degree: ErrRange comes first.
func checkNoRootNumber(t *testing.T, p int64, list []int64) {
	t.Helper()
	for g := range int64(31) {
		if n, code := impl.RootNumber(p, list, g); n != 0 || code != impl.ErrState {
			t.Errorf("RootNumber(%d, %v, %d) = %d, %d", p, list, g, n, code)
		}
	}
	for _, g := range append([]int64{31, 32}, wildGenera()...) {
		if n, code := impl.RootNumber(p, list, g); n != 0 || code != impl.ErrRange {
			t.Errorf("RootNumber(%d, %v, %d) = %d, %d", p, list, g, n, code)
		}
	}
}

// TestNoRootNumbers checks polynomials with one root twice and all others once, so that they have one root
// too few, and all samples that lack roots.
func TestNoRootNumbers(t *testing.T) {
	for _, p := range primes {
		for d := 2; d <= min(6, int(p)+1); d++ {
			for _, roots := range rootSets(p, d-1, 12) {
				for _, r := range roots {
					checkNoRootNumber(t, p, plainByRoots(p, append(slices.Clone(roots), r)))
				}
			}
		}
	}
	lacking := 0
	forPolynomials(func(p int64, list []int64) {
		if len(plainRoots(p, list)) < len(list) {
			checkNoRootNumber(t, p, list)
			lacking++
		}
	})
	if lacking < 1000 {
		t.Errorf("there are only %d polynomials that lack roots", lacking)
	}
}

// checkProductOfRoots checks one list of roots, in this order.
func checkProductOfRoots(t *testing.T, p int64, roots []int64) {
	t.Helper()
	list, code := impl.ProductOfRoots(p, roots)
	if !slices.Equal(list, plainByRoots(p, roots)) || code != impl.ErrNone {
		t.Errorf("ProductOfRoots(%d, %v) = %v, %d", p, roots, list, code)
	}
	sorted := slices.Clone(roots)
	slices.Sort(sorted)
	if found, code := impl.RootsOf(p, list); !slices.Equal(found, slices.Compact(sorted)) || code != impl.ErrNone {
		t.Errorf("RootsOf(%d, %v) = %v, %d, and its roots are %v", p, list, found, code, roots)
	}
}

// TestProductsOfRoots checks all lists of roots if there are few, and else some; the same root twice and
// roots at 0 are among them.
func TestProductsOfRoots(t *testing.T) {
	for _, p := range primes {
		for k := int64(1); k <= 6; k++ {
			count := plainCount(p, k)
			for i := range min(count, 800) {
				number := i
				if count > 800 {
					number = i * 999983 % count
				}
				checkProductOfRoots(t, p, polynomialAt(p, int(k), number)[:k])
			}
			for r := range p {
				checkProductOfRoots(t, p, slices.Repeat([]int64{r}, int(k)))
			}
			if list, code := impl.ProductOfRoots(p, make([]int64, k)); !slices.Equal(list, make([]int64, k)) || code != impl.ErrNone {
				t.Errorf("ProductOfRoots(%d, %d times 0) = %v, %d", p, k, list, code)
			}
		}
		for _, roots := range rootSets(p, min(6, int(p)), 50) {
			checkProductOfRoots(t, p, roots)
			slices.Reverse(roots)
			checkProductOfRoots(t, p, roots)
		}
	}
	if list, code := impl.ProductOfRoots(5, []int64{1, 2}); !slices.Equal(list, []int64{2, 2}) || code != impl.ErrNone {
		t.Errorf("ProductOfRoots(5, 1 2) = %v, %d", list, code)
	}
}

// checkNoPolynomial checks that all functions of a list of numbers modulo p refuse it.
func checkNoPolynomial(t *testing.T, why string, p int64, list []int64, numbers ...int64) {
	t.Helper()
	if a, code := impl.PolynomialAlgebra(p, list); a != (impl.Algebra{}) || code != impl.ErrRange {
		t.Errorf("%s: PolynomialAlgebra(%d, %v) = %v, %d", why, p, list, a, code)
	}
	if roots, code := impl.RootsOf(p, list); len(roots) != 0 || code != impl.ErrRange {
		t.Errorf("%s: RootsOf(%d, %v) = %v, %d", why, p, list, roots, code)
	}
	if product, code := impl.ProductOfRoots(p, list); len(product) != 0 || code != impl.ErrRange {
		t.Errorf("%s: ProductOfRoots(%d, %v) = %v, %d", why, p, list, product, code)
	}
	for _, number := range append(numbers, 0, 1) {
		if n, code := impl.SlopeAt(p, list, number); n != 0 || code != impl.ErrRange {
			t.Errorf("%s: SlopeAt(%d, %v, %d) = %d, %d", why, p, list, number, n, code)
		}
		if n, code := impl.RootNumber(p, list, number); n != 0 || code != impl.ErrRange {
			t.Errorf("%s: RootNumber(%d, %v, %d) = %d, %d", why, p, list, number, n, code)
		}
	}
}

func TestNoPolynomials(t *testing.T) {
	for _, p := range primes {
		for why, list := range map[string][]int64{"nil": nil, "empty": {}, "seven": make([]int64, 7), "seven ones": {1, 1, 1, 1, 1, 1, 1}, "many": make([]int64, 1000), "degree 12": make([]int64, 12)} {
			checkNoPolynomial(t, why, p, list, -1, p, 30, 31)
		}
		for d := 1; d <= 6; d++ {
			for at := range d {
				for _, number := range append([]int64{p, p + 1, 2 * p, p + 256, p - 256, -p, -1<<63 + p}, wildNumbers...) {
					list := polynomialAt(p, d, 1)[:d]
					list[at] = number
					checkNoPolynomial(t, "number "+strconv.FormatInt(number, 10), p, list, 31)
				}
			}
		}
	}
	for _, p := range notPrimes {
		for _, list := range [][]int64{{0}, {1}, {0, 0}, {0, 1, 0}, {1, 1, 1, 1, 1, 1}, nil, make([]int64, 7), {-1}, {p}} {
			checkNoPolynomial(t, "no prime", p, list, -1, 2, 31)
		}
	}
}

// TestSlopesOutOfRange checks numbers at which there is no slope.
func TestSlopesOutOfRange(t *testing.T) {
	for _, p := range primes {
		for d := 1; d <= 6; d++ {
			for _, list := range polynomialLists(p, d)[:2] {
				for _, r := range append([]int64{p, p + 1, 2 * p, p + 256, -p}, wildNumbers...) {
					if n, code := impl.SlopeAt(p, list, r); n != 0 || code != impl.ErrRange {
						t.Errorf("SlopeAt(%d, %v, %d) = %d, %d", p, list, r, n, code)
					}
				}
			}
		}
	}
}

// allStairs returns all lists of numbers of at least 1, none of which is less than the next one, with a sum
// of at most sum, the first one at most first.
func allStairs(first, sum int64) [][]int64 {
	var lists [][]int64
	for number := int64(1); number <= min(first, sum); number++ {
		lists = append(lists, []int64{number})
		for _, list := range allStairs(number, sum-number) {
			lists = append(lists, append([]int64{number}, list...))
		}
	}
	return lists
}

func isPlainStairs(list []int64) bool {
	sum := int64(0)
	for i, number := range list {
		if number < 1 || number > 6 || i > 0 && list[i-1] < number {
			return false
		}
		sum += number
	}
	return len(list) >= 1 && len(list) <= 6 && sum <= 6
}

// plainMonomials returns the pairs of the powers of x and y, in the order of the basis.
func plainMonomials(stairs []int64) [][2]int64 {
	var list [][2]int64
	for i := range int64(len(stairs)) {
		for j := range stairs[i] {
			list = append(list, [2]int64{i, j})
		}
	}
	return list
}

func plainStairsAlgebra(p int64, stairs []int64) impl.Algebra {
	monomials := plainMonomials(stairs)
	a := impl.Algebra{Prime: p, Size: int64(len(monomials)), Form: basis(int64(len(monomials) - 1))}
	for i, m := range monomials {
		for j, n := range monomials {
			for k, both := range monomials {
				if both[0] == m[0]+n[0] && both[1] == m[1]+n[1] {
					a.Table[i][j][k] = 1
				}
			}
		}
	}
	return a
}

// plainCorners looks at the stairs themselves: x^i y^j belongs to them if s(i) is greater than j.
func plainCorners(stairs []int64) [][]int64 {
	belongs := func(i, j int64) bool { return i < int64(len(stairs)) && j < stairs[i] }
	var corners [][]int64
	for i := range int64(7) {
		for j := range int64(7) {
			if belongs(i, j) && !belongs(i+1, j) && !belongs(i, j+1) {
				corners = append(corners, []int64{i, j})
			}
		}
	}
	return corners
}

func TestStairsAlgebras(t *testing.T) {
	lists := allStairs(6, 6)
	if len(lists) != 29 {
		t.Errorf("there are %d stairs", len(lists))
	}
	for _, stairs := range lists {
		for _, p := range primes {
			a, code := impl.StairsAlgebra(p, stairs)
			if want := plainStairsAlgebra(p, stairs); a != want || code != impl.ErrNone {
				t.Errorf("StairsAlgebra(%d, %v) = %v, %d instead of %v", p, stairs, a, code, want)
			}
			if !impl.IsAlgebra(a) || !isPlainCommutative(a) || unitOf(t, a) != basis(0) {
				t.Errorf("StairsAlgebra(%d, %v) = %v is no commutative algebra with 1 as its unit", p, stairs, a)
			}
		}
	}
}

// TestStairsOfOneLetter checks stairs of one number, and of numbers that are all 1: both have the powers of
// one letter.
func TestStairsOfOneLetter(t *testing.T) {
	for _, p := range primes {
		for n := range int64(6) {
			want := polynomialAlgebra(t, p, make([]int64, n+1))
			for _, stairs := range [][]int64{{n + 1}, slices.Repeat([]int64{1}, int(n+1))} {
				if a := stairsAlgebra(t, p, stairs); a != want {
					t.Errorf("StairsAlgebra(%d, %v) = %v instead of %v", p, stairs, a, want)
				}
			}
			for i, stairs := range [][]int64{{n + 1}, slices.Repeat([]int64{1}, int(n+1))} {
				want := [][]int64{{0, n}}
				if i == 1 {
					want = [][]int64{{n, 0}}
				}
				if corners, code := impl.CornersOf(stairs); !sameTables(corners, want) || code != impl.ErrNone {
					t.Errorf("CornersOf(%v) = %v, %d", stairs, corners, code)
				}
			}
		}
	}
}

// Promise 9: stairs have as many corners as the dimension of the socle tells; they are Frobenius, and
// symmetric in themselves, exactly if they have one corner.
func TestCorners(t *testing.T) {
	counts := map[int]int{}
	for _, stairs := range allStairs(6, 6) {
		corners, code := impl.CornersOf(stairs)
		if !sameTables(corners, plainCorners(stairs)) || code != impl.ErrNone {
			t.Errorf("CornersOf(%v) = %v, %d", stairs, corners, code)
		}
		counts[len(corners)]++
		for _, p := range primes {
			a := stairsAlgebra(t, p, stairs)
			var socle []impl.Vector
			for i, m := range plainMonomials(stairs) {
				if slices.ContainsFunc(corners, func(c []int64) bool { return c[0] == m[0] && c[1] == m[1] }) {
					socle = append(socle, basis(int64(i)))
				}
			}
			if list := socleOf(t, a); len(list) != len(corners) || !sameVectors(list, socle) {
				t.Errorf("SocleOf(%v) = %v, and there are %d corners of %v", a, list, len(corners), stairs)
			}
			if yes := isFrobenius(t, a); yes != (len(corners) == 1) {
				t.Errorf("IsFrobenius(%v) = %v, and there are %d corners of %v", a, yes, len(corners), stairs)
			}
			checkKind(t, a, true, len(corners) == 1)
		}
	}
	if len(counts) != 3 || counts[3] != 1 {
		t.Errorf("the stairs have these numbers of corners: %v", counts)
	}
}

// checkStairs checks whether both functions of stairs take a list.
func checkStairs(t *testing.T, list []int64) {
	t.Helper()
	want := int64(impl.ErrRange)
	if isPlainStairs(list) {
		want = impl.ErrNone
	}
	for _, p := range []int64{2, 13} {
		if a, code := impl.StairsAlgebra(p, list); code != want || (code != impl.ErrNone) != (a == impl.Algebra{}) {
			t.Errorf("StairsAlgebra(%d, %v) = %v, %d", p, list, a, code)
		}
	}
	if corners, code := impl.CornersOf(list); code != want || (code != impl.ErrNone) != (len(corners) == 0) {
		t.Errorf("CornersOf(%v) = %v, %d", list, corners, code)
	}
	for _, p := range []int64{0, 1, 4, 17, -3, 1<<63 - 1, -1 << 63} {
		if a, code := impl.StairsAlgebra(p, list); a != (impl.Algebra{}) || code != impl.ErrRange {
			t.Errorf("StairsAlgebra(%d, %v) = %v, %d", p, list, a, code)
		}
	}
}

// TestWhatAreStairs checks all lists of at most four numbers from -1 to 7, all longer ones of numbers from 0
// to 2, and lists whose sum overflows.
func TestWhatAreStairs(t *testing.T) {
	checkStairs(t, nil)
	for length := int64(0); length <= 8; length++ {
		least, size := int64(-1), int64(9)
		if length > 4 {
			least, size = 0, 3
		}
		for _, list := range plainChoices(size, length) {
			for i := range list {
				list[i] += least
			}
			checkStairs(t, list)
		}
	}
	for _, stairs := range allStairs(6, 6) {
		for at := range stairs {
			for _, number := range append([]int64{0, 7, stairs[at] + 1<<32, stairs[at] - 256, stairs[at] + 256, -stairs[at]}, wildNumbers...) {
				list := slices.Clone(stairs)
				list[at] = number
				checkStairs(t, list)
			}
			checkStairs(t, append(slices.Clone(stairs), 0))
		}
	}
	great := int64(1<<63 - 1)
	for _, list := range [][]int64{{great, great}, {great, great, 1}, {great, great, 3, 3}, {1 << 62, 1 << 62, 1 << 62, 1 << 62}, {1 << 62, 1 << 62, 1 << 62, 1 << 62, 2, 1}, {1 << 61, 1 << 61, 1 << 61, 1 << 61, 1 << 61, 1 << 61}, slices.Repeat([]int64{1}, 1000), make([]int64, 1000)} {
		checkStairs(t, list)
	}
}

func TestStairsOfNoPrimes(t *testing.T) {
	for _, p := range notPrimes {
		for _, stairs := range append(allStairs(6, 6), nil, []int64{1, 2}, []int64{7}) {
			if a, code := impl.StairsAlgebra(p, stairs); a != (impl.Algebra{}) || code != impl.ErrRange {
				t.Errorf("StairsAlgebra(%d, %v) = %v, %d", p, stairs, a, code)
			}
		}
	}
}

// residueSamples returns commutative algebras: those of chapter 5, those of stairs, of quadrics, of which
// some have more than one least ideal, and tensor products with fields of more than p elements.
func residueSamples(t *testing.T) []impl.Algebra {
	t.Helper()
	samples := commutativeSamples(t)
	for k, p := range primes {
		var some []impl.Algebra
		for _, stairs := range allStairs(6, 6) {
			some = append(some, plainStairsAlgebra(p, stairs))
		}
		for _, numbers := range [][]byte{{0}, {1, 0}, {0, 1}, {1, 0, 1}, {0, 0}, {1, 1, 0, 0}, {1, 1, 1, 1}} {
			some = append(some, quadric(p, numbers...))
		}
		two, three := polynomialsBy(p, irreducible(p, 2)), polynomialsBy(p, irreducible(p, 3))
		some = append(some, corner(p, 0), corner(p, 1),
			tensorOf(t, plainStairsAlgebra(p, []int64{2, 1}), two),
			tensorOf(t, plainStairsAlgebra(p, []int64{3}), two),
			tensorOf(t, plainStairsAlgebra(p, []int64{2}), three),
			tensorOf(t, two, two), tensorOf(t, two, three), tensorOf(t, named(t, "pair", p), three),
			sumOf(t, plainStairsAlgebra(p, []int64{2, 1}), two),
			sumOf(t, plainStairsAlgebra(p, []int64{2, 1}), plainStairsAlgebra(p, []int64{1, 1, 1})))
		for i, a := range some {
			samples = append(samples, a)
			if (i+k)%2 == 0 {
				b, _ := inBasis(a, otherBasis(a, i))
				samples = append(samples, b)
			}
		}
	}
	return samples
}

// tinyAlgebras returns all commutative algebras of the size 2 for the primes 2 and 3, and all of the size 3
// with e(0) as the unit for the prime 2.
func tinyAlgebras() []impl.Algebra {
	var list []impl.Algebra
	for _, p := range []int64{2, 3} {
		for number := range plainCount(p, 6) {
			digits := vectorAt(impl.Algebra{Prime: p, Size: 6}, number)
			a := impl.Algebra{Prime: p, Size: 2}
			copy(a.Table[0][0][:2], digits[:2])
			copy(a.Table[0][1][:2], digits[2:4])
			copy(a.Table[1][1][:2], digits[4:])
			a.Table[1][0] = a.Table[0][1]
			list = append(list, a)
		}
	}
	for number := range 1 << 9 {
		a := impl.Algebra{Prime: 2, Size: 3}
		for i := range int64(3) {
			a.Table[0][i], a.Table[i][0] = basis(i), basis(i)
			a.Table[1][1][i] = byte(number >> i & 1)
			a.Table[1][2][i] = byte(number >> (3 + i) & 1)
			a.Table[2][2][i] = byte(number >> (6 + i) & 1)
		}
		a.Table[2][1] = a.Table[1][2]
		list = append(list, a)
	}
	return thatAre(impl.IsAlgebra, list)
}

// checkKind checks whether an algebra is local, and symmetric in itself.
func checkKind(t *testing.T, a impl.Algebra, local, symmetric bool) {
	t.Helper()
	if yes, code := impl.IsLocal(a); yes != local || code != impl.ErrNone {
		t.Errorf("IsLocal(%v) = %v, %d", a, yes, code)
	}
	if yes, code := impl.IsSymmetricInItself(a); yes != symmetric || code != impl.ErrNone {
		t.Errorf("IsSymmetricInItself(%v) = %v, %d", a, yes, code)
	}
}

// rankOfRows returns the dimension of the space of the sums of multiples of rows of any length.
func rankOfRows(p int64, rows [][]int64) int {
	rank := 0
	for column := range rows[0] {
		at := slices.IndexFunc(rows[rank:], func(row []int64) bool { return row[column] != 0 })
		if at < 0 {
			continue
		}
		rows[rank], rows[rank+at] = rows[rank+at], rows[rank]
		over := plainInverse(p, rows[rank][column])
		for _, row := range rows[rank+1:] {
			factor := row[column] * over % p
			for k := range row {
				row[k] = (row[k] + (p-factor)*rows[rank][k]) % p
			}
		}
		rank++
		if rank == len(rows) {
			break
		}
	}
	return rank
}

// checkAnnihilator checks that the list found is reduced, that its products with another one are 0, and that
// its dimension is that of the kernel of all these products.
func checkAnnihilator(t *testing.T, a impl.Algebra, list, found []impl.Vector) {
	t.Helper()
	rows := make([][]int64, a.Size)
	for i := range rows {
		rows[i] = []int64{0}
		for _, v := range list {
			rows[i] = append(rows[i], numbersOf(a, plainProduct(a, v, basis(int64(i))))...)
		}
	}
	if len(found) != int(a.Size)-rankOfRows(a.Prime, rows) || !sameVectors(found, plainSpan(a, found)) {
		t.Errorf("the annihilator of %v in %v is not %v", list, a, found)
	}
	for _, v := range list {
		for _, w := range found {
			if !isVectorFor(a, w) || plainProduct(a, v, w) != (impl.Vector{}) {
				t.Errorf("the annihilator of %v in %v has %v", list, a, w)
			}
		}
	}
}

func annihilatorOf(t *testing.T, a impl.Algebra, list []impl.Vector) []impl.Vector {
	t.Helper()
	found, code := impl.AnnihilatorOf(a, list)
	if code != impl.ErrNone {
		t.Fatalf("AnnihilatorOf(%v, %v): code %d", a, list, code)
	}
	return found
}

// vectorLists returns lists of 0 to 6 vectors of an algebra: nilpotent ones, units, 0, and drawn ones.
func vectorLists(t *testing.T, a impl.Algebra) [][]impl.Vector {
	t.Helper()
	drawn := drawnVectors(a, 8)
	lists := [][]impl.Vector{nil, {}, {{}}, make([]impl.Vector, 6), {unitOf(t, a)}, drawn[:1], drawn[1:3], drawn[2:8], nilradicalOf(t, a)}
	for i := range a.Size {
		lists = append(lists, []impl.Vector{basis(i)}, []impl.Vector{{}, basis(i), {}})
	}
	// Multiples of a vector that is not invertible leave more over.
	for _, v := range drawnVectors(a, 30) {
		if !isPlainInvertible(a, v) {
			lists = append(lists, []impl.Vector{v}, timesAll(a, v, drawn[:6]))
		}
	}
	return lists
}

func TestAnnihilators(t *testing.T) {
	dimensions := map[int]int{}
	for _, a := range residueSamples(t) {
		for _, list := range vectorLists(t, a) {
			found := annihilatorOf(t, a, list)
			checkAnnihilator(t, a, list, found)
			dimensions[len(found)]++
		}
		if all := annihilatorOf(t, a, nil); !sameVectors(all, basisAt(counted(int(a.Size))...)) {
			t.Errorf("AnnihilatorOf(%v, nil) = %v", a, all)
		}
		if none := annihilatorOf(t, a, []impl.Vector{{}, unitOf(t, a)}); len(none) != 0 {
			t.Errorf("AnnihilatorOf(%v, 0 and the unit) = %v", a, none)
		}
	}
	for dimension := range 7 {
		if dimensions[dimension] < 100 {
			t.Errorf("only %d annihilators have the dimension %d", dimensions[dimension], dimension)
		}
	}
}

// smallResidues returns the samples with at most 800 vectors.
func smallResidues(t *testing.T) []impl.Algebra {
	t.Helper()
	few := func(a impl.Algebra) bool { return countVectors(a) <= 800 }
	samples := append(thatAre(few, residueSamples(t)), tinyAlgebras()...)
	for _, known := range knownAlgebras(t, []int64{2, 3}) {
		samples = append(samples, known.algebra)
	}
	return samples
}

// plainAnnihilator looks at all vectors of a small algebra.
func plainAnnihilator(a impl.Algebra, list []impl.Vector) []impl.Vector {
	var found []impl.Vector
	for _, v := range allVectors(a) {
		if !slices.ContainsFunc(list, func(w impl.Vector) bool { return plainProduct(a, v, w) != impl.Vector{} }) {
			found = append(found, v)
		}
	}
	return plainSpan(a, found)
}

// TestAnnihilatorsByLooking looks through all vectors of small algebras.
func TestAnnihilatorsByLooking(t *testing.T) {
	for _, a := range smallResidues(t) {
		lists := vectorLists(t, a)
		for _, list := range lists[:min(12, len(lists))] {
			if found, want := annihilatorOf(t, a, list), plainAnnihilator(a, list); !sameVectors(found, want) {
				t.Errorf("AnnihilatorOf(%v, %v) = %v instead of %v", a, list, found, want)
			}
		}
	}
}

// plainPowers returns the dimensions of the powers of a space of nilpotent vectors.
func plainPowers(a impl.Algebra, nilpotents []impl.Vector) []int64 {
	first := plainSpan(a, nilpotents)
	space := first
	dimensions := []int64{int64(len(space))}
	for len(space) > 0 {
		var products []impl.Vector
		for _, v := range space {
			products = append(products, timesAll(a, v, first)...)
		}
		space = plainSpan(a, products)
		dimensions = append(dimensions, int64(len(space)))
	}
	return dimensions
}

func checkPowers(t *testing.T, a impl.Algebra, want []int64) {
	t.Helper()
	if list, code := impl.PowersOfNilradical(a); !slices.Equal(list, want) || code != impl.ErrNone {
		t.Errorf("PowersOfNilradical(%v) = %v, %d instead of %v", a, list, code, want)
	}
}

// someFormIsFrobenius looks through all forms of a small algebra.
func someFormIsFrobenius(a impl.Algebra) bool {
	for _, v := range allVectors(a) {
		a.Form = v
		if isPlainFrobenius(a) {
			return true
		}
	}
	return false
}

// TestSmallResidues looks at all vectors, and all forms, of small algebras.
func TestSmallResidues(t *testing.T) {
	counts := map[[2]bool]int{}
	for _, a := range smallResidues(t) {
		found := lookAt(a)
		if list, want := socleOf(t, a), plainAnnihilator(a, found.nilpotents); !sameVectors(list, want) {
			t.Errorf("SocleOf(%v) = %v instead of %v", a, list, want)
		}
		checkPowers(t, a, plainPowers(a, found.nilpotents))
		local, symmetric := len(found.idempotents) == 2, someFormIsFrobenius(a)
		checkKind(t, a, local, symmetric)
		counts[[2]bool{local, symmetric}]++
	}
	for _, each := range [][2]bool{{true, true}, {true, false}, {false, true}, {false, false}} {
		if counts[each] < 10 {
			t.Errorf("only %d algebras are local: %v, and symmetric in themselves: %v", counts[each], each[0], each[1])
		}
	}
}

// TestProductsOfNilpotentVectors checks powers of the nilradical of tiny algebras against the sums of all
// products of k nilpotent vectors.
func TestProductsOfNilpotentVectors(t *testing.T) {
	for _, a := range smallResidues(t) {
		nilpotents := lookAt(a).nilpotents
		if len(nilpotents) > 32 {
			continue
		}
		products := nilpotents
		var want []int64
		for len(want) == 0 || want[len(want)-1] > 0 {
			want = append(want, int64(len(plainSpan(a, products))))
			set := map[impl.Vector]bool{}
			for _, v := range products {
				for _, w := range nilpotents {
					set[plainProduct(a, v, w)] = true
				}
			}
			products = nil
			for v := range set {
				products = append(products, v)
			}
		}
		checkPowers(t, a, want)
	}
}

// measuresOf returns the dimension of the socle, and those of the powers of the nilradical, of a sum of local
// algebras of these kinds.
func measuresOf(kinds []kind) (int, []int64) {
	dimension := 0
	for _, k := range kinds {
		if k.m == 0 {
			dimension++
		}
		dimension += k.d
	}
	var powers []int64
	for factors := 1; len(powers) == 0 || powers[len(powers)-1] > 0; factors++ {
		sum := 0
		for _, k := range kinds {
			if k.m == 0 && factors == 1 {
				sum += 2
			}
			sum += k.d * max(0, k.m-factors)
		}
		powers = append(powers, int64(sum))
	}
	return dimension, powers
}

// TestKnownResidues checks the sums of all collections of local algebras, for all primes and to other bases;
// fields of more than p elements are among them. The kind with m = 0 has two least ideals.
func TestKnownResidues(t *testing.T) {
	seen := map[string]bool{}
	for _, known := range knownAlgebras(t, primes) {
		a := known.algebra
		dimension, powers := measuresOf(known.kinds)
		socle := socleOf(t, a)
		if len(socle) != dimension {
			t.Errorf("%v: SocleOf(%v) = %v", known.kinds, a, socle)
		}
		var nilpotents []impl.Vector
		for _, part := range known.parts {
			nilpotents = append(nilpotents, part.nilpotents...)
		}
		checkAnnihilator(t, a, nilpotents, socle)
		checkPowers(t, a, powers)
		checkKind(t, a, len(known.kinds) == 1, !slices.ContainsFunc(known.kinds, func(k kind) bool { return k.m == 0 }))
		seen[vectorKey(powers)] = true
	}
	if len(seen) < 13 {
		t.Errorf("there are only %d lists of powers", len(seen))
	}
}

// vectorKey returns a text of a list of numbers.
func vectorKey(list []int64) string {
	text := ""
	for _, number := range list {
		text += strconv.FormatInt(number, 10) + " "
	}
	return text
}

// TestResidues checks the samples against nilradicals and primitive idempotents, whatever their sizes.
func TestResidues(t *testing.T) {
	for _, a := range residueSamples(t) {
		nilpotents, socle := nilradicalOf(t, a), socleOf(t, a)
		checkAnnihilator(t, a, nilpotents, socle)
		if len(nilpotents) > 0 && !sameVectors(annihilatorOf(t, a, nilpotents), socle) {
			t.Errorf("SocleOf(%v) = %v is not the annihilator of %v", a, socle, nilpotents)
		}
		checkPowers(t, a, plainPowers(a, nilpotents))
		symmetric, code := impl.IsSymmetricInItself(a)
		if code != impl.ErrNone || isPlainFrobenius(a) && !symmetric {
			t.Errorf("IsSymmetricInItself(%v) = %v, %d", a, symmetric, code)
		}
		checkKind(t, a, len(primitivesOf(t, a)) == 1, symmetric)
		if symmetric != hasDrawnForm(a) {
			t.Errorf("IsSymmetricInItself(%v) = %v, and forms that are drawn tell the contrary", a, symmetric)
		}
	}
}

// hasDrawnForm tries many forms until one makes of a a Frobenius algebra. Where some form does so, so many do
// that these are enough: all but one of p for a part with degree 1.
func hasDrawnForm(a impl.Algebra) bool {
	for _, v := range append(someVectors(a), drawnVectors(a, 100)...) {
		a.Form = v
		if isPlainFrobenius(a) {
			return true
		}
	}
	return false
}

// TestSymmetricInThemselves checks algebras by what they are made of.
func TestSymmetricInThemselves(t *testing.T) {
	for _, p := range primes {
		field, two, three := named(t, "field", p), polynomialsBy(p, irreducible(p, 2)), polynomialsBy(p, irreducible(p, 3))
		steps, box := plainStairsAlgebra(p, []int64{2, 1}), plainStairsAlgebra(p, []int64{2, 2})
		checkKind(t, field, true, true)
		checkKind(t, named(t, "dual", p), true, true)
		checkKind(t, named(t, "pair", p), false, true)
		checkKind(t, box, true, true)
		checkKind(t, steps, true, false)
		checkKind(t, two, true, true)
		checkKind(t, tensorOf(t, steps, two), true, false)
		checkKind(t, tensorOf(t, plainStairsAlgebra(p, []int64{1, 1}), three), true, true)
		checkKind(t, tensorOf(t, two, two), false, true)
		checkKind(t, tensorOf(t, two, three), true, true)
		checkKind(t, sumOf(t, steps, field), false, false)
		checkKind(t, sumOf(t, two, steps), false, false)
		checkKind(t, sumOf(t, box, two), false, true)
		checkKind(t, sumOf(t, steps, steps), false, false)
		checkKind(t, quadric(p, 1, 1, 1, 1), true, true)
		checkKind(t, quadric(p, 1, 1, 1, 0), true, false)
		checkKind(t, corner(p, 1), true, true)
		checkKind(t, corner(p, 0), true, false)
		if socle := socleOf(t, tensorOf(t, steps, two)); len(socle) != 4 {
			t.Errorf("the socle of stairs with the field of %d elements has the dimension %d", p*p, len(socle))
		}
	}
}

// TestPowerExamples checks lists of dimensions, one for a nilradical that is 0.
func TestPowerExamples(t *testing.T) {
	for _, p := range primes {
		checkPowers(t, named(t, "field", p), []int64{0})
		checkPowers(t, named(t, "pair", p), []int64{0})
		checkPowers(t, polynomialsBy(p, irreducible(p, 6)), []int64{0})
		checkPowers(t, named(t, "dual", p), []int64{1, 0})
		checkPowers(t, polynomialAlgebra(t, p, make([]int64, 6)), []int64{5, 4, 3, 2, 1, 0})
		checkPowers(t, stairsAlgebra(t, p, []int64{3, 2, 1}), []int64{5, 3, 0})
		checkPowers(t, stairsAlgebra(t, p, []int64{2, 2, 2}), []int64{5, 3, 1, 0})
		checkPowers(t, stairsAlgebra(t, p, []int64{5, 1}), []int64{5, 3, 2, 1, 0})
		checkPowers(t, quadric(p, 1, 1, 1, 1), []int64{5, 1, 0})
		checkPowers(t, quadric(p, 0, 0, 0, 0), []int64{5, 0})
		all := basisAt(0, 1)
		if socle := socleOf(t, named(t, "pair", p)); !sameVectors(socle, all) {
			t.Errorf("SocleOf(pair, %d) = %v", p, socle)
		}
	}
}

// TestFormsOfResidues checks that the form of an algebra does not matter.
func TestFormsOfResidues(t *testing.T) {
	for _, a := range residueSamples(t) {
		flat := a
		flat.Form = impl.Vector{}
		local, _ := impl.IsLocal(a)
		symmetric, _ := impl.IsSymmetricInItself(a)
		powers, _ := impl.PowersOfNilradical(a)
		checkKind(t, flat, local, symmetric)
		checkPowers(t, flat, powers)
		if !sameVectors(socleOf(t, flat), socleOf(t, a)) {
			t.Errorf("%v has another socle without its form", a)
		}
		v := drawnVectors(a, 3)[2:]
		if !sameVectors(annihilatorOf(t, flat, v), annihilatorOf(t, a, v)) {
			t.Errorf("%v has another annihilator of %v without its form", a, v)
		}
	}
}

// checkNoResidues checks that all functions of an algebra return this code alone; AnnihilatorOf takes the
// lists.
func checkNoResidues(t *testing.T, why string, a impl.Algebra, want int64, lists ...[]impl.Vector) {
	t.Helper()
	for _, list := range lists {
		if found, code := impl.AnnihilatorOf(a, list); len(found) != 0 || code != want {
			t.Errorf("%s: AnnihilatorOf(%v) = %v, %d", why, list, found, code)
		}
	}
	if list, code := impl.SocleOf(a); len(list) != 0 || code != want {
		t.Errorf("%s: SocleOf = %v, %d", why, list, code)
	}
	if list, code := impl.PowersOfNilradical(a); len(list) != 0 || code != want {
		t.Errorf("%s: PowersOfNilradical = %v, %d", why, list, code)
	}
	if yes, code := impl.IsLocal(a); yes || code != want {
		t.Errorf("%s: IsLocal = %v, %d", why, yes, code)
	}
	if yes, code := impl.IsSymmetricInItself(a); yes || code != want {
		t.Errorf("%s: IsSymmetricInItself = %v, %d", why, yes, code)
	}
}

func TestResiduesOfBrokenAlgebras(t *testing.T) {
	for why, a := range brokenAlgebras(t) {
		checkNoResidues(t, why, a, impl.ErrInvalid, nil, []impl.Vector{{}}, []impl.Vector{{1}}, []impl.Vector{{255}}, make([]impl.Vector, 6), make([]impl.Vector, 7), make([]impl.Vector, 100))
	}
}

// TestResiduesNotCommutative checks that ErrState comes behind ErrRange.
func TestResiduesNotCommutative(t *testing.T) {
	count := 0
	for _, a := range idempotentSamples(t) {
		if isPlainCommutative(a) {
			continue
		}
		checkNoResidues(t, "not commutative", a, impl.ErrState, nil, []impl.Vector{}, []impl.Vector{{}}, []impl.Vector{unitOf(t, a)}, drawnVectors(a, 6))
		for _, length := range []int{7, 8, 100} {
			checkNoAnnihilator(t, a, drawnVectors(a, length), impl.ErrRange)
		}
		count++
	}
	if count < 40 {
		t.Errorf("there are only %d algebras", count)
	}
}

func checkNoAnnihilator(t *testing.T, a impl.Algebra, list []impl.Vector, want int64) {
	t.Helper()
	if found, code := impl.AnnihilatorOf(a, list); len(found) != 0 || code != want {
		t.Errorf("AnnihilatorOf(%v, %v) = %v, %d instead of %d", a, list, found, code, want)
	}
}

// noVectors returns what is no vector of an algebra: numbers that are too great at each place, and numbers
// behind the Size.
func noVectors(a impl.Algebra) []impl.Vector {
	var list []impl.Vector
	for i := range int64(6) {
		for _, number := range []byte{byte(a.Prime), byte(a.Prime + 1), 255} {
			v := impl.Vector{}
			v[i] = number
			list = append(list, v)
		}
		if i >= a.Size {
			list = append(list, basis(i))
		}
	}
	return list
}

// TestBadAnnihilators checks that what is no vector is told before lists that are too long, and these before
// what is not commutative.
func TestBadAnnihilators(t *testing.T) {
	for _, p := range primes {
		for _, name := range impl.AlgebraNames() {
			a := named(t, name, p)
			for _, bad := range noVectors(a) {
				for _, length := range []int{1, 2, 6, 7, 8, 20} {
					for _, at := range []int{0, length / 2, length - 1} {
						list := drawnVectors(a, length)
						list[at] = bad
						checkNoAnnihilator(t, a, list, impl.ErrInvalid)
					}
				}
			}
			for _, length := range []int{7, 8, 12, 36, 1000} {
				checkNoAnnihilator(t, a, drawnVectors(a, length), impl.ErrRange)
				checkNoAnnihilator(t, a, make([]impl.Vector, length), impl.ErrRange)
			}
		}
	}
}

// checkKept checks that a list of numbers is left as it is by a call, also behind its end.
func checkKept(t *testing.T, why string, list []int64, call func(list []int64)) {
	t.Helper()
	long := append(slices.Clone(list), 77, 78, 79, 80, 81, 82, 83)
	kept := slices.Clone(long)
	call(long[:len(list)])
	if !slices.Equal(long, kept) {
		t.Errorf("%s: %v became %v", why, kept, long)
	}
}

// TestResidueMemory checks that results are new memory, and that lists are left as they were, also behind
// their ends.
func TestResidueMemory(t *testing.T) {
	for _, list := range [][]int64{{0}, {1, 2}, {0, 4, 3}, {1, 0, 0, 1}, {0, 4, 0, 0, 0}, {0, 1, 2, 3, 4, 0}} {
		all := append(slices.Clone(list), 1, 2, 3, 4, 1, 2)
		short := all[:len(list)]
		checkMemory(t, "RootsOf", func() []int64 { roots, _ := impl.RootsOf(5, short); return roots }, all)
		checkMemory(t, "ProductOfRoots", func() []int64 { product, _ := impl.ProductOfRoots(5, short); return product }, all)
		checkKept(t, "polynomials", list, func(list []int64) {
			impl.PolynomialAlgebra(5, list)
			impl.SlopeAt(5, list, 3)
			impl.RootNumber(5, list, 7)
		})
	}
	for _, stairs := range allStairs(6, 6) {
		checkRows(t, "CornersOf", func() [][]int64 { corners, _ := impl.CornersOf(stairs); return corners })
		checkKept(t, "stairs", stairs, func(list []int64) {
			impl.StairsAlgebra(5, list)
			impl.CornersOf(list)
		})
		a := stairsAlgebra(t, 5, stairs)
		checkMemory(t, "PowersOfNilradical", func() []int64 { powers, _ := impl.PowersOfNilradical(a); return powers })
		checkVectorMemory(t, "SocleOf", func() []impl.Vector { return socleOf(t, a) })
		all := append(drawnVectors(a, 9), impl.Vector{99})
		for length := range 7 {
			checkVectorMemory(t, "AnnihilatorOf", func() []impl.Vector { return annihilatorOf(t, a, all[:length]) }, all)
		}
	}
	pair := named(t, "pair", 5)
	checkVectorMemory(t, "SocleOf", func() []impl.Vector { return socleOf(t, pair) })
	behind := basisAt(0, 1)
	checkVectorMemory(t, "AnnihilatorOf", func() []impl.Vector { return annihilatorOf(t, pair, behind[:0]) }, behind)
}
