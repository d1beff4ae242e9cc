package tests

import (
	"slices"
	"testing"

	"loop.example/g01267/impl"
)

// plainInverse returns the number whose product with another one is 1 modulo p.
func plainInverse(p, number int64) int64 {
	for candidate := range p {
		if candidate*number%p == 1 {
			return candidate
		}
	}
	return 0
}

// plainSpan returns the reduced list of the sums of multiples of vectors, column by column.
func plainSpan(a impl.Algebra, vectors []impl.Vector) []impl.Vector {
	rest := slices.Clone(vectors)
	var list []impl.Vector
	for place := range 6 {
		at := slices.IndexFunc(rest, func(v impl.Vector) bool { return v[place] != 0 })
		if at < 0 {
			continue
		}
		pivot := plainSum(a, impl.Vector{}, rest[at], plainInverse(a.Prime, int64(rest[at][place])))
		rest = slices.Delete(rest, at, at+1)
		for _, rows := range [][]impl.Vector{rest, list} {
			for i, v := range rows {
				rows[i] = plainSum(a, v, pivot, a.Prime-int64(v[place]))
			}
		}
		list = append(list, pivot)
	}
	return list
}

// allVectors returns all vectors of a small algebra, in ascending order.
func allVectors(a impl.Algebra) []impl.Vector {
	var list []impl.Vector
	for number := range countVectors(a) {
		list = append(list, vectorAt(a, number))
	}
	return list
}

// plainIndex returns the least number of factors of a power that is 0, and 0 if there is none. What
// is nilpotent leads into smaller and smaller spaces, so that more than 6 factors are never needed.
func plainIndex(a impl.Algebra, v impl.Vector) int64 {
	whole := v
	for factors := int64(1); factors <= 12; factors++ {
		if whole == (impl.Vector{}) {
			return factors
		}
		whole = plainProduct(a, whole, v)
	}
	return 0
}

func isPlainIdempotent(a impl.Algebra, v impl.Vector) bool {
	return plainProduct(a, v, v) == v
}

// plainPower returns the power k of a number modulo p.
func plainPower(p, number, k int64) int64 {
	power := int64(1)
	for range k {
		power = power * number % p
	}
	return power
}

// polynomialTimes returns the product of polynomials, told by their numbers from the least power on.
func polynomialTimes(p int64, f, g []int64) []int64 {
	result := make([]int64, len(f)+len(g)-1)
	for i := range f {
		for j := range g {
			result[i+j] = (result[i+j] + f[i]*g[j]) % p
		}
	}
	return result
}

// restBy returns the rest of a polynomial by f, which has the last number 1.
func restBy(p int64, g, f []int64) []int64 {
	rest := slices.Clone(g)
	for len(rest) >= len(f) {
		last := len(rest) - 1
		for i := range f {
			at := last - len(f) + 1 + i
			rest[at] = (rest[at] + (p-rest[last])*f[i]) % p
			if i == len(f)-1 {
				rest = rest[:last]
			}
		}
	}
	return rest
}

// polynomialAt returns the polynomial with 1 at the power d, and the digits of a number below it.
func polynomialAt(p int64, d int, number int64) []int64 {
	var f []int64
	for range d {
		f = append(f, number%p)
		number /= p
	}
	return append(f, 1)
}

func hasFactor(p int64, f []int64) bool {
	for d := 1; 2*d < len(f); d++ {
		for number := range plainCount(p, int64(d)) {
			if !slices.ContainsFunc(restBy(p, f, polynomialAt(p, d, number)), func(n int64) bool { return n != 0 }) {
				return true
			}
		}
	}
	return false
}

// irreducible returns a polynomial of the degree d without factors.
func irreducible(p int64, d int) []int64 {
	count := plainCount(p, int64(d))
	for number := range count {
		if f := polynomialAt(p, d, (number+7*int64(d))%count); !hasFactor(p, f) {
			return f
		}
	}
	return nil
}

// polynomialsBy returns the algebra of polynomials modulo f, which has the last number 1, with the
// powers of x as its basis, and the form that takes the number of the last one.
func polynomialsBy(p int64, f []int64) impl.Algebra {
	n := len(f) - 1
	a := impl.Algebra{Prime: p, Size: int64(n)}
	a.Form[n-1] = 1
	for i := range n {
		for j := range n {
			a.Table[i][j] = vectorFrom(restBy(p, polynomialAt(p, i+j, 0), f))
		}
	}
	return a
}

// kind tells a local algebra: that of polynomials modulo the power m of one of the degree d without
// factors, or, for m of 0, that with 1, x, y, whose other products are 0; its form is 0.
type kind struct {
	d int
	m int
}

func (k kind) size() int {
	if k.m == 0 {
		return 3
	}
	return k.d * k.m
}

// localAlgebra returns the algebra of a kind, and vectors whose sums of multiples are the nilpotent
// ones.
func localAlgebra(p int64, k kind) (impl.Algebra, []impl.Vector) {
	if k.m == 0 {
		a := impl.Algebra{Prime: p, Size: 3}
		for i := range int64(3) {
			a.Table[0][i], a.Table[i][0] = basis(i), basis(i)
		}
		return a, []impl.Vector{basis(1), basis(2)}
	}
	f := irreducible(p, k.d)
	whole := []int64{1}
	for range k.m {
		whole = polynomialTimes(p, whole, f)
	}
	var nilpotents []impl.Vector
	for i := range k.size() - k.d {
		nilpotents = append(nilpotents, vectorFrom(polynomialTimes(p, f, polynomialAt(p, i, 0))))
	}
	return polynomialsBy(p, whole), nilpotents
}

// collections returns all lists of kinds, in order, of at most size in all.
func collections(size int) [][]kind {
	kinds := []kind{{1, 0}}
	for d := 1; d <= size; d++ {
		for m := 1; d*m <= size; m++ {
			kinds = append(kinds, kind{d, m})
		}
	}
	return collectionsFrom(kinds, size)
}

func collectionsFrom(kinds []kind, size int) [][]kind {
	lists := [][]kind{{}}
	for i, k := range kinds {
		if k.size() > size {
			continue
		}
		for _, list := range collectionsFrom(kinds[i:], size-k.size()) {
			lists = append(lists, append([]kind{k}, list...))
		}
	}
	return lists
}

// otherBasis returns some other basis of an algebra, among the vectors drawn from first on.
func otherBasis(a impl.Algebra, first int) []impl.Vector {
	n := int(a.Size)
	drawn := drawnVectors(a, first+100)
	for plainDeterminant(a, drawn[first:first+n], 0, 0) == 0 {
		first++
	}
	return drawn[first : first+n]
}

// coordinates returns the numbers of the basis of a to another basis, as quotients of determinants.
func coordinates(a impl.Algebra, rows []impl.Vector) []impl.Vector {
	images := make([]impl.Vector, a.Size)
	over := plainInverse(a.Prime, (plainDeterminant(a, rows, 0, 0)+a.Prime)%a.Prime)
	for k := range images {
		for i := range rows {
			replaced := slices.Clone(rows)
			replaced[i] = basis(int64(k))
			images[k][i] = byte((plainDeterminant(a, replaced, 0, 0) + a.Prime) % a.Prime * over % a.Prime)
		}
	}
	return images
}

// inBasis returns the algebra that a is to another basis, with the numbers of its basis to that one.
func inBasis(a impl.Algebra, rows []impl.Vector) (impl.Algebra, []impl.Vector) {
	images := coordinates(a, rows)
	b := impl.Algebra{Prime: a.Prime, Size: a.Size}
	for i, v := range rows {
		b.Form[i] = byte(plainForm(a, v))
		for j, w := range rows {
			b.Table[i][j] = imageOf(a, images, plainProduct(a, v, w))
		}
	}
	return b, images
}

// knownPart has a primitive idempotent with the reduced lists of its part and the nilpotent vectors
// in it.
type knownPart struct {
	idempotent impl.Vector
	space      []impl.Vector
	nilpotents []impl.Vector
}

// knownAlgebra has a commutative algebra with its parts, in the order of the idempotents.
type knownAlgebra struct {
	kinds   []kind
	algebra impl.Algebra
	parts   []knownPart
}

// movedBy returns vectors of a summand that begins at a place of the sum, to another basis of it.
func movedBy(a impl.Algebra, images []impl.Vector, place int64, vectors []impl.Vector) []impl.Vector {
	var moved []impl.Vector
	for _, v := range vectors {
		var whole impl.Vector
		copy(whole[place:], v[:])
		moved = append(moved, imageOf(a, images, whole))
	}
	return moved
}

// knownSum returns the sum of local algebras of these kinds, to some other basis.
func knownSum(t *testing.T, p int64, kinds []kind) knownAlgebra {
	t.Helper()
	var places []int64
	var whole impl.Algebra
	for i, k := range kinds {
		a, _ := localAlgebra(p, k)
		places = append(places, whole.Size)
		if i == 0 {
			whole = a
		} else {
			whole = sumOf(t, whole, a)
		}
	}
	b, images := inBasis(whole, otherBasis(whole, len(kinds)+kinds[0].d))
	known := knownAlgebra{kinds: kinds, algebra: b}
	for i, k := range kinds {
		_, nilpotents := localAlgebra(p, k)
		var all []impl.Vector
		for j := range k.size() {
			all = append(all, basis(int64(j)))
		}
		known.parts = append(known.parts, knownPart{
			movedBy(b, images, places[i], all[:1])[0],
			plainSpan(b, movedBy(b, images, places[i], all)),
			plainSpan(b, movedBy(b, images, places[i], nilpotents)),
		})
	}
	slices.SortFunc(known.parts, func(x, y knownPart) int { return slices.Compare(x.idempotent[:], y.idempotent[:]) })
	return known
}

// knownAlgebras returns the sums of local algebras of all kinds for some primes.
func knownAlgebras(t *testing.T, some []int64) []knownAlgebra {
	t.Helper()
	var list []knownAlgebra
	for _, p := range some {
		for _, kinds := range collections(6)[1:] {
			list = append(list, knownSum(t, p, kinds))
		}
	}
	return list
}

// productOfFields returns the sum of fields with these forms of their units, to another basis.
func productOfFields(p int64, forms ...int64) impl.Algebra {
	a := impl.Algebra{Prime: p, Size: int64(len(forms)), Form: vectorFrom(forms)}
	for i := range a.Size {
		a.Table[i][i] = basis(i)
	}
	b, _ := inBasis(a, otherBasis(a, int(forms[0])))
	return b
}

// fieldProducts returns sums of fields of each number and for each prime, some of them with forms 0.
func fieldProducts() []impl.Algebra {
	var list []impl.Algebra
	for _, p := range primes {
		for n := range int64(6) {
			for seed := range int64(4) {
				var forms []int64
				for i := range n + 1 {
					forms = append(forms, 1+(seed*i+seed+i*i)%(p-1))
				}
				list = append(list, productOfFields(p, forms...))
				if seed == 3 {
					forms[n/2] = 0
					list = append(list, productOfFields(p, forms...))
				}
			}
		}
	}
	return list
}

// idempotentSamples returns the samples of chapter 2, products of fields, and polynomials modulo one
// of each degree without factors and its powers, for some primes to other bases.
func idempotentSamples(t *testing.T) []impl.Algebra {
	t.Helper()
	samples := append(formSamples(t), fieldProducts()...)
	for i, p := range primes {
		for d := 1; d <= 6; d++ {
			for m := 1; d*m <= 6; m++ {
				a, _ := localAlgebra(p, kind{d, m})
				if i%2 == 0 {
					a, _ = inBasis(a, otherBasis(a, d))
				}
				samples = append(samples, a)
			}
		}
	}
	return samples
}

// commutativeSamples returns the samples that are commutative.
func commutativeSamples(t *testing.T) []impl.Algebra {
	t.Helper()
	return thatAre(isPlainCommutative, idempotentSamples(t))
}

func TestIdempotentSamples(t *testing.T) {
	all, commutative, flat := idempotentSamples(t), commutativeSamples(t), 0
	for _, a := range all {
		if !impl.IsAlgebra(a) {
			t.Errorf("%v is no algebra", a)
		}
		if !isPlainFrobenius(a) {
			flat++
		}
	}
	if len(commutative) < 300 || len(all)-len(commutative) < 40 || flat < 20 {
		t.Errorf("of %d samples %d are commutative, and %d not Frobenius", len(all), len(commutative), flat)
	}
	for _, known := range knownAlgebras(t, []int64{2, 13}) {
		if !impl.IsAlgebra(known.algebra) || !isPlainCommutative(known.algebra) {
			t.Errorf("%v: %v is no commutative algebra", known.kinds, known.algebra)
		}
	}
}

// checkIdempotent checks one vector, and returns the answer.
func checkIdempotent(t *testing.T, a impl.Algebra, v impl.Vector) bool {
	t.Helper()
	yes, code := impl.IsIdempotent(a, v)
	if yes != isPlainIdempotent(a, v) || code != impl.ErrNone {
		t.Errorf("IsIdempotent(%v, %v) = %v, %d", a, v, yes, code)
	}
	return yes
}

func TestIdempotentVectors(t *testing.T) {
	answers := map[bool]int{}
	for _, a := range idempotentSamples(t) {
		for _, v := range append(someVectors(a), drawnVectors(a, 5)...) {
			answers[checkIdempotent(t, a, v)]++
		}
		if !checkIdempotent(t, a, impl.Vector{}) || !checkIdempotent(t, a, unitOf(t, a)) {
			t.Errorf("%v: 0 or the unit is not idempotent", a)
		}
	}
	if answers[true] < 1000 || answers[false] < 1000 {
		t.Errorf("there are too few answers: %v", answers)
	}
	for _, p := range primes {
		matrix := named(t, "matrix", p)
		for _, v := range []impl.Vector{{1, 1}, {0, 0, 1, 1}, {0, 0, 0, 1}, {1, 0, 1}} {
			if !checkIdempotent(t, matrix, v) {
				t.Errorf("%v is not idempotent in matrix, %d", v, p)
			}
		}
		if checkIdempotent(t, matrix, impl.Vector{1, 1, 1, 1}) {
			t.Errorf("1111 is idempotent in matrix, %d", p)
		}
	}
}

// checkNilIndex checks one vector, and returns its index, or 0.
func checkNilIndex(t *testing.T, a impl.Algebra, v impl.Vector) int64 {
	t.Helper()
	want, wantCode := plainIndex(a, v), int64(impl.ErrNone)
	if want == 0 {
		wantCode = impl.ErrNotFound
	}
	n, code := impl.NilIndex(a, v)
	if n != want || code != wantCode {
		t.Errorf("NilIndex(%v, %v) = %d, %d instead of %d", a, v, n, code, want)
	}
	return n
}

func TestNilIndexes(t *testing.T) {
	var counts [7]int
	for _, a := range idempotentSamples(t) {
		for _, v := range append(someVectors(a), drawnVectors(a, 5)...) {
			counts[checkNilIndex(t, a, v)]++
		}
		if checkNilIndex(t, a, impl.Vector{}) != 1 || checkNilIndex(t, a, unitOf(t, a)) != 0 {
			t.Errorf("%v: the indexes of 0 and the unit are wrong", a)
		}
	}
	for index, count := range counts {
		if count < 10 {
			t.Errorf("there are only %d indexes %d", count, index)
		}
	}
}

// TestNilIndexesOfPowers checks the powers of x modulo x^n, up to n itself, and vectors of algebras
// that are not commutative.
func TestNilIndexesOfPowers(t *testing.T) {
	for _, p := range primes {
		for n := int64(1); n <= 6; n++ {
			a := polynomialsBy(p, polynomialAt(p, int(n), 0))
			for k := int64(1); k < n; k++ {
				if index := checkNilIndex(t, a, basis(k)); index != (n+k-1)/k {
					t.Errorf("modulo x^%d, the index of x^%d is %d", n, k, index)
				}
			}
		}
		matrix := named(t, "matrix", p)
		for v, want := range map[impl.Vector]int64{{0, 1}: 2, {0, 0, 1}: 2, {0, 1, 1}: 0, {1, byte(p - 1), 1, byte(p - 1)}: 2, {1}: 0} {
			if index := checkNilIndex(t, matrix, v); index != want {
				t.Errorf("in matrix, %d, the index of %v is %d", p, v, index)
			}
		}
		// The unit and a transposition make a vector of the index 2 modulo 2 alone.
		if index := checkNilIndex(t, named(t, "symmetric", p), impl.Vector{1, 1}); (index == 2) != (p == 2) {
			t.Errorf("in symmetric, %d, the index of 110000 is %d", p, index)
		}
	}
}

// minimalOf returns the minimal polynomial of v, and checks that its numbers are modulo the prime, the
// last one 1, that v solves it, and that the powers before the last one are not in each other's span.
func minimalOf(t *testing.T, a impl.Algebra, v impl.Vector) []int64 {
	t.Helper()
	list, code := impl.MinimalPolynomial(a, v)
	if code != impl.ErrNone || len(list) < 2 || int64(len(list)) > a.Size+1 || list[len(list)-1] != 1 {
		t.Fatalf("MinimalPolynomial(%v, %v) = %v, %d", a, v, list, code)
	}
	var sum impl.Vector
	var powers []impl.Vector
	whole := unitOf(t, a)
	for _, number := range list {
		if number < 0 || number >= a.Prime {
			t.Errorf("MinimalPolynomial(%v, %v) = %v has the number %d", a, v, list, number)
		}
		sum = plainSum(a, sum, whole, number)
		powers = append(powers, whole)
		whole = plainProduct(a, whole, v)
	}
	if sum != (impl.Vector{}) {
		t.Errorf("MinimalPolynomial(%v, %v) = %v makes of it %v", a, v, list, sum)
	}
	if degree := len(list) - 1; len(plainSpan(a, powers[:degree])) != degree {
		t.Errorf("MinimalPolynomial(%v, %v) = %v has not the least degree", a, v, list)
	}
	return list
}

// Guarantee of chapter 5: vectors solve their minimal polynomials.
func TestMinimalPolynomials(t *testing.T) {
	var degrees [7]int
	whole := 0
	for _, a := range idempotentSamples(t) {
		for _, v := range append(someVectors(a)[:min(25, countVectors(a))], drawnVectors(a, 8)...) {
			degree := len(minimalOf(t, a, v)) - 1
			degrees[degree]++
			if int64(degree) == a.Size {
				whole++
			}
		}
		for k := range a.Prime {
			multiple := plainSum(a, impl.Vector{}, unitOf(t, a), k)
			if list := minimalOf(t, a, multiple); !slices.Equal(list, []int64{(a.Prime - k) % a.Prime, 1}) {
				t.Errorf("MinimalPolynomial(%v, %d units) = %v", a, k, list)
			}
		}
	}
	for degree, count := range degrees[1:] {
		if count < 50 {
			t.Errorf("there are only %d minimal polynomials of the degree %d", count, degree+1)
		}
	}
	if whole < 500 {
		t.Errorf("there are only %d minimal polynomials of the degree Size", whole)
	}
}

// TestMinimalPolynomialsByLooking looks through all polynomials with a last number 1 of each degree.
func TestMinimalPolynomialsByLooking(t *testing.T) {
	for _, a := range idempotentSamples(t) {
		if countVectors(a) > 130 {
			continue
		}
		for _, v := range someVectors(a)[:min(30, countVectors(a))] {
			if list, want := minimalOf(t, a, v), leastPolynomial(t, a, v); !slices.Equal(list, want) {
				t.Errorf("MinimalPolynomial(%v, %v) = %v instead of %v", a, v, list, want)
			}
		}
	}
}

func leastPolynomial(t *testing.T, a impl.Algebra, v impl.Vector) []int64 {
	t.Helper()
	for d := 1; d <= 6; d++ {
		for number := range plainCount(a.Prime, int64(d)) {
			f := polynomialAt(a.Prime, d, number)
			var sum impl.Vector
			whole := unitOf(t, a)
			for _, n := range f {
				sum = plainSum(a, sum, whole, n)
				whole = plainProduct(a, whole, v)
			}
			if sum == (impl.Vector{}) {
				return f
			}
		}
	}
	return nil
}

// TestMinimalPolynomialsOfPolynomials checks that x modulo f has f, also to another basis.
func TestMinimalPolynomialsOfPolynomials(t *testing.T) {
	for _, p := range primes {
		for n := 1; n <= 6; n++ {
			for number := range min(int64(20), plainCount(p, int64(n))) {
				f := polynomialAt(p, n, number*9973%plainCount(p, int64(n)))
				a := polynomialsBy(p, f)
				x := vectorFrom(restBy(p, []int64{0, 1}, f))
				b, images := inBasis(a, otherBasis(a, int(number)))
				first, second := minimalOf(t, a, x), minimalOf(t, b, imageOf(a, images, x))
				if !slices.Equal(first, f) || !slices.Equal(second, f) {
					t.Errorf("MinimalPolynomial of x modulo %v = %v, and %v", f, first, second)
				}
			}
		}
	}
}

func TestMinimalPolynomialExamples(t *testing.T) {
	for _, p := range primes {
		dual, matrix, symmetric := named(t, "dual", p), named(t, "matrix", p), named(t, "symmetric", p)
		if list := minimalOf(t, dual, impl.Vector{0, 1}); !slices.Equal(list, []int64{0, 0, 1}) {
			t.Errorf("MinimalPolynomial(dual, e(1)) = %v", list)
		}
		// Matrices of two rows that are no multiples of the unit have their traces and determinants.
		for _, v := range drawnVectors(matrix, 20) {
			trace := (int64(v[0]) + int64(v[3])) % p
			determinant := (int64(v[0])*int64(v[3]) + (p-int64(v[1]))*int64(v[2])) % p
			want := []int64{determinant, (p - trace) % p, 1}
			if v[1] == 0 && v[2] == 0 && v[0] == v[3] {
				want = []int64{(p - int64(v[0])) % p, 1}
			}
			if list := minimalOf(t, matrix, v); !slices.Equal(list, want) {
				t.Errorf("MinimalPolynomial(matrix, %d, %v) = %v", p, v, list)
			}
		}
		for place, order := range []int{1, 2, 2, 3, 3, 2} {
			want := append([]int64{p - 1}, make([]int64, order)...)
			want[order] = 1
			if list := minimalOf(t, symmetric, basis(int64(place))); !slices.Equal(list, want) {
				t.Errorf("MinimalPolynomial(symmetric, %d, e(%d)) = %v", p, place, list)
			}
		}
	}
}

func nilradicalOf(t *testing.T, a impl.Algebra) []impl.Vector {
	t.Helper()
	list, code := impl.NilradicalOf(a)
	if code != impl.ErrNone {
		t.Fatalf("NilradicalOf(%v): code %d", a, code)
	}
	return list
}

func primitivesOf(t *testing.T, a impl.Algebra) []impl.Vector {
	t.Helper()
	list, code := impl.PrimitiveIdempotents(a)
	if code != impl.ErrNone {
		t.Fatalf("PrimitiveIdempotents(%v): code %d", a, code)
	}
	return list
}

// checkPrimitive checks whether a vector is a primitive idempotent, and its part: want is the reduced
// list of it, and empty if the vector is none.
func checkPrimitive(t *testing.T, a impl.Algebra, v impl.Vector, want []impl.Vector) {
	t.Helper()
	yes, code := impl.IsPrimitive(a, v)
	if yes != (len(want) > 0) || code != impl.ErrNone {
		t.Errorf("IsPrimitive(%v, %v) = %v, %d", a, v, yes, code)
	}
	wantCode := int64(impl.ErrNone)
	if len(want) == 0 {
		wantCode = impl.ErrState
	}
	if list, code := impl.PartOf(a, v); !sameVectors(list, want) || code != wantCode {
		t.Errorf("PartOf(%v, %v) = %v, %d instead of %v", a, v, list, code, want)
	}
}

// checkMeasures checks the sizes and the degrees of parts, and what follows from them.
func checkMeasures(t *testing.T, a impl.Algebra, sizes, degrees []int64) {
	t.Helper()
	if list, code := impl.SizesOfParts(a); !slices.Equal(list, sizes) || code != impl.ErrNone {
		t.Errorf("SizesOfParts(%v) = %v, %d instead of %v", a, list, code, sizes)
	}
	if list, code := impl.DegreesOfParts(a); !slices.Equal(list, degrees) || code != impl.ErrNone {
		t.Errorf("DegreesOfParts(%v) = %v, %d instead of %v", a, list, code, degrees)
	}
	split := slices.Max(degrees) == 1
	if yes, code := impl.IsSplit(a); yes != split || code != impl.ErrNone {
		t.Errorf("IsSplit(%v) = %v, %d", a, yes, code)
	}
	reduced := slices.Equal(sizes, degrees)
	if yes, code := impl.IsReduced(a); yes != reduced || code != impl.ErrNone {
		t.Errorf("IsReduced(%v) = %v, %d", a, yes, code)
	}
	if n, code := impl.CountIdempotents(a); n != 1<<len(sizes) || code != impl.ErrNone {
		t.Errorf("CountIdempotents(%v) = %d, %d", a, n, code)
	}
	if !split || !reduced || !isPlainFrobenius(a) {
		checkNoPartNumbers(t, a)
	}
}

// checkNoPartNumbers checks a commutative algebra without part numbers: ErrRange comes first.
func checkNoPartNumbers(t *testing.T, a impl.Algebra) {
	t.Helper()
	for g, want := range map[int64]int64{0: impl.ErrState, 1: impl.ErrState, 30: impl.ErrState, 31: impl.ErrRange, -1: impl.ErrRange, 1<<63 - 1: impl.ErrRange, -1 << 63: impl.ErrRange} {
		if n, code := impl.PartNumber(a, g); n != 0 || code != want {
			t.Errorf("PartNumber(%v, %d) = %d, %d", a, g, n, code)
		}
	}
}

// checkKnown checks all lists of an algebra whose parts are known.
func checkKnown(t *testing.T, known knownAlgebra) {
	t.Helper()
	a := known.algebra
	var idempotents, nilpotents []impl.Vector
	var sizes, degrees []int64
	for _, part := range known.parts {
		idempotents = append(idempotents, part.idempotent)
		nilpotents = append(nilpotents, part.nilpotents...)
		sizes = append(sizes, int64(len(part.space)))
		degrees = append(degrees, int64(len(part.space)-len(part.nilpotents)))
		checkPrimitive(t, a, part.idempotent, part.space)
	}
	if list := primitivesOf(t, a); !sameVectors(list, idempotents) {
		t.Errorf("%v: PrimitiveIdempotents(%v) = %v instead of %v", known.kinds, a, list, idempotents)
	}
	if list := nilradicalOf(t, a); !sameVectors(list, plainSpan(a, nilpotents)) {
		t.Errorf("%v: NilradicalOf(%v) = %v", known.kinds, a, list)
	}
	checkMeasures(t, a, sizes, degrees)
	checkPrimitive(t, a, impl.Vector{}, nil)
	for i, e := range idempotents {
		for _, other := range idempotents[:i] {
			checkPrimitive(t, a, plainSum(a, e, other, 1), nil)
		}
		for _, v := range nilpotents {
			checkPrimitive(t, a, v, nil)
			checkPrimitive(t, a, plainSum(a, e, v, 1), nil)
		}
		if a.Prime > 2 {
			checkPrimitive(t, a, plainSum(a, impl.Vector{}, e, 2), nil)
		}
	}
}

// TestKnownAlgebras checks the sums of all collections of local algebras, for all primes and to other
// bases: nilradicals of every dimension below the Size, and parts of all sizes and degrees.
func TestKnownAlgebras(t *testing.T) {
	dimensions := map[[2]int]bool{}
	for _, known := range knownAlgebras(t, primes) {
		checkKnown(t, known)
		dimensions[[2]int{int(known.algebra.Size), len(nilradicalOf(t, known.algebra))}] = true
	}
	if len(dimensions) != 21 {
		t.Errorf("of 21 dimensions of nilradicals there are %d", len(dimensions))
	}
}

// lookedAt has what is found by looking at all vectors of a small commutative algebra.
type lookedAt struct {
	idempotents []impl.Vector
	nilpotents  []impl.Vector
}

func lookAt(a impl.Algebra) lookedAt {
	var found lookedAt
	for _, v := range allVectors(a) {
		if isPlainIdempotent(a, v) {
			found.idempotents = append(found.idempotents, v)
		}
		if plainIndex(a, v) > 0 {
			found.nilpotents = append(found.nilpotents, v)
		}
	}
	return found
}

// isPlainPrimitive tells whether an idempotent is no sum of two others, which are not 0, with the
// product 0.
func (found lookedAt) isPlainPrimitive(a impl.Algebra, e impl.Vector) bool {
	for _, v := range found.idempotents {
		for _, w := range found.idempotents {
			if v != (impl.Vector{}) && w != (impl.Vector{}) && plainSum(a, v, w, 1) == e && plainProduct(a, v, w) == (impl.Vector{}) {
				return false
			}
		}
	}
	return e != impl.Vector{}
}

// timesAll returns the products of a vector and others.
func timesAll(a impl.Algebra, e impl.Vector, list []impl.Vector) []impl.Vector {
	var products []impl.Vector
	for _, v := range list {
		products = append(products, plainProduct(a, e, v))
	}
	return products
}

// inBoth returns the vectors of the first list that are also in the second one.
func inBoth(first, second []impl.Vector) []impl.Vector {
	has := map[impl.Vector]bool{}
	for _, v := range second {
		has[v] = true
	}
	var list []impl.Vector
	for _, v := range first {
		if has[v] {
			list = append(list, v)
		}
	}
	return list
}

// checkByLooking checks all lists of a small commutative algebra against all its vectors.
func checkByLooking(t *testing.T, a impl.Algebra) {
	t.Helper()
	found := lookAt(a)
	var primitive []impl.Vector
	var sizes, degrees []int64
	for _, e := range found.idempotents {
		if !found.isPlainPrimitive(a, e) {
			checkPrimitive(t, a, e, nil)
			continue
		}
		primitive = append(primitive, e)
		all := timesAll(a, e, allVectors(a))
		space, inside := plainSpan(a, all), plainSpan(a, inBoth(all, found.nilpotents))
		sizes = append(sizes, int64(len(space)))
		degrees = append(degrees, int64(len(space)-len(inside)))
		checkPrimitive(t, a, e, space)
	}
	if list := primitivesOf(t, a); !sameVectors(list, primitive) {
		t.Errorf("PrimitiveIdempotents(%v) = %v instead of %v", a, list, primitive)
	}
	if list := nilradicalOf(t, a); !sameVectors(list, plainSpan(a, found.nilpotents)) {
		t.Errorf("NilradicalOf(%v) = %v", a, list)
	}
	if n, code := impl.CountIdempotents(a); n != int64(len(found.idempotents)) || code != impl.ErrNone {
		t.Errorf("CountIdempotents(%v) = %d, %d", a, n, code)
	}
	checkMeasures(t, a, sizes, degrees)
}

// TestSmallAlgebras looks at all vectors of the samples that have few.
func TestSmallAlgebras(t *testing.T) {
	count := 0
	for _, a := range commutativeSamples(t) {
		if countVectors(a) <= 800 {
			checkByLooking(t, a)
			count++
		}
	}
	if count < 150 {
		t.Errorf("there are only %d small algebras", count)
	}
}

// TestAllOfSizeTwo looks at all commutative algebras of the size 2 for the primes 2 and 3.
func TestAllOfSizeTwo(t *testing.T) {
	count := 0
	for _, p := range []int64{2, 3} {
		for number := range plainCount(p, 6) {
			a := impl.Algebra{Prime: p, Size: 2, Form: impl.Vector{1, 1}}
			for i := range 6 {
				a.Table[i/4][(i+2)/4][i%2] = byte(number / plainCount(p, int64(i)) % p)
			}
			a.Table[1][0] = a.Table[0][1]
			if impl.IsAlgebra(a) {
				checkByLooking(t, a)
				count++
			}
		}
	}
	if count < 50 {
		t.Errorf("there are only %d algebras of the size 2", count)
	}
}

// Promise 5: primitive idempotents add up to the unit with products 0, and sizes add up to the Size.
func TestPrimitiveIdempotentsAddUp(t *testing.T) {
	for _, a := range commutativeSamples(t) {
		list := primitivesOf(t, a)
		var sum impl.Vector
		for i, e := range list {
			sum = plainSum(a, sum, e, 1)
			if e == (impl.Vector{}) || !isPlainIdempotent(a, e) {
				t.Errorf("PrimitiveIdempotents(%v) = %v has %v", a, list, e)
			}
			for _, other := range list[:i] {
				if plainProduct(a, e, other) != (impl.Vector{}) || slices.Compare(other[:], e[:]) >= 0 {
					t.Errorf("PrimitiveIdempotents(%v) = %v has %v and %v", a, list, other, e)
				}
			}
			checkLocal(t, a, e)
		}
		if sum != unitOf(t, a) {
			t.Errorf("PrimitiveIdempotents(%v) = %v add up to %v", a, list, sum)
		}
		sizes, code := impl.SizesOfParts(a)
		whole := int64(0)
		for i, size := range sizes {
			space, code := impl.PartOf(a, list[i])
			if int64(len(space)) != size || code != impl.ErrNone {
				t.Errorf("PartOf(%v, %v) = %v, %d, and its size is %d", a, list[i], space, code, size)
			}
			whole += size
		}
		if whole != a.Size || len(sizes) != len(list) || code != impl.ErrNone {
			t.Errorf("SizesOfParts(%v) = %v, %d", a, sizes, code)
		}
	}
}

// checkLocal checks that what is drawn from the part of e is nilpotent, or has e among its multiples.
func checkLocal(t *testing.T, a impl.Algebra, e impl.Vector) {
	t.Helper()
	size := len(plainSpan(a, timesAll(a, e, []impl.Vector{basis(0), basis(1), basis(2), basis(3), basis(4), basis(5)})))
	for _, v := range timesAll(a, e, drawnVectors(a, 25)) {
		var products []impl.Vector
		for i := range a.Size {
			products = append(products, plainProduct(a, v, basis(i)))
		}
		if plainIndex(a, v) == 0 && len(plainSpan(a, products)) != size {
			t.Errorf("%v: the part of %v falls apart by %v", a, e, v)
		}
	}
}

func TestIdempotentsOfNames(t *testing.T) {
	for _, p := range primes {
		field, dual, pair := named(t, "field", p), named(t, "dual", p), named(t, "pair", p)
		checkPrimitive(t, field, impl.Vector{1}, []impl.Vector{{1}})
		checkPrimitive(t, field, impl.Vector{}, nil)
		checkMeasures(t, field, []int64{1}, []int64{1})
		checkPrimitive(t, dual, impl.Vector{1}, []impl.Vector{{1}, {0, 1}})
		checkPrimitive(t, dual, impl.Vector{0, 1}, nil)
		checkPrimitive(t, dual, impl.Vector{1, 1}, nil)
		checkMeasures(t, dual, []int64{2}, []int64{1})
		if list := primitivesOf(t, dual); !sameVectors(list, []impl.Vector{{1}}) {
			t.Errorf("PrimitiveIdempotents(dual, %d) = %v", p, list)
		}
		if list := nilradicalOf(t, dual); !sameVectors(list, []impl.Vector{{0, 1}}) {
			t.Errorf("NilradicalOf(dual, %d) = %v", p, list)
		}
		checkPrimitive(t, pair, impl.Vector{1}, []impl.Vector{{1}})
		checkPrimitive(t, pair, impl.Vector{0, 1}, []impl.Vector{{0, 1}})
		checkPrimitive(t, pair, impl.Vector{1, 1}, nil)
		checkMeasures(t, pair, []int64{1, 1}, []int64{1, 1})
		if list := primitivesOf(t, pair); !sameVectors(list, []impl.Vector{{0, 1}, {1}}) {
			t.Errorf("PrimitiveIdempotents(pair, %d) = %v", p, list)
		}
		// Third roots of the unit: one of them for the prime 3, three for 7 and 13, and else one of them
		// and a field of two more. For 2 the idempotent 111 comes behind 011, for 5 and 11 it is before.
		cyclic := named(t, "cyclic3", p)
		switch p {
		case 3:
			checkMeasures(t, cyclic, []int64{3}, []int64{1})
		case 7, 13:
			checkMeasures(t, cyclic, []int64{1, 1, 1}, []int64{1, 1, 1})
		case 2:
			checkMeasures(t, cyclic, []int64{2, 1}, []int64{2, 1})
		default:
			third := byte(plainInverse(p, 3))
			first := impl.Vector{third, third, third} // 2 2 2 for 5, 4 4 4 for 11
			second := plainSum(cyclic, impl.Vector{1}, first, p-1)
			if list := primitivesOf(t, cyclic); !sameVectors(list, []impl.Vector{first, second}) {
				t.Errorf("PrimitiveIdempotents(cyclic3, %d) = %v", p, list)
			}
			checkMeasures(t, cyclic, []int64{1, 2}, []int64{1, 2})
		}
	}
	// The unit of the field of the size 1 with e(0) e(0) = 2 e(0) is 6 e(0).
	small := parsed(t, "11:1:2:a")
	checkPrimitive(t, small, impl.Vector{6}, []impl.Vector{{1}})
	checkPrimitive(t, small, impl.Vector{1}, nil)
	checkMeasures(t, small, []int64{1}, []int64{1})
}

// TestPartsOfSums checks that the parts of a sum are those of both algebras.
func TestPartsOfSums(t *testing.T) {
	count := 0
	for _, two := range partners(t) {
		a, b := two[0], two[1]
		if !isPlainCommutative(a) || !isPlainCommutative(b) || a.Size+b.Size > 6 {
			continue
		}
		sum := sumOf(t, a, b)
		var want []impl.Vector
		for _, e := range primitivesOf(t, b) {
			var moved impl.Vector
			copy(moved[a.Size:], e[:b.Size])
			want = append(want, moved)
		}
		want = append(want, primitivesOf(t, a)...)
		if list := primitivesOf(t, sum); !sameVectors(list, want) {
			t.Errorf("PrimitiveIdempotents(%v) = %v instead of %v", sum, list, want)
		}
		first, _ := impl.SizesOfParts(b)
		second, _ := impl.SizesOfParts(a)
		degrees, _ := impl.DegreesOfParts(b)
		more, _ := impl.DegreesOfParts(a)
		checkMeasures(t, sum, append(first, second...), append(degrees, more...))
		count++
	}
	if count < 20 {
		t.Errorf("there are only %d sums", count)
	}
}

// plainPartNumber is the part number straight from the definition, by the inverse of each form.
func plainPartNumber(t *testing.T, a impl.Algebra, g int64) int64 {
	t.Helper()
	sum := int64(0)
	for _, e := range primitivesOf(t, a) {
		value := plainForm(a, e)
		sum += value * plainPower(a.Prime, plainInverse(a.Prime, value), g)
	}
	return sum % a.Prime
}

// checkPartNumbers checks all part numbers of an algebra that has them.
func checkPartNumbers(t *testing.T, a impl.Algebra) {
	t.Helper()
	for g := range int64(31) {
		n, code := impl.PartNumber(a, g)
		if n != plainPartNumber(t, a, g) || code != impl.ErrNone {
			t.Errorf("PartNumber(%v, %d) = %d, %d", a, g, n, code)
		}
		if genus, code := impl.GenusNumber(a, g); n != genus || code != impl.ErrNone {
			t.Errorf("PartNumber(%v, %d) = %d, and the genus number is %d, %d", a, g, n, genus, code)
		}
	}
	for _, g := range []int64{-1, 31, 32, 1 << 32, 1 << 62, 1<<63 - 1, -1 << 63} {
		if n, code := impl.PartNumber(a, g); n != 0 || code != impl.ErrRange {
			t.Errorf("PartNumber(%v, %d) = %d, %d", a, g, n, code)
		}
	}
}

// hasPartNumbers tells by sizes and degrees of 1 whether there are part numbers.
func hasPartNumbers(t *testing.T, a impl.Algebra) bool {
	t.Helper()
	return isPlainFrobenius(a) && int64(len(primitivesOf(t, a))) == a.Size
}

// Promise 15: part numbers are genus numbers.
func TestPartNumbers(t *testing.T) {
	if impl.MaxSquare != 30 {
		t.Errorf("MaxSquare is %d", impl.MaxSquare)
	}
	counts := map[bool]int{}
	for _, a := range commutativeSamples(t) {
		has := hasPartNumbers(t, a)
		counts[has]++
		if has {
			checkPartNumbers(t, a)
		} else {
			checkNoPartNumbers(t, a)
		}
	}
	if counts[true] < 150 || counts[false] < 150 {
		t.Errorf("there are too few samples: %v", counts)
	}
}

// TestPartNumbersOfForms checks sums of fields with known forms of their units.
func TestPartNumbersOfForms(t *testing.T) {
	for _, p := range primes {
		for first := int64(1); first < p; first++ {
			for second := int64(1); second < p; second++ {
				a := productOfFields(p, first, second, 1)
				for g := range int64(31) {
					want := first*plainPower(p, plainInverse(p, first), g) + second*plainPower(p, plainInverse(p, second), g) + 1
					if n, code := impl.PartNumber(a, g); n != want%p || code != impl.ErrNone {
						t.Errorf("PartNumber of fields with %d, %d, 1 for %d, at %d: %d, %d", first, second, p, g, n, code)
					}
				}
			}
		}
	}
	// The form of the unit of the first one is 5, that of the second one 1 / 5.
	for text, wants := range map[string][]int64{"11:1:2:a": {5, 1, 9}, "11:1:5:1": {9, 1, 5}} {
		for g, want := range wants {
			if n, code := impl.PartNumber(parsed(t, text), int64(g)); n != want || code != impl.ErrNone {
				t.Errorf("PartNumber(%s, %d) = %d, %d", text, g, n, code)
			}
		}
	}
}

// TestStatesOfPartNumbers checks algebras of which each lacks one thing alone.
func TestStatesOfPartNumbers(t *testing.T) {
	for _, p := range primes {
		checkNoPartNumbers(t, named(t, "dual", p))
		checkNoPartNumbers(t, polynomialsBy(p, irreducible(p, 2)))
		checkNoPartNumbers(t, productOfFields(p, 1, 0))
		checkNoPartNumbers(t, parsed(t, primeText(p)+":1:1:0"))
		checkNoPartNumbers(t, named(t, "matrix", p))
		checkNoPartNumbers(t, named(t, "symmetric", p))
	}
}

// TestFormsDoNotMatter checks that without its form an algebra has the same parts.
func TestFormsDoNotMatter(t *testing.T) {
	for _, a := range commutativeSamples(t) {
		flat := a
		flat.Form = impl.Vector{}
		list := primitivesOf(t, a)
		if !sameVectors(primitivesOf(t, flat), list) || !sameVectors(nilradicalOf(t, flat), nilradicalOf(t, a)) {
			t.Errorf("%v has other idempotents, or nilpotent vectors, without its form", a)
		}
		for _, e := range list {
			space, _ := impl.PartOf(a, e)
			checkPrimitive(t, flat, e, space)
		}
		sizes, _ := impl.SizesOfParts(a)
		degrees, _ := impl.DegreesOfParts(a)
		checkMeasures(t, flat, sizes, degrees)
		checkNoPartNumbers(t, flat)
	}
}

// listFunctions returns the functions of an algebra alone that return vectors.
func listFunctions() map[string]func(a impl.Algebra) ([]impl.Vector, int64) {
	return map[string]func(a impl.Algebra) ([]impl.Vector, int64){
		"NilradicalOf": impl.NilradicalOf, "PrimitiveIdempotents": impl.PrimitiveIdempotents,
	}
}

// checkNoLists checks that all functions which want a commutative algebra return this code alone; v is
// their vector.
func checkNoLists(t *testing.T, why string, a impl.Algebra, v impl.Vector, want int64) {
	t.Helper()
	for name, f := range listFunctions() {
		if x, code := f(a); len(x) != 0 || code != want {
			t.Errorf("%s: %s = %v, %d", why, name, x, code)
		}
	}
	for name, f := range map[string]func(a impl.Algebra) ([]int64, int64){"SizesOfParts": impl.SizesOfParts, "DegreesOfParts": impl.DegreesOfParts} {
		if x, code := f(a); len(x) != 0 || code != want {
			t.Errorf("%s: %s = %v, %d", why, name, x, code)
		}
	}
	for name, f := range map[string]func(a impl.Algebra) (bool, int64){"IsReduced": impl.IsReduced, "IsSplit": impl.IsSplit} {
		if yes, code := f(a); yes || code != want {
			t.Errorf("%s: %s = %v, %d", why, name, yes, code)
		}
	}
	if n, code := impl.CountIdempotents(a); n != 0 || code != want {
		t.Errorf("%s: CountIdempotents = %d, %d", why, n, code)
	}
	checkNoPart(t, why, a, v, want)
}

func checkNoPart(t *testing.T, why string, a impl.Algebra, v impl.Vector, want int64) {
	t.Helper()
	if yes, code := impl.IsPrimitive(a, v); yes || code != want {
		t.Errorf("%s: IsPrimitive(%v) = %v, %d", why, v, yes, code)
	}
	if x, code := impl.PartOf(a, v); len(x) != 0 || code != want {
		t.Errorf("%s: PartOf(%v) = %v, %d", why, v, x, code)
	}
}

// checkNoVector checks the functions of a vector, with what is invalid.
func checkNoVector(t *testing.T, why string, a impl.Algebra, v impl.Vector) {
	t.Helper()
	if yes, code := impl.IsIdempotent(a, v); yes || code != impl.ErrInvalid {
		t.Errorf("%s: IsIdempotent(%v) = %v, %d", why, v, yes, code)
	}
	if n, code := impl.NilIndex(a, v); n != 0 || code != impl.ErrInvalid {
		t.Errorf("%s: NilIndex(%v) = %d, %d", why, v, n, code)
	}
	if x, code := impl.MinimalPolynomial(a, v); len(x) != 0 || code != impl.ErrInvalid {
		t.Errorf("%s: MinimalPolynomial(%v) = %v, %d", why, v, x, code)
	}
	checkNoPart(t, why, a, v, impl.ErrInvalid)
}

func TestPartsOfBrokenAlgebras(t *testing.T) {
	for why, a := range brokenAlgebras(t) {
		for _, v := range append(badVectors(), impl.Vector{}, impl.Vector{1}) {
			checkNoVector(t, why, a, v)
			checkNoLists(t, why, a, v, impl.ErrInvalid)
		}
		for _, g := range []int64{0, 1, 30, 31, -1, 1 << 62, 1<<63 - 1, -1 << 63} {
			if n, code := impl.PartNumber(a, g); n != 0 || code != impl.ErrInvalid {
				t.Errorf("%s: PartNumber(%d) = %d, %d", why, g, n, code)
			}
		}
	}
}

// TestPartsOfBadVectors checks that what is no vector is told before what is not commutative.
func TestPartsOfBadVectors(t *testing.T) {
	for _, v := range badVectors() {
		checkNoVector(t, "dual", named(t, "dual", 5), v)
		checkNoVector(t, "pair", named(t, "pair", 5), v)
	}
	for _, v := range []impl.Vector{{5}, {0, 0, 0, 5}, {0, 0, 0, 0, 1}, {1, 0, 0, 1, 0, 1}, {255}} {
		checkNoVector(t, "matrix", named(t, "matrix", 5), v)
	}
	for _, p := range primes {
		for _, name := range impl.AlgebraNames() {
			a := named(t, name, p)
			for i := range a.Size {
				var v impl.Vector
				v[i] = byte(p)
				checkNoVector(t, name, a, v)
			}
			for i := a.Size; i < 6; i++ {
				checkNoVector(t, name, a, basis(i))
			}
		}
	}
}

// TestNotCommutative checks that algebras that are not commutative have no parts, but that all
// functions of a vector answer.
func TestNotCommutative(t *testing.T) {
	count := 0
	for _, a := range idempotentSamples(t) {
		if isPlainCommutative(a) {
			continue
		}
		for _, v := range []impl.Vector{{}, {1}, unitOf(t, a)} {
			checkNoLists(t, "not commutative", a, v, impl.ErrState)
			checkIdempotent(t, a, v)
			checkNilIndex(t, a, v)
			minimalOf(t, a, v)
		}
		checkNoPartNumbers(t, a)
		count++
	}
	if count < 40 {
		t.Errorf("there are only %d algebras", count)
	}
}

// TestPartMemory checks that results are new memory, also behind their ends.
func TestPartMemory(t *testing.T) {
	a := sumOf(t, named(t, "dual", 5), named(t, "pair", 5))
	checkMemory(t, "MinimalPolynomial", func() []int64 {
		list, _ := impl.MinimalPolynomial(a, impl.Vector{1, 2, 3, 4})
		return list
	})
	for _, f := range []func(a impl.Algebra) ([]int64, int64){impl.SizesOfParts, impl.DegreesOfParts} {
		checkMemory(t, "numbers of parts", func() []int64 {
			list, _ := f(a)
			return list
		})
	}
	calls := listFunctions()
	calls["PartOf"] = func(a impl.Algebra) ([]impl.Vector, int64) { return impl.PartOf(a, impl.Vector{1}) }
	for name, f := range calls {
		list, _ := f(a)
		copied := slices.Clone(list)
		for i := range list {
			list[i] = impl.Vector{99}
		}
		if again, code := f(a); len(again) == 0 || !sameVectors(again, copied) || code != impl.ErrNone {
			t.Errorf("%s: %v, and then %v", name, copied, again)
		}
	}
}
