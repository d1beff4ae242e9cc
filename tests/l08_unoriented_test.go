package tests

import (
	"runtime"
	"slices"
	"strconv"
	"sync"
	"testing"

	"loop.example/g01267/impl"
)

// starred is an algebra with a list of images of its basis, which is a star where nothing else is said.
type starred struct {
	why     string
	algebra impl.Algebra
	star    []impl.Vector
}

// basisAt returns the list of the basis vectors at places.
func basisAt(places ...int64) []impl.Vector {
	var list []impl.Vector
	for _, place := range places {
		list = append(list, basis(place))
	}
	return list
}

// withIdentity returns an algebra with the list of e(0) to e(n - 1).
func withIdentity(why string, a impl.Algebra) starred {
	return starred{why + " with the identity", a, basisAt(counted(int(a.Size))...)}
}

// timesAt returns the list with the vector at a place k times as great.
func timesAt(a impl.Algebra, list []impl.Vector, place, k int64) []impl.Vector {
	again := slices.Clone(list)
	again[place] = plainSum(a, impl.Vector{}, list[place], (k%a.Prime+a.Prime)%a.Prime)
	return again
}

// turnedSigns returns x with the other sign of the images at places.
func turnedSigns(x starred, places ...int64) starred {
	for _, place := range places {
		x.star = timesAt(x.algebra, x.star, place, -1)
		x.why += ", turned at " + digit(place)
	}
	return x
}

// isPlainStar looks at basis vectors, straight from the definition.
func isPlainStar(a impl.Algebra, star []impl.Vector) bool {
	for i := range a.Size {
		if imageOf(a, star, star[i]) != basis(i) || plainForm(a, star[i]) != plainForm(a, basis(i)) {
			return false
		}
		for j := range a.Size {
			if imageOf(a, star, plainProduct(a, basis(i), basis(j))) != plainProduct(a, star[j], star[i]) {
				return false
			}
		}
	}
	return true
}

// isWholeStar looks at all vectors of a small algebra.
func isWholeStar(a impl.Algebra, star []impl.Vector) bool {
	for _, v := range allVectors(a) {
		image := imageOf(a, star, v)
		if imageOf(a, star, image) != v || plainForm(a, image) != plainForm(a, v) {
			return false
		}
		for _, w := range allVectors(a) {
			if imageOf(a, star, plainProduct(a, v, w)) != plainProduct(a, imageOf(a, star, w), image) {
				return false
			}
		}
	}
	return true
}

// sumStar returns the sum of two algebras with the star that is both.
func sumStar(t *testing.T, x, y starred) starred {
	t.Helper()
	star := slices.Clone(x.star)
	for _, v := range y.star {
		var shifted impl.Vector
		copy(shifted[x.algebra.Size:], v[:y.algebra.Size])
		star = append(star, shifted)
	}
	return starred{x.why + " + " + y.why, sumOf(t, x.algebra, y.algebra), star}
}

// tensorStar returns the tensor product of two algebras with the star that is both.
func tensorStar(t *testing.T, x, y starred) starred {
	t.Helper()
	whole := tensorOf(t, x.algebra, y.algebra)
	var star []impl.Vector
	for _, v := range x.star {
		for _, w := range y.star {
			var both impl.Vector
			for k := range whole.Size {
				both[k] = byte(int64(v[k/y.algebra.Size]) * int64(w[k%y.algebra.Size]) % whole.Prime)
			}
			star = append(star, both)
		}
	}
	return starred{x.why + " (x) " + y.why, whole, star}
}

// exchanged returns the sum of an algebra and its opposite one, with the star that exchanges them.
func exchanged(t *testing.T, why string, a impl.Algebra) starred {
	t.Helper()
	places := counted(int(2 * a.Size))
	return starred{"exchanged " + why, sumOf(t, a, oppositeOf(t, a)), basisAt(slices.Concat(places[a.Size:], places[:a.Size])...)}
}

// crossed returns the tensor product of a commutative algebra with itself, and the star that exchanges
// the factors.
func crossed(t *testing.T, why string, a impl.Algebra) starred {
	t.Helper()
	var places []int64
	for i := range a.Size {
		for j := range a.Size {
			places = append(places, a.Size*j+i)
		}
	}
	return starred{"crossed " + why, tensorOf(t, a, a), basisAt(places...)}
}

// inBasisOf returns an algebra with its star to some other basis.
func inBasisOf(x starred, first int) starred {
	rows := otherBasis(x.algebra, first)
	again, images := inBasis(x.algebra, rows)
	var star []impl.Vector
	for _, v := range rows {
		star = append(star, imageOf(x.algebra, images, imageOf(x.algebra, x.star, v)))
	}
	return starred{x.why + " to another basis", again, star}
}

// inverseElements returns the inverses of the elements of a group.
func inverseElements(g impl.Group) []int64 {
	var list []int64
	for x := range g.Order {
		list = append(list, back(g, x))
	}
	return list
}

// plainInverseStar returns, for each class, the basis vector of the class that has the inverses of all of
// its elements.
func plainInverseStar(g impl.Group) []impl.Vector {
	var star []impl.Vector
	classes := plainClasses(g)
	for _, class := range classes {
		var inverses []int64
		for _, x := range class {
			inverses = append(inverses, back(g, x))
		}
		slices.Sort(inverses)
		star = append(star, basis(int64(slices.IndexFunc(classes, func(other []int64) bool { return slices.Equal(other, inverses) }))))
	}
	return star
}

// quadric returns the algebra with 1, some vectors, and s as its basis, in which the square of the vector
// i is s times the number i, the other products of these vectors are 0, and the form takes the number of s.
func quadric(p int64, numbers ...byte) impl.Algebra {
	n := int64(len(numbers)) + 2
	a := impl.Algebra{Prime: p, Size: n, Form: basis(n - 1)}
	for i := range n {
		a.Table[0][i], a.Table[i][0] = basis(i), basis(i)
	}
	for i, number := range numbers {
		a.Table[i+1][i+1][n-1] = number
	}
	return a
}

// corner returns the algebra with 1, x, y, .., y^4 as its basis, where x y and y^5 are 0, x x is a number
// times y^4, and the form takes the number of y^4.
func corner(p int64, number byte) impl.Algebra {
	a := impl.Algebra{Prime: p, Size: 6, Form: basis(5)}
	for i := range int64(6) {
		a.Table[0][i], a.Table[i][0] = basis(i), basis(i)
	}
	a.Table[1][1][5] = number
	for i := int64(1); i <= 4; i++ {
		for j := int64(1); i+j <= 4; j++ {
			a.Table[i+1][j+1] = basis(i + j + 1)
		}
	}
	return a
}

// powersOf returns the algebra of polynomials modulo x^n.
func powersOf(p int64, n int) impl.Algebra {
	return polynomialsBy(p, polynomialAt(p, n, 0))
}

// leastOther returns the least number from 1 on that is no square modulo an odd prime.
func leastOther(p int64) int64 {
	for number := range p {
		if number != 0 && plainPower(p, number, (p-1)/2) != 1 {
			return number
		}
	}
	return 0
}

// conjugated returns the field of p p numbers with the star that exchanges the roots of a polynomial.
func conjugated(p int64) starred {
	if p == 2 {
		return starred{"conjugated", impl.Algebra{Prime: 2, Size: 2, Table: [6][6][6]byte{{{1}, {0, 1}}, {{0, 1}, {1, 1}}}, Form: impl.Vector{0, 1}}, []impl.Vector{{1}, {1, 1}}}
	}
	root := byte(leastOther(p))
	a := impl.Algebra{Prime: p, Size: 2, Table: [6][6][6]byte{{{1}, {0, 1}}, {{0, 1}, {root}}}, Form: impl.Vector{1}}
	return starred{"conjugated", a, []impl.Vector{{1}, {0, byte(p - 1)}}}
}

// simpleStars returns algebras with stars for a prime, none of them put together from others.
func simpleStars(t *testing.T, p int64) []starred {
	t.Helper()
	matrix := named(t, "matrix", p)
	list := []starred{
		withIdentity("field", named(t, "field", p)),
		withIdentity("dual", named(t, "dual", p)),
		withIdentity("pair", named(t, "pair", p)),
		withIdentity("cyclic3", named(t, "cyclic3", p)),
		{"pair", named(t, "pair", p), basisAt(1, 0)},
		{"cyclic3", named(t, "cyclic3", p), basisAt(0, 2, 1)},
		{"symmetric", named(t, "symmetric", p), basisAt(0, 1, 2, 4, 3, 5)},
		{"transposed matrix", matrix, basisAt(0, 2, 1, 3)},
		turnedSigns(starred{"other diagonal of matrix", matrix, basisAt(3, 1, 2, 0)}, 1, 2),
		turnedSigns(withIdentity("x^3", powersOf(p, 3)), 1),
		turnedSigns(withIdentity("x^5", powersOf(p, 5)), 1, 3),
		withIdentity("x^5", powersOf(p, 5)),
		turnedSigns(withIdentity("quadric of one", quadric(p, 1)), 1),
		turnedSigns(withIdentity("quadric of two", quadric(p, 1, byte(p-1))), 2),
		{"quadric of two, exchanged", quadric(p, 1, 1), basisAt(0, 2, 1, 3)},
		withIdentity("quadric of three", quadric(p, 1, byte(p-1), 1)),
		turnedSigns(withIdentity("quadric of four", quadric(p, 1, 1, 1, byte(p-1))), 3, 4),
		withIdentity("corner", corner(p, byte(p-1))),
		turnedSigns(withIdentity("corner", corner(p, 1)), 1),
		turnedSigns(withIdentity("corner", corner(p, 1)), 2, 4),
		conjugated(p),
		withIdentity("quadratic", conjugated(p).algebra),
	}
	for _, name := range groupNames {
		g := knownGroup(t, name)
		list = append(list, starred{"group " + name, groupAlgebra(t, p, g), basisAt(inverseElements(g)...)},
			starred{"classes of " + name, classAlgebra(t, p, g), plainInverseStar(g)},
			withIdentity("classes of "+name, classAlgebra(t, p, g)))
	}
	return list
}

// joinedStars returns sums and tensor products with stars for a prime.
func joinedStars(t *testing.T, p int64) []starred {
	t.Helper()
	field, dual, pair, cyclic := named(t, "field", p), named(t, "dual", p), named(t, "pair", p), named(t, "cyclic3", p)
	exchange, inverse := starred{"pair", pair, basisAt(1, 0)}, starred{"cyclic3", cyclic, basisAt(0, 2, 1)}
	signs := turnedSigns(withIdentity("x^3", powersOf(p, 3)), 1)
	transposed := starred{"transposed matrix", named(t, "matrix", p), basisAt(0, 2, 1, 3)}
	list := []starred{
		exchanged(t, "field", field), exchanged(t, "dual", dual), exchanged(t, "pair", pair), exchanged(t, "cyclic3", cyclic),
		crossed(t, "dual", dual), crossed(t, "pair", pair), crossed(t, "field", field),
		sumStar(t, exchange, withIdentity("dual", dual)),
		sumStar(t, withIdentity("field", field), transposed),
		sumStar(t, transposed, exchange),
		sumStar(t, signs, inverse),
		sumStar(t, conjugated(p), withIdentity("pair", pair)),
		sumStar(t, withIdentity("quadric of three", quadric(p, 1, 1, 1)), withIdentity("field", field)),
		tensorStar(t, exchange, inverse), tensorStar(t, signs, exchange),
		tensorStar(t, withIdentity("dual", dual), withIdentity("cyclic3", cyclic)),
		tensorStar(t, conjugated(p), exchange), tensorStar(t, conjugated(p), conjugated(p)),
		tensorStar(t, withIdentity("field", field), transposed),
		tensorStar(t, withIdentity("dual", powersOf(p, 2)), withIdentity("x^3", powersOf(p, 3))),
	}
	units := withIdentity("field", field)
	for sum := units; ; sum = sumStar(t, sum, units) {
		list = append(list, sum)
		if sum.algebra.Size == 6 {
			return list
		}
	}
}

// oddStars returns algebras that are not Frobenius, with stars.
func oddStars(t *testing.T) []starred {
	t.Helper()
	odd := oddAlgebras(t)
	return []starred{
		{"triangles", odd[0], basisAt(2, 1, 0)},
		{"x, y", odd[1], basisAt(0, 2, 1)},
		withIdentity("x, y", odd[1]), withIdentity("dual with a bad form", odd[2]), withIdentity("other unit", odd[5]),
		withIdentity("form 0", odd[6]), withIdentity("another basis", odd[3]),
		exchanged(t, "triangles", odd[0]),
	}
}

// changedForms returns commutative algebras with other forms by vectors u with u* = u, and the same star.
func changedForms(t *testing.T, x starred) []starred {
	t.Helper()
	var list []starred
	for _, v := range drawnVectors(x.algebra, 12) {
		u := plainSum(x.algebra, v, imageOf(x.algebra, x.star, v), 1)
		if isPlainInvertible(x.algebra, u) && u != unitOf(t, x.algebra) && len(list) < 2 {
			list = append(list, starred{x.why + " with another form", plainChange(x.algebra, u), x.star})
		}
	}
	return list
}

// starSamples returns algebras with stars, for all primes, to their own bases and to others.
func starSamples(t *testing.T) []starred {
	t.Helper()
	samples := oddStars(t)
	for i, p := range primes {
		for k, x := range append(simpleStars(t, p), joinedStars(t, p)...) {
			samples = append(samples, x)
			if (i+k)%2 == 0 {
				samples = append(samples, inBasisOf(x, k%7))
			}
			if isPlainCommutative(x.algebra) && (i+k)%3 == 0 {
				samples = append(samples, changedForms(t, x)...)
			}
		}
	}
	return samples
}

// kleinSamples returns the samples with Klein elements.
func kleinSamples(t *testing.T) []starred {
	t.Helper()
	var samples []starred
	for _, x := range starSamples(t) {
		if isPlainCommutative(x.algebra) && isPlainFrobenius(x.algebra) {
			samples = append(samples, x)
		}
	}
	return samples
}

func TestStarSamples(t *testing.T) {
	kinds := map[string]int{}
	for _, x := range starSamples(t) {
		if !impl.IsAlgebra(x.algebra) || !areVectorsOf(x.algebra, x.star) || !isPlainStar(x.algebra, x.star) {
			t.Errorf("%s: %v is no star of %v", x.why, x.star, x.algebra)
		}
		commutative, frobenius := isPlainCommutative(x.algebra), isPlainFrobenius(x.algebra)
		kinds["commutative: "+strconv.FormatBool(commutative)]++
		kinds["Frobenius: "+strconv.FormatBool(frobenius)]++
		if commutative && frobenius {
			kinds["identity: "+strconv.FormatBool(sameVectors(x.star, basisAt(counted(int(x.algebra.Size))...)))]++
		}
	}
	for kind, least := range map[string]int{"commutative: true": 300, "commutative: false": 60, "Frobenius: true": 300, "Frobenius: false": 12, "identity: true": 150, "identity: false": 150} {
		if kinds[kind] < least {
			t.Errorf("there are %d samples with %s", kinds[kind], kind)
		}
	}
}

// isVectorFor reports whether v is a vector of an algebra.
func isVectorFor(a impl.Algebra, v impl.Vector) bool {
	for i, number := range v {
		if int64(number) >= a.Prime || int64(i) >= a.Size && number != 0 {
			return false
		}
	}
	return true
}

// hasKlein reports whether there is a Klein element.
func hasKlein(a impl.Algebra, star []impl.Vector) bool {
	return isPlainCommutative(a) && isPlainFrobenius(a) && isPlainStar(a, star)
}

// plainKlein is the Klein element straight from the definition.
func plainKlein(t *testing.T, a impl.Algebra, star []impl.Vector) impl.Vector {
	t.Helper()
	var sum impl.Vector
	for k, row := range copairingOf(t, a) {
		for l, number := range row {
			sum = plainSum(a, sum, plainProduct(a, star[k], basis(int64(l))), number)
		}
	}
	return sum
}

// isPlainCrossCap takes the Klein element, and looks at the products with the basis.
func isPlainCrossCap(a impl.Algebra, star []impl.Vector, klein, v impl.Vector) bool {
	if plainProduct(a, v, v) != klein {
		return false
	}
	for i := range a.Size {
		image := plainProduct(a, v, basis(i))
		if imageOf(a, star, image) != image {
			return false
		}
	}
	return true
}

// plainCrossCaps looks for the cross cap elements among all vectors.
func plainCrossCaps(t *testing.T, x starred) []impl.Vector {
	t.Helper()
	klein := plainKlein(t, x.algebra, x.star)
	var list []impl.Vector
	for number := range countVectors(x.algebra) {
		if v := vectorAt(x.algebra, number); isPlainCrossCap(x.algebra, x.star, klein, v) {
			list = append(list, v)
		}
	}
	return list
}

// plainClosed is the form of the product of h factors v and g handle elements.
func plainClosed(t *testing.T, a impl.Algebra, v impl.Vector, h, g int64) int64 {
	t.Helper()
	whole, handle := unitOf(t, a), plainHandle(a, copairingOf(t, a))
	for range h {
		whole = plainProduct(a, whole, v)
	}
	for range g {
		whole = plainProduct(a, whole, handle)
	}
	return plainForm(a, whole)
}

// isGenus reports whether a number is one of 0 to 30.
func isGenus(number int64) bool {
	return number >= 0 && number <= 30
}

// listCode returns the code for an algebra, vectors of it, and a list for it, in their order.
func listCode(a impl.Algebra, list []impl.Vector, vectors ...impl.Vector) int64 {
	isOther := func(v impl.Vector) bool { return !isVectorFor(a, v) }
	switch {
	case !impl.IsAlgebra(a) || slices.ContainsFunc(vectors, isOther):
		return impl.ErrInvalid
	case int64(len(list)) != a.Size || slices.ContainsFunc(list, isOther):
		return impl.ErrRange
	}
	return impl.ErrNone
}

// stateUnless returns a code, or ErrState instead of ErrNone if something does not hold.
func stateUnless(code int64, holds func() bool) int64 {
	if code == impl.ErrNone && !holds() {
		return impl.ErrState
	}
	return code
}

// checkIsStar checks whether a list is a star.
func checkIsStar(t *testing.T, x starred) {
	t.Helper()
	want := listCode(x.algebra, x.star)
	wanted := want == impl.ErrNone && isPlainStar(x.algebra, x.star)
	if yes, code := impl.IsStar(x.algebra, x.star); yes != wanted || code != want {
		t.Errorf("%s: IsStar(%v, %v) = %v, %d instead of %v, %d", x.why, x.algebra, x.star, yes, code, wanted, want)
	}
}

func checkApplied(t *testing.T, x starred, v impl.Vector) {
	t.Helper()
	want := stateUnless(listCode(x.algebra, x.star, v), func() bool { return isPlainStar(x.algebra, x.star) })
	var image impl.Vector
	if want == impl.ErrNone {
		image = imageOf(x.algebra, x.star, v)
	}
	if w, code := impl.ApplyStar(x.algebra, x.star, v); w != image || code != want {
		t.Errorf("%s: ApplyStar(%v, %v, %v) = %v, %d instead of %v, %d", x.why, x.algebra, x.star, v, w, code, image, want)
	}
}

func checkKlein(t *testing.T, x starred) {
	t.Helper()
	want := stateUnless(listCode(x.algebra, x.star), func() bool { return hasKlein(x.algebra, x.star) })
	var klein impl.Vector
	if want == impl.ErrNone {
		klein = plainKlein(t, x.algebra, x.star)
	}
	if v, code := impl.KleinOf(x.algebra, x.star); v != klein || code != want {
		t.Errorf("%s: KleinOf(%v, %v) = %v, %d instead of %v, %d", x.why, x.algebra, x.star, v, code, klein, want)
	}
}

func checkCrossCap(t *testing.T, x starred, v impl.Vector) {
	t.Helper()
	want := stateUnless(listCode(x.algebra, x.star, v), func() bool { return hasKlein(x.algebra, x.star) })
	wanted := want == impl.ErrNone && isPlainCrossCap(x.algebra, x.star, plainKlein(t, x.algebra, x.star), v)
	if yes, code := impl.IsCrossCap(x.algebra, x.star, v); yes != wanted || code != want {
		t.Errorf("%s: IsCrossCap(%v, %v, %v) = %v, %d instead of %v, %d", x.why, x.algebra, x.star, v, yes, code, wanted, want)
	}
}

// checkCrossCaps checks the list of all cross cap elements, and returns their number.
func checkCrossCaps(t *testing.T, x starred) int {
	t.Helper()
	want := stateUnless(listCode(x.algebra, x.star), func() bool { return hasKlein(x.algebra, x.star) })
	if want == impl.ErrNone && countVectors(x.algebra) > 20000 {
		want = impl.ErrLimit
	}
	var all []impl.Vector
	if want == impl.ErrNone {
		all = plainCrossCaps(t, x)
	}
	wanted := all
	if len(all) > 200 {
		wanted, want = nil, impl.ErrLimit
	}
	if list, code := impl.CrossCapsOf(x.algebra, x.star); !sameVectors(list, wanted) || code != want {
		t.Errorf("%s: CrossCapsOf(%v, %v) = %v, %d instead of %v, %d", x.why, x.algebra, x.star, list, code, wanted, want)
	}
	return len(all)
}

func checkClosed(t *testing.T, x starred, v impl.Vector, h, g int64) {
	t.Helper()
	want := listCode(x.algebra, x.star, v)
	if want == impl.ErrNone && !(isGenus(h) && isGenus(g)) {
		want = impl.ErrRange
	}
	want = stateUnless(want, func() bool {
		return hasKlein(x.algebra, x.star) && isPlainCrossCap(x.algebra, x.star, plainKlein(t, x.algebra, x.star), v)
	})
	number := int64(0)
	if want == impl.ErrNone {
		number = plainClosed(t, x.algebra, v, h, g)
	}
	if n, code := impl.UnorientedNumber(x.algebra, x.star, v, h, g); n != number || code != want {
		t.Errorf("%s: UnorientedNumber(%v, %v, %v, %d, %d) = %d, %d instead of %d, %d", x.why, x.algebra, x.star, v, h, g, n, code, number, want)
	}
}

// checkStarCalls checks all functions of an algebra with a list, at a vector and at two numbers.
func checkStarCalls(t *testing.T, x starred, v impl.Vector, h, g int64) {
	t.Helper()
	checkIsStar(t, x)
	checkApplied(t, x, v)
	checkKlein(t, x)
	checkCrossCap(t, x, v)
	checkCrossCaps(t, x)
	checkClosed(t, x, v, h, g)
}

func starOf(t *testing.T, x starred, v impl.Vector) impl.Vector {
	t.Helper()
	image, code := impl.ApplyStar(x.algebra, x.star, v)
	if code != impl.ErrNone {
		t.Fatalf("%s: ApplyStar(%v, %v, %v): code %d", x.why, x.algebra, x.star, v, code)
	}
	return image
}

func crossCapsOf(t *testing.T, x starred) []impl.Vector {
	t.Helper()
	list, code := impl.CrossCapsOf(x.algebra, x.star)
	if code != impl.ErrNone {
		t.Fatalf("%s: CrossCapsOf(%v, %v): code %d", x.why, x.algebra, x.star, code)
	}
	return list
}

func closedNumber(t *testing.T, x starred, v impl.Vector, h, g int64) int64 {
	t.Helper()
	number, code := impl.UnorientedNumber(x.algebra, x.star, v, h, g)
	if code != impl.ErrNone {
		t.Fatalf("%s: UnorientedNumber(%v, %v, %v, %d, %d): code %d", x.why, x.algebra, x.star, v, h, g, code)
	}
	return number
}

// Promise 8, the first part: stars applied twice lead back, for the basis and for sums.
func TestStarsTwice(t *testing.T) {
	for _, x := range starSamples(t) {
		checkIsStar(t, x)
		list := append(basisAt(counted(int(x.algebra.Size))...), drawnVectors(x.algebra, 6)...)
		for i, v := range append(list, impl.Vector{}, unitOf(t, x.algebra)) {
			image := starOf(t, x, v)
			if again := starOf(t, x, image); again != v {
				t.Errorf("%s: %v** is %v", x.why, v, again)
			}
			if i < len(x.star) && image != x.star[i] {
				t.Errorf("%s: %v* is %v", x.why, v, image)
			}
			checkApplied(t, x, v)
		}
	}
}

// TestStarsOfProducts checks that stars turn products around, keep sums and the form, and leave the unit.
func TestStarsOfProducts(t *testing.T) {
	for _, x := range starSamples(t) {
		a, list := x.algebra, drawnVectors(x.algebra, 4)
		for i, v := range list {
			w := list[(i+1)%4]
			if starOf(t, x, times(t, a, v, w)) != times(t, a, starOf(t, x, w), starOf(t, x, v)) {
				t.Errorf("%s: the star does not turn around %v times %v", x.why, v, w)
			}
			if starOf(t, x, plainSum(a, v, w, 1)) != plainSum(a, starOf(t, x, v), starOf(t, x, w), 1) {
				t.Errorf("%s: the star does not keep %v and %v together", x.why, v, w)
			}
			if plainForm(a, starOf(t, x, v)) != plainForm(a, v) {
				t.Errorf("%s: the star does not keep the form of %v", x.why, v)
			}
		}
		if unit := unitOf(t, a); starOf(t, x, unit) != unit {
			t.Errorf("%s: the star leads the unit to %v", x.why, starOf(t, x, unit))
		}
	}
}

// allMaps calls look with each list of as many vectors as a has in its basis.
func allMaps(a impl.Algebra, look func(list []impl.Vector)) {
	vectors := allVectors(a)
	for _, places := range plainChoices(int64(len(vectors)), a.Size) {
		var list []impl.Vector
		for _, place := range places {
			list = append(list, vectors[place])
		}
		look(list)
	}
}

// TestAllMaps looks at all linear maps of small algebras; their stars are known, or are told by the
// definition for all vectors.
func TestAllMaps(t *testing.T) {
	odd := oddAlgebras(t)
	for _, look := range []struct {
		why  string
		a    impl.Algebra
		want int
	}{
		{"field", named(t, "field", 13), 1}, {"other unit", odd[5], 1}, {"form 0", odd[6], 1},
		{"dual", named(t, "dual", 2), 1}, {"dual", named(t, "dual", 3), 1}, {"dual", named(t, "dual", 5), 1},
		{"pair", named(t, "pair", 2), 2}, {"pair", named(t, "pair", 3), 2}, {"pair", named(t, "pair", 7), 2},
		{"field of four", odd[4], 2}, {"field of nine", conjugated(3).algebra, 2}, {"field of 25", conjugated(5).algebra, 2},
		{"cyclic3", named(t, "cyclic3", 2), 2}, {"x^3", powersOf(2, 3), 1}, {"x^3", powersOf(3, 3), 2},
		{"triangles", odd[0], 4}, {"matrix", named(t, "matrix", 2), 4},
	} {
		found := 0
		allMaps(look.a, func(list []impl.Vector) {
			yes, code := impl.IsStar(look.a, list)
			if want := isPlainStar(look.a, list); yes != want || code != impl.ErrNone {
				t.Errorf("%s: IsStar(%v, %v) = %v, %d", look.why, look.a, list, yes, code)
			}
			if yes && !isWholeStar(look.a, list) {
				t.Errorf("%s: IsStar(%v, %v) is true, but not for all vectors", look.why, look.a, list)
			}
			if yes {
				found++
			}
		})
		if found != look.want {
			t.Errorf("%s: %v has %d stars instead of %d", look.why, look.a, found, look.want)
		}
	}
}

// noStars returns algebras with lists that are no stars, each for one reason.
func noStars(t *testing.T) []starred {
	t.Helper()
	triangles, p := oddAlgebras(t)[0], int64(5)
	matrix, pair := named(t, "matrix", p), named(t, "pair", p)
	list := []starred{
		withIdentity("not turned around: matrix", matrix), withIdentity("not turned around: triangles", triangles),
		withIdentity("not turned around: symmetric", named(t, "symmetric", 7)),
		turnedSigns(withIdentity("not turned around: matrix", matrix), 1, 2),
		{"not its own inverse: c5", groupAlgebra(t, 3, knownGroup(t, "c5")), basisAt(0, 2, 4, 1, 3)},
		{"not its own inverse: three fields", sumOf(t, pair, named(t, "field", p)), basisAt(1, 2, 0)},
		{"not its own inverse: eight numbers", eightNumbers(), []impl.Vector{{1}, {0, 0, 1}, {0, 1, 1}}},
		// The transposed matrix, between one of determinant 1 and its inverse.
		{"not its own inverse: matrix", matrix, []impl.Vector{{1, 0, 1}, {4, 1, 4, 1}, {0, 0, 1}, {0, 0, 4, 1}}},
		turnedSigns(withIdentity("another form: dual", named(t, "dual", p)), 1),
		{"another form: pair", impl.Algebra{Prime: p, Size: 2, Table: pair.Table, Form: impl.Vector{1, 2}}, basisAt(1, 0)},
		turnedSigns(withIdentity("another form: x^4", powersOf(p, 4)), 1, 3),
		{"0 alone", named(t, "dual", p), make([]impl.Vector, 2)}, {"0 alone", named(t, "field", 2), make([]impl.Vector, 1)},
		{"unit alone", pair, []impl.Vector{{1, 1}, {1, 1}}},
		{"onto the first", pair, []impl.Vector{{1}, {}}},
		turnedSigns(withIdentity("other signs", pair), 0, 1),
		{"half of the unit", named(t, "field", p), []impl.Vector{{3}}},
	}
	return list
}

// eightNumbers returns the field of eight numbers, x^3 being x + 1, with the form that takes traces, which
// do not change if x becomes x x.
func eightNumbers() impl.Algebra {
	a := polynomialsBy(2, []int64{1, 1, 0, 1})
	for i := range a.Size {
		a.Form[i] = byte(plainTrace(a, basis(i)))
	}
	return a
}

// whyNot tells which conditions of stars a linear map does not fulfil.
func whyNot(x starred) []string {
	a, list := x.algebra, []string{}
	around, back, form := true, true, true
	for i := range a.Size {
		back = back && imageOf(a, x.star, x.star[i]) == basis(i)
		form = form && plainForm(a, x.star[i]) == plainForm(a, basis(i))
		for j := range a.Size {
			around = around && imageOf(a, x.star, plainProduct(a, basis(i), basis(j))) == plainProduct(a, x.star[j], x.star[i])
		}
	}
	for why, holds := range map[string]bool{"not turned around": around, "not its own inverse": back, "another form": form} {
		if !holds {
			list = append(list, why)
		}
	}
	return list
}

func TestNoStars(t *testing.T) {
	alone := map[string]int{}
	for _, x := range noStars(t) {
		if yes, code := impl.IsStar(x.algebra, x.star); yes || code != impl.ErrNone {
			t.Errorf("%s: IsStar(%v, %v) = %v, %d", x.why, x.algebra, x.star, yes, code)
		}
		reasons := whyNot(x)
		if len(reasons) == 1 {
			alone[reasons[0]]++
		}
		for _, v := range []impl.Vector{{}, {1}, unitOf(t, x.algebra)} {
			for _, h := range []int64{0, 1, 30, 31, -1} {
				checkStarCalls(t, x, v, h, 0)
				checkStarCalls(t, x, v, 1, h)
			}
			if _, code := impl.ApplyStar(x.algebra, x.star, v); code != impl.ErrState {
				t.Errorf("%s: ApplyStar(%v, %v, %v): code %d", x.why, x.algebra, x.star, v, code)
			}
		}
	}
	for _, why := range []string{"not turned around", "not its own inverse", "another form"} {
		if alone[why] < 3 {
			t.Errorf("%d lists are no stars because of %s alone", alone[why], why)
		}
	}
}

// TestChangedStars checks stars with one number changed.
func TestChangedStars(t *testing.T) {
	for k, x := range starSamples(t) {
		if k%3 != 0 {
			continue
		}
		for i := range x.star {
			for j := range x.algebra.Size {
				again := starred{x.why + ", changed", x.algebra, slices.Clone(x.star)}
				again.star[i][j] = byte((int64(again.star[i][j]) + 1) % x.algebra.Prime)
				checkIsStar(t, again)
				checkApplied(t, again, basis(int64(i)))
				if (i+int(j)+k)%4 == 0 {
					checkKlein(t, again)
					checkCrossCap(t, again, basis(j))
				}
			}
		}
	}
}

func TestIdentityStars(t *testing.T) {
	for _, a := range idempotentSamples(t) {
		want, wanted := int64(impl.ErrState), []impl.Vector(nil)
		if isPlainCommutative(a) {
			want, wanted = impl.ErrNone, basisAt(counted(int(a.Size))...)
		}
		star, code := impl.IdentityStar(a)
		if !sameVectors(star, wanted) || code != want {
			t.Errorf("IdentityStar(%v) = %v, %d instead of %v, %d", a, star, code, wanted, want)
		}
		// The list is a star exactly if the algebra is commutative.
		yes, code := impl.IsStar(a, basisAt(counted(int(a.Size))...))
		if yes != isPlainCommutative(a) || code != impl.ErrNone {
			t.Errorf("IsStar(%v, the basis) = %v, %d", a, yes, code)
		}
	}
}

func TestInverseStars(t *testing.T) {
	for _, g := range sampleGroups(t) {
		for _, p := range primes {
			star, code := impl.InverseStar(p, g)
			if !sameVectors(star, plainInverseStar(g)) || code != impl.ErrNone {
				t.Errorf("InverseStar(%d, %v) = %v, %d", p, g, star, code)
			}
			a := classAlgebra(t, p, g)
			if yes, code := impl.IsStar(a, star); !yes || code != impl.ErrNone || !isPlainStar(a, star) {
				t.Errorf("IsStar(%v, %v) = %v, %d", a, star, yes, code)
			}
		}
	}
	for name, want := range map[string][]impl.Vector{
		"c1": basisAt(0), "c2": basisAt(0, 1), "c3": basisAt(0, 2, 1), "c4": basisAt(0, 3, 2, 1), "c5": basisAt(0, 4, 3, 2, 1),
		"c6": basisAt(0, 5, 4, 3, 2, 1), "v4": basisAt(0, 1, 2, 3), "s3": basisAt(0, 1, 2),
	} {
		if star, code := impl.InverseStar(13, knownGroup(t, name)); !sameVectors(star, want) || code != impl.ErrNone {
			t.Errorf("InverseStar(13, %s) = %v, %d", name, star, code)
		}
	}
}

// starTrace is the trace of the linear map that makes of w the product of v and w*.
func starTrace(x starred, v impl.Vector) int64 {
	sum := int64(0)
	for i := range x.algebra.Size {
		sum += int64(plainProduct(x.algebra, v, x.star[i])[i])
	}
	return sum % x.algebra.Prime
}

func TestKleinElements(t *testing.T) {
	others := 0
	for _, x := range kleinSamples(t) {
		checkKlein(t, x)
		klein, code := impl.KleinOf(x.algebra, x.star)
		if code != impl.ErrNone {
			t.Errorf("%s: KleinOf(%v, %v): code %d", x.why, x.algebra, x.star, code)
		}
		// Without the copairing: the form of its product with v is a trace.
		for i := range x.algebra.Size {
			if plainForm(x.algebra, plainProduct(x.algebra, klein, basis(i))) != starTrace(x, basis(i)) {
				t.Errorf("%s: KleinOf(%v, %v) = %v", x.why, x.algebra, x.star, klein)
			}
		}
		if starOf(t, x, klein) != klein {
			t.Errorf("%s: the star of the Klein element %v of %v is another vector", x.why, klein, x.algebra)
		}
		if klein != handleOf(t, x.algebra) {
			others++
		}
	}
	if others < 40 {
		t.Errorf("only %d Klein elements are no handle elements", others)
	}
	for _, a := range countingSamples(t) {
		x := withIdentity("sample", a)
		if klein, code := impl.KleinOf(a, x.star); klein != handleOf(t, a) || code != impl.ErrNone {
			t.Errorf("KleinOf(%v, the basis) = %v, %d", a, klein, code)
		}
	}
}

func TestCrossCaps(t *testing.T) {
	counts := map[int]int{}
	for _, x := range kleinSamples(t) {
		if countVectors(x.algebra) > 20000 {
			counts[-1]++
		} else {
			counts[len(plainCrossCaps(t, x))]++
		}
		checkCrossCaps(t, x)
		for _, v := range append(someVectors(x.algebra)[:min(30, countVectors(x.algebra))], drawnVectors(x.algebra, 10)...) {
			checkCrossCap(t, x, v)
		}
	}
	for _, count := range []int{-1, 0, 1, 2, 4, 8, 16} {
		if counts[count] < 5 {
			t.Errorf("%d samples have %d cross cap elements", counts[count], count)
		}
	}
}

// TestCrossCapsOfSmall looks at all vectors of small algebras, with the definition for all v.
func TestCrossCapsOfSmall(t *testing.T) {
	found, others := 0, 0
	for _, x := range kleinSamples(t) {
		a := x.algebra
		if countVectors(a) > 130 {
			continue
		}
		klein := plainKlein(t, a, x.star)
		for _, w := range allVectors(a) {
			want := plainProduct(a, w, w) == klein
			for _, v := range allVectors(a) {
				image := plainProduct(a, w, v)
				want = want && imageOf(a, x.star, image) == image
			}
			if yes, code := impl.IsCrossCap(a, x.star, w); yes != want || code != impl.ErrNone {
				t.Errorf("%s: IsCrossCap(%v, %v, %v) = %v, %d", x.why, a, x.star, w, yes, code)
			}
			switch {
			case want:
				found++
			case plainProduct(a, w, w) == klein:
				others++
			}
		}
	}
	if found < 300 || others < 50 {
		t.Errorf("%d vectors are cross cap elements, and %d others have their square alone", found, others)
	}
}

// TestNumbersOfCrossCaps checks algebras whose cross cap elements are counted by hand. There is none with
// just 200 of them: the numbers nearest to the limit that are known are 150 and 250.
func TestNumbersOfCrossCaps(t *testing.T) {
	field := func(p int64) starred { return withIdentity("field", named(t, "field", p)) }
	for _, look := range []struct {
		x    starred
		want int
	}{
		{field(2), 1}, {field(5), 2}, {withIdentity("form 2", productOfFields(5, 2)), 0},
		{withIdentity("dual", named(t, "dual", 2)), 2}, {withIdentity("dual", named(t, "dual", 3)), 0},
		{starred{"pair", named(t, "pair", 13), basisAt(1, 0)}, 1},
		// Squares of t = c x^2 + .. are 0, and 3 x^2 is 0 modulo 3.
		{withIdentity("x^3", powersOf(3, 3)), 3}, {withIdentity("x^5", powersOf(5, 5)), 25},
		{withIdentity("x^6", powersOf(3, 6)), 27},
		// Points of quadrics, each with any number of s.
		{withIdentity("quadric of two", quadric(11, 1, 1)), 12 * 11}, {withIdentity("quadric of two", quadric(11, 1, 10)), 10 * 11},
		{withIdentity("quadric of three", quadric(5, 1, 1, 1)), 25 * 5},
		{sumStar(t, withIdentity("quadric of three", quadric(5, 1, 1, 1)), field(5)), 25 * 5 * 2},
		{sumStar(t, field(5), withIdentity("quadric of three", quadric(5, 1, 2, 3))), 25 * 5 * 2},
		{withIdentity("quadric of three", quadric(7, 1, 1, 1)), 56 * 7}, {withIdentity("quadric of three", quadric(7, 1, 1, 6)), 42 * 7},
		{withIdentity("quadric of four", quadric(5, 1, 1, 1, 1)), 120 * 5},
		{turnedSigns(withIdentity("quadric of four", quadric(5, 1, 1, 1, 1)), 4), 30 * 5},
		{turnedSigns(withIdentity("quadric of four", quadric(5, 1, 1, 2, 1)), 4), 20 * 5},
		// a a + c c = 1, with any numbers d and e behind, in a x + c y^2 + d y^3 + e y^4.
		{withIdentity("corner", corner(5, 1)), 4 * 25}, {withIdentity("corner", corner(5, 2)), 6 * 25},
	} {
		if n := checkCrossCaps(t, look.x); n != look.want {
			t.Errorf("%s: %v has %d cross cap elements instead of %d", look.x.why, look.x.algebra, n, look.want)
		}
	}
}

// TestVectorLimits checks sums of fields, which have 2^n cross cap elements, but for the prime 2: all
// numbers are 1 or -1. They are listed up to 20000 vectors; whether a vector is one is told always.
func TestVectorLimits(t *testing.T) {
	if impl.MaxListed != 200 {
		t.Errorf("MaxListed is %d", impl.MaxListed)
	}
	limits := map[int64]int64{2: 6, 3: 6, 5: 6, 7: 5, 11: 4, 13: 3}
	for _, p := range primes {
		sum := withIdentity("field", named(t, "field", p))
		for n := int64(1); n <= 6; n++ {
			list, code := impl.CrossCapsOf(sum.algebra, sum.star)
			want, wantCode := 1<<n, int64(impl.ErrNone)
			if p == 2 {
				want = 1
			}
			if n > limits[p] {
				want, wantCode = 0, impl.ErrLimit
			}
			if len(list) != want || code != wantCode {
				t.Errorf("%s: CrossCapsOf = %v, %d instead of %d of them, %d", sum.why, list, code, want, wantCode)
			}
			unit := unitOf(t, sum.algebra)
			signs := unit
			signs[n-1] = byte(p - 1)
			checkCrossCap(t, sum, unit)
			checkCrossCap(t, sum, signs)
			checkClosed(t, sum, signs, 1, 0)
			if n < 6 {
				sum = sumStar(t, sum, withIdentity("field", named(t, "field", p)))
			}
		}
	}
}

// TestOrderOfCrossCaps checks that lists are strictly ascending, and that their vectors are told to be
// cross cap elements, with negatives among them.
func TestOrderOfCrossCaps(t *testing.T) {
	for _, x := range kleinSamples(t) {
		if countVectors(x.algebra) > 20000 || len(plainCrossCaps(t, x)) > 200 {
			continue
		}
		list := crossCapsOf(t, x)
		for i, v := range list {
			if i > 0 && slices.Compare(list[i-1][:], v[:]) >= 0 {
				t.Errorf("%s: %v stands behind %v", x.why, v, list[i-1])
			}
			if yes, code := impl.IsCrossCap(x.algebra, x.star, v); !yes || code != impl.ErrNone {
				t.Errorf("%s: IsCrossCap(%v) = %v, %d", x.why, v, yes, code)
			}
			if negative := plainSum(x.algebra, impl.Vector{}, v, x.algebra.Prime-1); !slices.Contains(list, negative) {
				t.Errorf("%s: %v is in the list, and %v is not", x.why, v, negative)
			}
		}
	}
}

// capped is an algebra with a star and a cross cap element.
type capped struct {
	starred
	cap impl.Vector
}

// cappedSamples returns samples with their first, middle and last cross cap elements; of those that are
// too large to be looked through, the unit or what is drawn.
func cappedSamples(t *testing.T) []capped {
	t.Helper()
	var samples []capped
	for _, x := range kleinSamples(t) {
		list := append(drawnVectors(x.algebra, 10), unitOf(t, x.algebra), impl.Vector{})
		if countVectors(x.algebra) <= 20000 {
			list = plainCrossCaps(t, x)
		}
		klein := plainKlein(t, x.algebra, x.star)
		for i, v := range list {
			if (i == 0 || i == len(list)/2 || i >= len(list)-2) && isPlainCrossCap(x.algebra, x.star, klein, v) {
				samples = append(samples, capped{x, v})
			}
		}
	}
	return samples
}

func TestUnorientedNumbers(t *testing.T) {
	values := map[bool]int{}
	for i, x := range cappedSamples(t) {
		for _, h := range []int64{0, 1, 2, 3, 4, 29, 30} {
			checkClosed(t, x.starred, x.cap, h, int64(i)%31)
			checkClosed(t, x.starred, x.cap, int64(i)%31, h)
			values[closedNumber(t, x.starred, x.cap, h, h%3) != 0]++
		}
		for _, number := range []int64{-1, 31, 32, 1000, 1 << 32, 1<<63 - 1, -1 << 63} {
			checkClosed(t, x.starred, x.cap, number, 1)
			checkClosed(t, x.starred, x.cap, 1, number)
			checkClosed(t, x.starred, x.cap, number, -number)
		}
	}
	if values[true] < 500 || values[false] < 500 {
		t.Errorf("numbers other than 0: %v", values)
	}
}

// Promise 8, the second part: three cross caps are one and a handle.
func TestThreeCrossCaps(t *testing.T) {
	for i, x := range cappedSamples(t) {
		for h := int64(i % 3); h+3 <= 30; h += 3 {
			for g := int64(i % 7); g+1 <= 30; g += 7 {
				three, one := closedNumber(t, x.starred, x.cap, h+3, g), closedNumber(t, x.starred, x.cap, h+1, g+1)
				if three != one {
					t.Errorf("%s: three cross caps %v more than %d, with %d handles, are %d, and one with a handle is %d", x.why, x.cap, h, g, three, one)
				}
			}
		}
		if closedNumber(t, x.starred, x.cap, 3, 0) != closedNumber(t, x.starred, x.cap, 1, 1) {
			t.Errorf("%s: three cross caps %v are not one and a handle", x.why, x.cap)
		}
	}
}

// TestWithoutCrossCaps checks the guarantee: closed numbers without cross caps are genus numbers.
func TestWithoutCrossCaps(t *testing.T) {
	for _, x := range cappedSamples(t) {
		for _, g := range []int64{0, 1, 2, 3, 15, 29, 30} {
			want, code := impl.GenusNumber(x.algebra, g)
			if number := closedNumber(t, x.starred, x.cap, 0, g); number != want || code != impl.ErrNone {
				t.Errorf("%s: without cross caps the number of %d is %d instead of %d, %d", x.why, g, number, want, code)
			}
		}
		if number := closedNumber(t, x.starred, x.cap, 2, 0); number != starTrace(x.starred, unitOf(t, x.algebra)) {
			t.Errorf("%s: the number of the bottle is %d", x.why, number)
		}
	}
}

// TestAllUnorientedNumbers checks all numbers of cross caps and of handles.
func TestAllUnorientedNumbers(t *testing.T) {
	cyclic := starred{"cyclic3", named(t, "cyclic3", 7), basisAt(0, 2, 1)}
	for _, x := range []starred{withIdentity("form 4", productOfFields(5, 4)), withIdentity("two fields", productOfFields(7, 2, 4)), cyclic, withIdentity("x^5", powersOf(7, 5))} {
		for i, v := range crossCapsOf(t, x) {
			for h := range int64(31) {
				for g := range int64(31) {
					if i < 4 {
						checkClosed(t, x, v, h, g)
					}
				}
			}
		}
	}
	for h := range int64(31) {
		for g := range int64(31) {
			x := withIdentity("form 4", impl.Algebra{Prime: 5, Size: 1, Table: [6][6][6]byte{{{1}}}, Form: impl.Vector{4}})
			// The handle element is 1 / 4 = 4, and t is 2 or 3.
			want := 4 * plainPower(5, 3, h) * plainPower(5, 4, g) % 5
			if number := closedNumber(t, x, impl.Vector{3}, h, g); number != want {
				t.Errorf("the number of %d and %d is %d instead of %d", h, g, number, want)
			}
		}
	}
}

// TestNoCrossCaps checks vectors that are no cross cap elements: they have no closed numbers.
func TestNoCrossCaps(t *testing.T) {
	looked := 0
	for _, x := range kleinSamples(t) {
		klein := plainKlein(t, x.algebra, x.star)
		for _, v := range append(drawnVectors(x.algebra, 2), impl.Vector{}, basis(x.algebra.Size-1)) {
			if isPlainCrossCap(x.algebra, x.star, klein, v) {
				continue
			}
			for _, h := range []int64{0, 1, 30} {
				if n, code := impl.UnorientedNumber(x.algebra, x.star, v, h, 30-h); n != 0 || code != impl.ErrState {
					t.Errorf("%s: UnorientedNumber(%v, %d, %d) = %d, %d", x.why, v, h, 30-h, n, code)
				}
			}
			for _, number := range []int64{-1, 31} {
				checkClosed(t, x, v, number, 0)
				checkClosed(t, x, v, 0, number)
			}
			looked++
		}
	}
	if looked < 1000 {
		t.Errorf("only %d vectors are no cross cap elements", looked)
	}
}

// plainSquares counts the lists of h elements for which an element times all squares is the unit.
func plainSquares(g impl.Group, h, element int64) int64 {
	if h == 0 && element == 0 {
		return 1
	}
	count := int64(0)
	for x := range g.Order {
		if h > 0 {
			count += plainSquares(g, h-1, at(g, element, x, x))
		}
	}
	return count
}

func squareCount(t *testing.T, g impl.Group, h int64) int64 {
	t.Helper()
	count, code := impl.CountSquares(g, h)
	if code != impl.ErrNone {
		t.Fatalf("CountSquares(%v, %d): code %d", g, h, code)
	}
	return count
}

func TestSquareCounts(t *testing.T) {
	for _, g := range sampleGroups(t) {
		for h := range int64(5) {
			if want := plainSquares(g, h, 0); squareCount(t, g, h) != want {
				t.Errorf("CountSquares(%v, %d) = %d instead of %d", g, h, squareCount(t, g, h), want)
			}
		}
		for _, h := range append([]int64{-1, 13, 14, 30, 31}, wildNumbers...) {
			if n, code := impl.CountSquares(g, h); n != 0 || code != impl.ErrRange {
				t.Errorf("CountSquares(%v, %d) = %d, %d", g, h, n, code)
			}
		}
	}
	for _, name := range groupNames {
		g := knownGroup(t, name)
		for h := int64(5); plainCount(g.Order, h) < 300000 && h <= 12; h++ {
			if want := plainSquares(g, h, 0); squareCount(t, g, h) != want {
				t.Errorf("CountSquares(%s, %d) = %d instead of %d", name, h, squareCount(t, g, h), want)
			}
		}
	}
}

// TestSquareCountsByRules checks the counts for all h: in abelian groups a product of squares is the square
// of a product, so that the last element is told by the others but for the elements whose square is the
// unit; for s3 they are told by its representations of the dimensions 1, 1, 2.
func TestSquareCountsByRules(t *testing.T) {
	for _, g := range sampleGroups(t) {
		roots := int64(0)
		for x := range g.Order {
			if at(g, x, x) == 0 {
				roots++
			}
		}
		for h := int64(1); h <= 12; h++ {
			want := plainCount(g.Order, h-1) * roots
			if !isAbelian(g) {
				want = 2*plainCount(6, h-1) + 2*plainCount(3, h-1)
			}
			if count := squareCount(t, g, h); count != want {
				t.Errorf("CountSquares(%v, %d) = %d instead of %d", g, h, count, want)
			}
		}
		if count := squareCount(t, g, 0); count != 1 {
			t.Errorf("CountSquares(%v, 0) = %d", g, count)
		}
	}
	for _, look := range []struct {
		name    string
		h, want int64
	}{{"c2", 1, 2}, {"c2", 12, 4096}, {"c1", 12, 1}, {"c1", 0, 1}, {"v4", 12, 16777216}, {"c6", 12, 725594112}, {"s3", 12, 725948406}, {"s3", 1, 4}, {"s3", 2, 18}} {
		if count := squareCount(t, knownGroup(t, look.name), look.h); count != look.want {
			t.Errorf("CountSquares(%s, %d) = %d instead of %d", look.name, look.h, count, look.want)
		}
	}
}

func squareVector(t *testing.T, p int64, g impl.Group) impl.Vector {
	t.Helper()
	v, code := impl.SquareVector(p, g)
	if code != impl.ErrNone {
		t.Fatalf("SquareVector(%d, %v): code %d", p, g, code)
	}
	return v
}

func TestSquareVectors(t *testing.T) {
	for _, g := range sampleGroups(t) {
		for _, p := range primes {
			var want impl.Vector
			for i, class := range plainClasses(g) {
				count := int64(0)
				for x := range g.Order {
					if at(g, x, x) == class[0] {
						count++
					}
				}
				want[i] = byte(count % p)
			}
			if v := squareVector(t, p, g); v != want || !isVectorFor(classAlgebra(t, p, g), v) {
				t.Errorf("SquareVector(%d, %v) = %v instead of %v", p, g, v, want)
			}
		}
	}
	for name, want := range map[string]impl.Vector{"c1": {1}, "c2": {2}, "c3": {1, 1, 1}, "c4": {2, 0, 2}, "c5": {1, 1, 1, 1, 1}, "c6": {2, 0, 2, 0, 2}, "v4": {4}, "s3": {4, 1}} {
		if v := squareVector(t, 13, knownGroup(t, name)); v != want {
			t.Errorf("SquareVector(13, %s) = %v instead of %v", name, v, want)
		}
	}
}

// Promise 14, the part on squares: modulo the prime the square count is the number of the unit in the
// power of the square vector.
func TestSquareVectorsCount(t *testing.T) {
	for _, g := range sampleGroups(t) {
		for _, p := range primes {
			a, v := classAlgebra(t, p, g), squareVector(t, p, g)
			for h := range int64(13) {
				power, code := impl.PowerVector(a, v, h)
				if count := squareCount(t, g, h); int64(power[0]) != count%p || code != impl.ErrNone {
					t.Errorf("the power %d of the square vector of %v modulo %d is %v, %d; the count is %d", h, g, p, power, code, count)
				}
			}
		}
	}
}

// squareRoot returns a number with a square modulo p.
func squareRoot(p, square int64) (int64, bool) {
	for number := range p {
		if number*number%p == square%p {
			return number, true
		}
	}
	return 0, false
}

// mixedCount counts the lists of one pair of elements and h others for which the commutator of the pair
// and the squares of the others have the unit as their product.
func mixedCount(g impl.Group, h int64) int64 {
	count := int64(0)
	for a := range g.Order {
		for b := range g.Order {
			count += plainSquares(g, h, at(g, a, b, back(g, a), back(g, b)))
		}
	}
	return count
}

// TestSquaresAreCrossCaps checks that the square vector, divided by a square root of the Order, is a cross
// cap element for the inverse star, whose closed numbers count lists of squares and commutators.
func TestSquaresAreCrossCaps(t *testing.T) {
	looked := 0
	for _, g := range fewGroups(t) {
		for _, p := range primes {
			root, found := squareRoot(p, g.Order)
			if !found || root == 0 {
				continue
			}
			a := classAlgebra(t, p, g)
			x := starred{"classes", a, plainInverseStar(g)}
			v := plainSum(a, impl.Vector{}, squareVector(t, p, g), plainInverse(p, root))
			if yes, code := impl.IsCrossCap(a, x.star, v); !yes || code != impl.ErrNone {
				t.Errorf("IsCrossCap(%v, %v, %v) = %v, %d", a, x.star, v, yes, code)
			}
			for h := range int64(13) {
				if count := squareCount(t, g, h); plainPower(p, root, h)*closedNumber(t, x, v, h, 0)%p != count%p {
					t.Errorf("%d cross caps for %v modulo %d count %d instead of %d", h, g, p, closedNumber(t, x, v, h, 0), count)
				}
			}
			for h := range int64(4) {
				if count := mixedCount(g, h); g.Order*plainPower(p, root, h)*closedNumber(t, x, v, h, 1)%p != count%p {
					t.Errorf("%d cross caps and a handle for %v modulo %d do not count %d", h, g, p, count)
				}
			}
			looked++
		}
	}
	if looked < 30 {
		t.Errorf("only %d square vectors are cross cap elements", looked)
	}
}

// checkNoSquares checks the functions of groups with what is no group, or no prime.
func checkNoSquares(t *testing.T, why string, p int64, g impl.Group, want int64) {
	t.Helper()
	if star, code := impl.InverseStar(p, g); len(star) != 0 || code != want {
		t.Errorf("%s: InverseStar(%d, %v) = %v, %d", why, p, g, star, code)
	}
	if v, code := impl.SquareVector(p, g); v != (impl.Vector{}) || code != want {
		t.Errorf("%s: SquareVector(%d, %v) = %v, %d", why, p, g, v, code)
	}
}

func TestSquaresOfBrokenGroups(t *testing.T) {
	for why, g := range brokenGroups(t) {
		for _, p := range append(primes, notPrimes...) {
			checkNoSquares(t, why, p, g, impl.ErrInvalid)
		}
		for _, h := range append([]int64{0, 1, 12, 13}, wildNumbers...) {
			if n, code := impl.CountSquares(g, h); n != 0 || code != impl.ErrInvalid {
				t.Errorf("%s: CountSquares(%v, %d) = %d, %d", why, g, h, n, code)
			}
		}
	}
	for _, g := range sampleGroups(t) {
		for _, p := range notPrimes {
			checkNoSquares(t, "no prime", p, g, impl.ErrRange)
		}
	}
}

// badLists returns lists that are not of as many vectors as a has in its basis, told from a star of it.
func badLists(x starred) map[string][]impl.Vector {
	n := x.algebra.Size
	bad := map[string][]impl.Vector{"nil": nil, "empty": {}, "too short": x.star[:n-1], "a hundred": make([]impl.Vector, 100)}
	bad["too long"] = append(slices.Clone(x.star), impl.Vector{})
	bad["twice"] = slices.Concat(x.star, x.star)
	bad["a basis of seven"] = append(basisAt(0, 1, 2, 3, 4, 5), impl.Vector{})
	for i := range n {
		for k := range int64(6) {
			for _, number := range []byte{byte(x.algebra.Prime), byte(x.algebra.Prime + 1), 255} {
				list := slices.Clone(x.star)
				list[i][k] = number
				bad["number "+strconv.Itoa(int(number))+" at "+digit(i)+", "+digit(k)] = list
			}
			if k >= n {
				list := slices.Clone(x.star)
				list[i][k] = 1
				bad["behind the size at "+digit(i)+", "+digit(k)] = list
			}
		}
	}
	return bad
}

// fewStars returns a star of each kind of algebra: with and without cross cap elements, not commutative,
// not Frobenius, and of too many vectors.
func fewStars(t *testing.T) []starred {
	t.Helper()
	odd := oddStars(t)
	return []starred{
		withIdentity("field", named(t, "field", 5)), withIdentity("dual", named(t, "dual", 5)),
		{"pair", named(t, "pair", 5), basisAt(1, 0)}, {"transposed matrix", named(t, "matrix", 5), basisAt(0, 2, 1, 3)},
		{"symmetric", named(t, "symmetric", 7), basisAt(0, 1, 2, 4, 3, 5)}, odd[0], odd[1], odd[3],
		withIdentity("classes of c6", classAlgebra(t, 7, knownGroup(t, "c6"))), withIdentity("x^6", powersOf(3, 6)),
	}
}

// TestBadStarLists checks that a bad list is told behind what is no vector, and before all states.
func TestBadStarLists(t *testing.T) {
	for _, x := range fewStars(t) {
		n := x.algebra.Size
		for why, list := range badLists(x) {
			y := starred{x.why + ", " + why, x.algebra, list}
			for _, v := range []impl.Vector{{}, unitOf(t, x.algebra), {byte(x.algebra.Prime)}, {5: 255}} {
				checkStarCalls(t, y, v, 1, 1)
			}
			checkStarCalls(t, y, impl.Vector{}, -1, 31)
			if n < 6 {
				checkStarCalls(t, y, basis(n), 1, 0)
			}
			if yes, code := impl.IsStar(x.algebra, list); yes || code != impl.ErrRange {
				t.Errorf("%s: IsStar = %v, %d", y.why, yes, code)
			}
		}
	}
}

// TestStarsOfBadVectors checks that what is no vector is told first.
func TestStarsOfBadVectors(t *testing.T) {
	for _, x := range fewStars(t) {
		a := x.algebra
		var bad []impl.Vector
		for k := range int64(6) {
			var v impl.Vector
			v[k] = byte(a.Prime)
			bad = append(bad, v)
			v[k] = 255
			bad = append(bad, v)
			if k >= a.Size {
				bad = append(bad, basis(k))
			}
		}
		zeros := starred{x.why + ", 0", a, make([]impl.Vector, a.Size)}
		for _, v := range bad {
			for _, y := range []starred{x, zeros, {x.why + ", nil", a, nil}} {
				checkApplied(t, y, v)
				checkCrossCap(t, y, v)
				checkClosed(t, y, v, 0, 0)
				checkClosed(t, y, v, 31, -1)
				if w, code := impl.ApplyStar(a, y.star, v); w != (impl.Vector{}) || code != impl.ErrInvalid {
					t.Errorf("%s: ApplyStar(%v) = %v, %d", y.why, v, w, code)
				}
				if n, code := impl.UnorientedNumber(a, y.star, v, 0, 0); n != 0 || code != impl.ErrInvalid {
					t.Errorf("%s: UnorientedNumber(%v) = %d, %d", y.why, v, n, code)
				}
			}
		}
	}
}

func TestStarsOfBrokenAlgebras(t *testing.T) {
	for why, a := range brokenAlgebras(t) {
		if star, code := impl.IdentityStar(a); len(star) != 0 || code != impl.ErrInvalid {
			t.Errorf("%s: IdentityStar = %v, %d", why, star, code)
		}
		for _, list := range [][]impl.Vector{nil, {}, basisAt(0), basisAt(0, 1), basisAt(0, 1, 2), basisAt(0, 1, 2, 3, 4, 5), make([]impl.Vector, 2), make([]impl.Vector, 7), {{255}}} {
			for _, v := range []impl.Vector{{}, {1}, {255}, {5: 1}} {
				for _, h := range []int64{0, 1, 30, 31, -1, 1<<63 - 1, -1 << 63} {
					x := starred{why, a, list}
					checkStarCalls(t, x, v, h, 0)
					checkStarCalls(t, x, v, 0, h)
				}
				if n, code := impl.UnorientedNumber(a, list, v, 0, 0); n != 0 || code != impl.ErrInvalid {
					t.Errorf("%s: UnorientedNumber = %d, %d", why, n, code)
				}
			}
		}
	}
}

// TestStatesOfStars checks that algebras have to be commutative and Frobenius for Klein elements, and not
// for stars; states are told before limits.
func TestStatesOfStars(t *testing.T) {
	looked := 0
	for _, x := range starSamples(t) {
		if isPlainCommutative(x.algebra) && isPlainFrobenius(x.algebra) {
			continue
		}
		for _, v := range []impl.Vector{{}, {1}, unitOf(t, x.algebra)} {
			checkStarCalls(t, x, v, 0, 0)
			checkStarCalls(t, x, v, 30, 30)
			checkStarCalls(t, x, v, 31, 0)
			checkStarCalls(t, x, v, 0, -1)
		}
		if list, code := impl.CrossCapsOf(x.algebra, x.star); len(list) != 0 || code != impl.ErrState {
			t.Errorf("%s: CrossCapsOf = %v, %d", x.why, list, code)
		}
		if countVectors(x.algebra) > 20000 {
			looked++
		}
	}
	if looked < 10 {
		t.Errorf("only %d of the algebras have more than 20000 vectors", looked)
	}
	turned := turnedSigns(withIdentity("x^6", powersOf(13, 6)), 1, 3, 5)
	if list, code := impl.CrossCapsOf(turned.algebra, turned.star); len(list) != 0 || code != impl.ErrState {
		t.Errorf("CrossCapsOf, with no star of too many vectors, = %v, %d", list, code)
	}
}

// checkVectorMemory checks that what is done with the result of a call, also behind its end, is not seen in
// the next result, and that lists of vectors remain as they are.
func checkVectorMemory(t *testing.T, why string, call func() []impl.Vector, lists ...[]impl.Vector) {
	t.Helper()
	var kept [][]impl.Vector
	for _, list := range lists {
		kept = append(kept, slices.Clone(list))
	}
	result := call()
	copied := slices.Clone(result)
	all := result[:cap(result)]
	for i := range all {
		all[i] = impl.Vector{99, 99, 99, 99, 99, 99}
	}
	for i, list := range lists {
		if !slices.Equal(list, kept[i]) {
			t.Errorf("%s: %v became %v", why, kept[i], list)
		}
	}
	if again := call(); !slices.Equal(again, copied) {
		t.Errorf("%s: %v, and then %v", why, copied, again)
	}
}

// TestStarMemory checks that results are new memory, and that lists are left as they were, also behind
// their ends.
func TestStarMemory(t *testing.T) {
	for _, x := range append(fewStars(t), kleinSamples(t)[:60]...) {
		all := append(slices.Clone(x.star), impl.Vector{77}, impl.Vector{78}, impl.Vector{79})
		star := all[:len(x.star)]
		checkVectorMemory(t, x.why, func() []impl.Vector {
			list, _ := impl.CrossCapsOf(x.algebra, star)
			return list
		}, all)
		checkVectorMemory(t, x.why, func() []impl.Vector {
			list, _ := impl.IdentityStar(x.algebra)
			return list
		})
		checkVectorMemory(t, x.why, func() []impl.Vector {
			impl.IsStar(x.algebra, star)
			v, _ := impl.ApplyStar(x.algebra, star, impl.Vector{1})
			klein, _ := impl.KleinOf(x.algebra, star)
			impl.IsCrossCap(x.algebra, star, v)
			impl.UnorientedNumber(x.algebra, star, v, 1, 1)
			return []impl.Vector{v, klein}
		}, all)
	}
	for _, g := range fewGroups(t) {
		checkVectorMemory(t, "InverseStar", func() []impl.Vector {
			star, _ := impl.InverseStar(5, g)
			return star
		})
	}
}

// TestStarsAtOnce checks that calls do not disturb each other, and that no goroutine remains behind them.
func TestStarsAtOnce(t *testing.T) {
	before := runtime.NumGoroutine()
	var group sync.WaitGroup
	for _, x := range kleinSamples(t) {
		want, code := impl.CrossCapsOf(x.algebra, x.star)
		for range 3 {
			group.Go(func() {
				if list, again := impl.CrossCapsOf(x.algebra, x.star); !sameVectors(list, want) || again != code {
					t.Errorf("%s: CrossCapsOf = %v, %d, and then %v, %d", x.why, want, code, list, again)
				}
			})
		}
	}
	group.Wait()
	checkNoneRemain(t, before)
}
