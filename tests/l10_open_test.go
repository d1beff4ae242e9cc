package tests

import (
	"fmt"
	"maps"
	"slices"
	"strconv"
	"strings"
	"testing"

	"loop.example/g01267/impl"
)

// paired is what may be a pair, with words that tell it.
type paired struct {
	why  string
	pair impl.Pair
}

// String tells what is in the pair, for messages.
func (x paired) String() string {
	closed, _ := impl.AlgebraText(x.pair.Closed)
	open, _ := impl.AlgebraText(x.pair.Open)
	text := x.why + ", " + closed + " to " + open + " by"
	for _, image := range x.pair.Zip {
		text += " " + strings.Trim(strings.Join(strings.Fields(fmt.Sprint(image)), ","), "[]")
	}
	return text
}

// pairOf puts together what is to be a pair, with these images.
func pairOf(why string, closed, open impl.Algebra, images ...impl.Vector) paired {
	x := paired{why, impl.Pair{Closed: closed, Open: open}}
	copy(x.pair.Zip[:], images)
	return x
}

// imagesOf returns the images of the basis of Closed.
func imagesOf(x impl.Pair) []impl.Vector {
	return slices.Clone(x.Zip[:x.Closed.Size])
}

// scaledForm returns an algebra with the form times a number.
func scaledForm(a impl.Algebra, number int64) impl.Algebra {
	for i, value := range a.Form {
		a.Form[i] = byte(int64(value) * number % a.Prime)
	}
	return a
}

// The conditions of pairs.
const (
	closedAlgebra  = "Closed is an algebra"
	openAlgebra    = "Open is an algebra"
	samePrime      = "the primes are equal"
	commutative    = "Closed is commutative"
	closedForm     = "Closed is Frobenius"
	openForm       = "Open is Frobenius"
	symmetricForm  = "Open is symmetric"
	numbersByPrime = "images have numbers modulo the prime"
	numbersInSize  = "images have no numbers behind the Size of Open"
	imagesInSize   = "there are no images behind the Size of Closed"
	unitToUnit     = "the unit is led to the unit"
	keepsProducts  = "products are led to products"
	centralImages  = "images are central"
)

// pairConditions has all of them.
var pairConditions = []string{closedAlgebra, openAlgebra, samePrime, commutative, closedForm, openForm, symmetricForm,
	numbersByPrime, numbersInSize, imagesInSize, unitToUnit, keepsProducts, centralImages}

// within returns a vector without its numbers behind the Size.
func within(a impl.Algebra, v impl.Vector) impl.Vector {
	return vectorFrom(numbersOf(a, v))
}

// pairFaults returns the conditions that do not hold, straight from the definition, at the basis. Those of the
// zipper look at the numbers of images modulo the prime and within the Size alone.
func pairFaults(x impl.Pair) []string {
	c, o := x.Closed, x.Open
	var faults []string
	demand := func(condition string, holds bool) {
		if !holds && !slices.Contains(faults, condition) {
			faults = append(faults, condition)
		}
	}
	demand(closedAlgebra, impl.IsAlgebra(c))
	demand(openAlgebra, impl.IsAlgebra(o))
	if len(faults) > 0 {
		return faults
	}
	demand(samePrime, c.Prime == o.Prime)
	demand(commutative, isPlainCommutative(c))
	demand(closedForm, isPlainFrobenius(c))
	demand(openForm, isPlainFrobenius(o))
	demand(symmetricForm, isPlainSymmetric(o))
	for i, image := range x.Zip {
		for k, number := range image {
			demand(numbersByPrime, int64(number) < o.Prime)
			demand(numbersInSize, int64(k) < o.Size || number == 0)
		}
		demand(imagesInSize, int64(i) < c.Size || image == (impl.Vector{}))
		demand(centralImages, int64(i) >= c.Size || isPlainCentral(o, image))
	}
	for i := range c.Size {
		for j := range c.Size {
			demand(keepsProducts, within(o, plainZip(x, c.Table[i][j])) == plainProduct(o, x.Zip[i], x.Zip[j]))
		}
	}
	unit, _ := impl.UnitOf(c)
	demand(unitToUnit, isPlainUnit(o, plainZip(x, unit)))
	return faults
}

// isPlainPair is the definition of pairs.
func isPlainPair(x impl.Pair) bool {
	return len(pairFaults(x)) == 0
}

// isWholePair looks at all vectors of both algebras, which have to be those of a pair, with vectors as images.
func isWholePair(x impl.Pair) bool {
	leadsUnit := false
	for _, v := range allVectors(x.Closed) {
		image := plainZip(x, v)
		leadsUnit = leadsUnit || isPlainUnit(x.Closed, v) && isPlainUnit(x.Open, image)
		for _, w := range allVectors(x.Closed) {
			if plainZip(x, plainProduct(x.Closed, v, w)) != plainProduct(x.Open, image, plainZip(x, w)) {
				return false
			}
		}
		for _, w := range allVectors(x.Open) {
			if plainProduct(x.Open, image, w) != plainProduct(x.Open, w, image) {
				return false
			}
		}
	}
	return leadsUnit
}

// plainZip is the sum of multiples of the images.
func plainZip(x impl.Pair, v impl.Vector) impl.Vector {
	return imageOf(x.Open, imagesOf(x), v)
}

// isPlainUnzip reports whether u is what the dual zipper makes of w, at the basis of Closed.
func isPlainUnzip(x impl.Pair, w, u impl.Vector) bool {
	for i := range x.Closed.Size {
		if plainForm(x.Closed, plainProduct(x.Closed, u, basis(i))) != plainForm(x.Open, plainProduct(x.Open, w, x.Zip[i])) {
			return false
		}
	}
	return isVectorFor(x.Closed, u)
}

// plainSandwich is the sandwich straight from the definition.
func plainSandwich(t *testing.T, x impl.Pair, w impl.Vector) impl.Vector {
	t.Helper()
	var sum impl.Vector
	for k, row := range copairingOf(t, x.Open) {
		left := plainProduct(x.Open, basis(int64(k)), w)
		for l, number := range row {
			sum = plainSum(x.Open, sum, plainProduct(x.Open, left, basis(int64(l))), number)
		}
	}
	return sum
}

// plainMap is the trace of the map of Open that makes of v the product u v w.
func plainMap(a impl.Algebra, u, w impl.Vector) int64 {
	sum := int64(0)
	for i := range a.Size {
		sum += int64(plainProduct(a, plainProduct(a, u, basis(i)), w)[i])
	}
	return sum % a.Prime
}

// madeOf returns what a function of pairs makes of a vector, which has to be a vector of an algebra.
func madeOf(t *testing.T, x paired, name string, call func(impl.Pair, impl.Vector) (impl.Vector, int64), v impl.Vector, a impl.Algebra) impl.Vector {
	t.Helper()
	w, code := call(x.pair, v)
	if code != impl.ErrNone || !isVectorFor(a, w) {
		t.Fatalf("%v: %s(%v) = %v, %d", x, name, v, w, code)
	}
	return w
}

func zipOf(t *testing.T, x paired, v impl.Vector) impl.Vector {
	t.Helper()
	return madeOf(t, x, "ZipVector", impl.ZipVector, v, x.pair.Open)
}

func unzipOf(t *testing.T, x paired, w impl.Vector) impl.Vector {
	t.Helper()
	return madeOf(t, x, "UnzipVector", impl.UnzipVector, w, x.pair.Closed)
}

func sandwichOf(t *testing.T, x paired, w impl.Vector) impl.Vector {
	t.Helper()
	return madeOf(t, x, "SandwichOf", impl.SandwichOf, w, x.pair.Open)
}

func isCardy(t *testing.T, x paired) bool {
	t.Helper()
	yes, code := impl.IsCardyPair(x.pair)
	if code != impl.ErrNone {
		t.Fatalf("%v: IsCardyPair: code %d", x, code)
	}
	return yes
}

func annulus(t *testing.T, x paired, u, w impl.Vector) int64 {
	t.Helper()
	number, code := impl.AnnulusNumber(x.pair, u, w)
	if code != impl.ErrNone {
		t.Fatalf("%v: AnnulusNumber(%v, %v): code %d", x, u, w, code)
	}
	return number
}

func boundaryOf(t *testing.T, x paired) impl.Vector {
	t.Helper()
	v, code := impl.BoundaryElement(x.pair)
	if code != impl.ErrNone || !isVectorFor(x.pair.Closed, v) {
		t.Fatalf("%v: BoundaryElement = %v, %d", x, v, code)
	}
	return v
}

func boundaries(t *testing.T, x paired, g, k int64) int64 {
	t.Helper()
	number, code := impl.BoundaryNumber(x.pair, g, k)
	if code != impl.ErrNone {
		t.Fatalf("%v: BoundaryNumber(%d, %d): code %d", x, g, k, code)
	}
	return number
}

// plainMatrixPair is a matrix pair written down.
func plainMatrixPair(t *testing.T, p, s int64) paired {
	t.Helper()
	why := "matrix pair of " + digit(s) + " modulo " + strconv.FormatInt(p, 10)
	return pairOf(why, scaledForm(named(t, "field", p), s*s), scaledForm(named(t, "matrix", p), s), impl.Vector{1, 0, 0, 1})
}

// classSums returns the sums of the elements of classes.
func classSums(g impl.Group) []impl.Vector {
	var sums []impl.Vector
	for _, class := range plainClasses(g) {
		var sum impl.Vector
		for _, x := range class {
			sum[x] = 1
		}
		sums = append(sums, sum)
	}
	return sums
}

// plainGroupPair is a group pair from its description.
func plainGroupPair(t *testing.T, p int64, g impl.Group) paired {
	t.Helper()
	closed := scaledForm(plainClassAlgebra(p, g), plainInverse(p, g.Order%p))
	why := "group pair of the Order " + digit(g.Order) + " modulo " + strconv.FormatInt(p, 10)
	return pairOf(why, closed, groupAlgebra(t, p, g), classSums(g)...)
}

// scalars returns the pair of the field with a form and an algebra.
func scalars(t *testing.T, why string, number int64, open impl.Algebra) paired {
	t.Helper()
	return pairOf("scalars of "+why, scaledForm(named(t, "field", open.Prime), number), open, unitOf(t, open))
}

// toItself returns the pair of a commutative algebra and itself with the form of Closed changed by a vector.
func toItself(t *testing.T, why string, a impl.Algebra, u impl.Vector) paired {
	t.Helper()
	return pairOf(why+" to itself", plainChange(a, u), a, basisAt(counted(int(a.Size))...)...)
}

// byPowers returns the pair in which Closed has polynomials modulo one that is 0 at a central vector of Open,
// and x becomes this vector.
func byPowers(t *testing.T, why string, f []int64, open impl.Algebra, v impl.Vector) paired {
	t.Helper()
	closed := polynomialsBy(open.Prime, f)
	image, images := unitOf(t, open), []impl.Vector{}
	for range closed.Size {
		images = append(images, image)
		image = plainProduct(open, image, v)
	}
	return pairOf("powers in "+why, closed, open, images...)
}

// overPowers returns the pairs that lead x to central vectors of an algebra: modulo their minimal polynomials,
// and modulo these times x or x - 1.
func overPowers(t *testing.T, why string, open impl.Algebra) []paired {
	t.Helper()
	var list []paired
	centre, _ := impl.CentreOf(open)
	for i, v := range append(centre, plainSum(open, centre[0], centre[len(centre)-1], 1)) {
		f := minimalOf(t, open, v)
		list = append(list, byPowers(t, why, f, open, v))
		if len(f) < 7 {
			more := polynomialTimes(open.Prime, f, []int64{int64(i%2) * (open.Prime - 1), 1})
			list = append(list, byPowers(t, why+" with a factor more", more, open, v))
		}
	}
	return list
}

// shifted returns vectors of the second summand of a sum with the first one of this size.
func shifted(size int64, list []impl.Vector) []impl.Vector {
	var moved []impl.Vector
	for _, v := range list {
		var image impl.Vector
		copy(image[size:], v[:6-size])
		moved = append(moved, image)
	}
	return moved
}

// sumPair returns the sum of two pairs: that of both algebras, with both zippers.
func sumPair(t *testing.T, x, y paired) paired {
	t.Helper()
	images := append(imagesOf(x.pair), shifted(x.pair.Open.Size, imagesOf(y.pair))...)
	return pairOf(x.why+" + "+y.why, sumOf(t, x.pair.Closed, y.pair.Closed), sumOf(t, x.pair.Open, y.pair.Open), images...)
}

// tensorPair returns the tensor product of two pairs.
func tensorPair(t *testing.T, x, y paired) paired {
	t.Helper()
	open := tensorOf(t, x.pair.Open, y.pair.Open)
	var images []impl.Vector
	for _, v := range imagesOf(x.pair) {
		for _, w := range imagesOf(y.pair) {
			var both impl.Vector
			for k := range open.Size {
				both[k] = byte(int64(v[k/y.pair.Open.Size]) * int64(w[k%y.pair.Open.Size]) % open.Prime)
			}
			images = append(images, both)
		}
	}
	return pairOf(x.why+" (x) "+y.why, tensorOf(t, x.pair.Closed, y.pair.Closed), open, images...)
}

// withMore returns a pair with an algebra more in Closed, all of which is led to 0.
func withMore(t *testing.T, x paired, more impl.Algebra) paired {
	t.Helper()
	return pairOf(x.why+" with more", sumOf(t, x.pair.Closed, more), x.pair.Open, imagesOf(x.pair)...)
}

// toBases returns a pair to other bases of both algebras.
func toBases(x paired, first int) paired {
	rows := otherBasis(x.pair.Closed, first)
	closed, _ := inBasis(x.pair.Closed, rows)
	open, numbers := inBasis(x.pair.Open, otherBasis(x.pair.Open, first+3))
	var images []impl.Vector
	for _, v := range rows {
		images = append(images, imageOf(open, numbers, plainZip(x.pair, v)))
	}
	return pairOf(x.why+" to other bases", closed, open, images...)
}

// withForms returns a pair with a change of form in one of its algebras, that of Open by a central vector, if
// there is a vector drawn for them.
func withForms(t *testing.T, x paired) []paired {
	t.Helper()
	for _, v := range drawnVectors(x.pair.Closed, 9) {
		if !isPlainInvertible(x.pair.Closed, v) || v == unitOf(t, x.pair.Closed) {
			continue
		}
		closed, open := x, x
		closed.why, open.why = x.why+" with another form of Closed", x.why+" with another form of Open"
		closed.pair.Closed = plainChange(x.pair.Closed, v)
		open.pair.Open = plainChange(x.pair.Open, plainZip(x.pair, v))
		return []paired{closed, open}
	}
	return nil
}

// nilCardy returns Cardy pairs with nilpotent vectors for a prime, with x^n = 0 in Open and x^m = 0 in Closed: x
// becomes x^k, where n - 1 is some times k, and 2 (n - 1) is m - 1 times k, and the form of Closed is divided by
// n; or x becomes 0, where n is 0 modulo p.
func nilCardy(t *testing.T, p int64) []paired {
	t.Helper()
	var list []paired
	for _, numbers := range [][3]int64{{2, 3, 1}, {3, 5, 1}, {3, 3, 2}, {4, 3, 3}, {5, 5, 2}, {5, 3, 4}, {6, 3, 5}} {
		n, m, k := numbers[0], numbers[1], numbers[2]
		if n%p == 0 {
			continue
		}
		open := powersOf(p, int(n))
		x := byPowers(t, "x^"+digit(n)+" by x^"+digit(k), polynomialAt(p, int(m), 0), open, basis(k))
		x.pair.Closed = scaledForm(x.pair.Closed, plainInverse(p, n%p))
		list = append(list, x)
	}
	for n := 2; n <= 6; n++ {
		for m := 2; m <= 6 && int64(n)%p == 0; m++ {
			list = append(list, byPowers(t, "x^"+digit(int64(n))+" by 0", polynomialAt(p, m, 0), powersOf(p, n), impl.Vector{}))
		}
	}
	return list
}

// joinedPairs returns sums and tensor products of pairs, as far as they are small enough, and pairs with more in
// Closed.
func joinedPairs(t *testing.T, pairs []paired) []paired {
	t.Helper()
	var list []paired
	for i, x := range pairs {
		if dual := named(t, "dual", x.pair.Closed.Prime); x.pair.Closed.Size <= 4 {
			list = append(list, withMore(t, x, dual))
		}
		y := pairs[(7*i+3)%len(pairs)]
		c, o := [2]int64{x.pair.Closed.Size, y.pair.Closed.Size}, [2]int64{x.pair.Open.Size, y.pair.Open.Size}
		if c[0]+c[1] <= 6 && o[0]+o[1] <= 6 {
			list = append(list, sumPair(t, x, y))
		}
		if c[0]*c[1] <= 6 && o[0]*o[1] <= 6 {
			list = append(list, tensorPair(t, x, y))
		}
	}
	return list
}

// cardySamples returns Cardy pairs for a prime.
func cardySamples(t *testing.T, p int64) []paired {
	t.Helper()
	var list []paired
	for s := range p - 1 {
		list = append(list, plainMatrixPair(t, p, s+1))
	}
	for _, name := range groupNames {
		if g := knownGroup(t, name); g.Order%p != 0 {
			list = append(list, plainGroupPair(t, p, g))
		}
	}
	half := (p + 1) / 2
	list = append(list, scalars(t, "field", 1, named(t, "field", p)), scalars(t, "half", half*half%p, scaledForm(named(t, "field", p), half)))
	list = append(list, nilCardy(t, p)...)
	list = append(list, joinedPairs(t, list)...)
	for i, x := range list {
		if i%2 == 0 {
			list = append(list, toBases(x, i%5))
		}
	}
	return list
}

// openSamples returns symmetric Frobenius algebras for a prime.
func openSamples(t *testing.T, p int64) []impl.Algebra {
	t.Helper()
	list := []impl.Algebra{
		sumOf(t, named(t, "field", p), named(t, "matrix", p)), sumOf(t, named(t, "matrix", p), named(t, "dual", p)),
		polynomialsBy(p, irreducible(p, 2)), polynomialsBy(p, irreducible(p, 3)), powersOf(p, 3), powersOf(p, 6),
		quadric(p, 1), quadric(p, 1, byte(p-1)), corner(p, 1), tensorOf(t, named(t, "dual", p), named(t, "cyclic3", p)),
	}
	for _, name := range impl.AlgebraNames() {
		list = append(list, named(t, name, p))
	}
	for _, name := range groupNames {
		list = append(list, groupAlgebra(t, p, knownGroup(t, name)))
	}
	return list
}

// pairsTo returns pairs with an algebra as Open.
func pairsTo(t *testing.T, open impl.Algebra) []paired {
	t.Helper()
	why := "the size " + digit(open.Size) + " modulo " + strconv.FormatInt(open.Prime, 10)
	list := append(overPowers(t, why, open), scalars(t, why, open.Prime-1, open), scalars(t, why, 1, open))
	if isPlainCommutative(open) {
		for _, u := range drawnVectors(open, 3) {
			if isPlainInvertible(open, u) {
				list = append(list, toItself(t, why, open, u))
			}
		}
	}
	return list
}

// keptPairs has the samples as soon as they are made.
var keptPairs []paired

// pairSamples returns pairs for all primes: Cardy pairs, and many that are none.
func pairSamples(t *testing.T) []paired {
	t.Helper()
	if keptPairs == nil {
		keptPairs = madePairs(t)
	}
	return slices.Clone(keptPairs)
}

func madePairs(t *testing.T) []paired {
	t.Helper()
	var list []paired
	for i, p := range primes {
		var pairs []paired
		for _, open := range openSamples(t, p) {
			pairs = append(pairs, pairsTo(t, open)...)
		}
		for k, x := range joinedPairs(t, pairs) {
			if k%2 == i%2 {
				pairs = append(pairs, x)
			}
		}
		for k, x := range pairs {
			if (i+k)%4 == 0 {
				pairs = append(pairs, toBases(x, k%7))
			}
			if (i+k)%4 == 1 {
				pairs = append(pairs, withForms(t, x)...)
			}
		}
		list = slices.Concat(list, cardySamples(t, p), pairs)
	}
	return list
}

func TestPairSamples(t *testing.T) {
	kinds := map[string]int{}
	for _, x := range pairSamples(t) {
		if faults := pairFaults(x.pair); len(faults) > 0 || !impl.IsPair(x.pair) {
			t.Errorf("%v: IsPair is %v, and %v do not hold", x, impl.IsPair(x.pair), faults)
			continue
		}
		rank := len(plainSpan(x.pair.Open, imagesOf(x.pair)))
		kinds["Cardy: "+strconv.FormatBool(isCardy(t, x))]++
		kinds["Open commutative: "+strconv.FormatBool(isPlainCommutative(x.pair.Open))]++
		kinds["something is led to 0: "+strconv.FormatBool(rank < int(x.pair.Closed.Size))]++
		kinds["all of Open are images: "+strconv.FormatBool(rank == int(x.pair.Open.Size))]++
		kinds["Closed of the size "+digit(x.pair.Closed.Size)]++
		kinds["Open of the size "+digit(x.pair.Open.Size)]++
	}
	for kind, least := range map[string]int{
		"Cardy: true": 700, "Cardy: false": 3000, "Open commutative: true": 2000, "Open commutative: false": 400,
		"something is led to 0: true": 1000, "something is led to 0: false": 1000,
		"all of Open are images: true": 500, "all of Open are images: false": 500,
	} {
		if kinds[kind] < least {
			t.Errorf("there are %d samples of %s", kinds[kind], kind)
		}
	}
	for size := range int64(6) {
		if closed, open := kinds["Closed of the size "+digit(size+1)], kinds["Open of the size "+digit(size+1)]; closed < 100 || open < 100 {
			t.Errorf("there are %d and %d samples with algebras of the size %d", closed, open, size+1)
		}
	}
}

// fewPairs returns every step-th one of the samples.
func fewPairs(t *testing.T, step int) []paired {
	t.Helper()
	var list []paired
	for i, x := range pairSamples(t) {
		if i%step == 0 {
			list = append(list, x)
		}
	}
	return list
}

// smallPairs returns the samples with at most so many vectors in both algebras.
func smallPairs(t *testing.T, most int64) []paired {
	t.Helper()
	return slices.DeleteFunc(pairSamples(t), func(x paired) bool {
		return max(countVectors(x.pair.Closed), countVectors(x.pair.Open)) > most
	})
}

// specialVectors returns 0, the unit and the basis of an algebra, and some drawn vectors.
func specialVectors(t *testing.T, a impl.Algebra, drawn int) []impl.Vector {
	t.Helper()
	return slices.Concat(basisAt(counted(int(a.Size))...), drawnVectors(a, drawn), []impl.Vector{{}, unitOf(t, a)})
}

// checkZip checks the image of a vector.
func checkZip(t *testing.T, x paired, v impl.Vector) {
	t.Helper()
	if image := zipOf(t, x, v); image != plainZip(x.pair, v) {
		t.Errorf("%v: ZipVector(%v) = %v instead of %v", x, v, image, plainZip(x.pair, v))
	}
}

func TestZips(t *testing.T) {
	for _, x := range fewPairs(t, 7) {
		for _, v := range specialVectors(t, x.pair.Closed, 3) {
			checkZip(t, x, v)
		}
		if image := zipOf(t, x, unitOf(t, x.pair.Closed)); image != unitOf(t, x.pair.Open) {
			t.Errorf("%v: ZipVector of the unit = %v", x, image)
		}
	}
	for _, x := range smallPairs(t, 30) {
		for _, v := range allVectors(x.pair.Closed) {
			checkZip(t, x, v)
		}
	}
}

// TestZipsOfProducts checks that the zipper leads products to products and sums to sums, and that images are
// central.
func TestZipsOfProducts(t *testing.T) {
	for _, x := range fewPairs(t, 11) {
		list, others := drawnVectors(x.pair.Closed, 3), drawnVectors(x.pair.Open, 3)
		for i, v := range list {
			w := list[(i+1)%3]
			image, other := zipOf(t, x, v), zipOf(t, x, w)
			if zipOf(t, x, times(t, x.pair.Closed, v, w)) != times(t, x.pair.Open, image, other) {
				t.Errorf("%v: the zipper does not keep %v times %v", x, v, w)
			}
			if zipOf(t, x, plainSum(x.pair.Closed, v, w, 1)) != plainSum(x.pair.Open, image, other, 1) {
				t.Errorf("%v: the zipper does not keep %v and %v together", x, v, w)
			}
			if times(t, x.pair.Open, image, others[i]) != times(t, x.pair.Open, others[i], image) {
				t.Errorf("%v: the image %v of %v is not central", x, image, v)
			}
		}
	}
}

// Guarantee of chapter 10: the dual zipper is dual to the zipper, at the basis of Closed and at drawn vectors.
func TestUnzips(t *testing.T) {
	for _, x := range fewPairs(t, 13) {
		for _, w := range specialVectors(t, x.pair.Open, 3) {
			u := unzipOf(t, x, w)
			if !isPlainUnzip(x.pair, w, u) {
				t.Errorf("%v: UnzipVector(%v) = %v", x, w, u)
			}
			for _, v := range drawnVectors(x.pair.Closed, 3) {
				closed := plainForm(x.pair.Closed, plainProduct(x.pair.Closed, u, v))
				if open := plainForm(x.pair.Open, plainProduct(x.pair.Open, w, zipOf(t, x, v))); closed != open {
					t.Errorf("%v: UnzipVector(%v) = %v has with %v the form %d instead of %d", x, w, u, v, closed, open)
				}
			}
		}
	}
}

// TestUnzipsAmongAll looks through all vectors of Closed for those with the same forms at all vectors of it.
func TestUnzipsAmongAll(t *testing.T) {
	for _, x := range smallPairs(t, 30) {
		vectors := allVectors(x.pair.Closed)
		for _, w := range allVectors(x.pair.Open) {
			fits := func(u impl.Vector) bool {
				return !slices.ContainsFunc(vectors, func(v impl.Vector) bool {
					closed := plainForm(x.pair.Closed, plainProduct(x.pair.Closed, u, v))
					return closed != plainForm(x.pair.Open, plainProduct(x.pair.Open, w, plainZip(x.pair, v)))
				})
			}
			var found []impl.Vector
			for _, u := range vectors {
				if fits(u) {
					found = append(found, u)
				}
			}
			if u := unzipOf(t, x, w); len(found) != 1 || u != found[0] {
				t.Errorf("%v: UnzipVector(%v) = %v instead of %v", x, w, u, found)
			}
		}
	}
}

// TestUnzipsOfProducts checks that an image as a factor comes through the dual zipper, and that this one does
// not see the order of factors.
func TestUnzipsOfProducts(t *testing.T) {
	for _, x := range fewPairs(t, 11) {
		list := drawnVectors(x.pair.Open, 3)
		for i, v := range drawnVectors(x.pair.Closed, 3) {
			w, z := list[i], list[(i+1)%3]
			whole := unzipOf(t, x, times(t, x.pair.Open, zipOf(t, x, v), w))
			if whole != times(t, x.pair.Closed, v, unzipOf(t, x, w)) {
				t.Errorf("%v: the dual zipper makes of the image of %v times %v %v", x, v, w, whole)
			}
			if unzipOf(t, x, times(t, x.pair.Open, w, z)) != unzipOf(t, x, times(t, x.pair.Open, z, w)) {
				t.Errorf("%v: the dual zipper sees the order of %v and %v", x, w, z)
			}
		}
	}
}

// TestSandwiches checks sandwiches against the sum over the copairing, and that they are central, do not see
// the order of factors, and let an image through.
func TestSandwiches(t *testing.T) {
	for _, x := range fewPairs(t, 11) {
		open := x.pair.Open
		for _, w := range specialVectors(t, open, 3) {
			if v := sandwichOf(t, x, w); v != plainSandwich(t, x.pair, w) || !isPlainCentral(open, v) {
				t.Errorf("%v: SandwichOf(%v) = %v instead of %v", x, w, v, plainSandwich(t, x.pair, w))
			}
		}
		list, image := drawnVectors(open, 2), zipOf(t, x, drawnVectors(x.pair.Closed, 1)[0])
		if sandwichOf(t, x, times(t, open, list[0], list[1])) != sandwichOf(t, x, times(t, open, list[1], list[0])) {
			t.Errorf("%v: SandwichOf sees the order of %v and %v", x, list[0], list[1])
		}
		if sandwichOf(t, x, times(t, open, image, list[0])) != times(t, open, image, sandwichOf(t, x, list[0])) {
			t.Errorf("%v: SandwichOf does not let %v through", x, image)
		}
		if v := sandwichOf(t, x, unitOf(t, open)); v != handleOf(t, open) {
			t.Errorf("%v: SandwichOf the unit = %v, and the handle element is %v", x, v, handleOf(t, open))
		}
	}
}

// TestSandwichesByForms checks forms of sandwiches with a vector against traces, without the copairing.
func TestSandwichesByForms(t *testing.T) {
	for _, x := range fewPairs(t, 11) {
		open := x.pair.Open
		for _, w := range drawnVectors(open, 2) {
			v := sandwichOf(t, x, w)
			for i := range open.Size {
				if number := plainForm(open, plainProduct(open, v, basis(i))); number != plainMap(open, basis(i), w) {
					t.Errorf("%v: SandwichOf(%v) = %v has with e(%d) the form %d instead of %d", x, w, v, i, number, plainMap(open, basis(i), w))
				}
			}
		}
	}
}

// isPlainCardyAt reports whether the condition of Cardy holds at a vector.
func isPlainCardyAt(t *testing.T, x paired, w impl.Vector) bool {
	t.Helper()
	for _, u := range allVectors(x.pair.Closed) {
		if isPlainUnzip(x.pair, w, u) {
			return plainZip(x.pair, u) == plainSandwich(t, x.pair, w)
		}
	}
	t.Fatalf("%v: the dual zipper makes nothing of %v", x, w)
	return false
}

// TestIsCardyPair looks at all vectors of small algebras.
func TestIsCardyPair(t *testing.T) {
	counts := map[bool]int{}
	for _, x := range smallPairs(t, 130) {
		vectors := someVectors(x.pair.Open)
		want := !slices.ContainsFunc(vectors, func(w impl.Vector) bool { return !isPlainCardyAt(t, x, w) })
		if yes := isCardy(t, x); yes != want {
			t.Errorf("%v: IsCardyPair is %v", x, yes)
		}
		counts[want]++
	}
	if counts[true] < 100 || counts[false] < 200 {
		t.Errorf("Cardy pairs or not: %v", counts)
	}
}

// TestCardyByTraces checks that pairs are Cardy pairs exactly if the annulus number of u and w is the trace of
// the map that makes of v the product u v w, at the basis.
func TestCardyByTraces(t *testing.T) {
	counts := map[bool]int{}
	for _, x := range fewPairs(t, 5) {
		want := true
		for i := range x.pair.Open.Size {
			for j := range x.pair.Open.Size {
				want = want && annulus(t, x, basis(i), basis(j)) == plainMap(x.pair.Open, basis(i), basis(j))
			}
		}
		if yes := isCardy(t, x); yes != want {
			t.Errorf("%v: IsCardyPair is %v", x, yes)
		}
		counts[want]++
	}
	if counts[true] < 100 || counts[false] < 500 {
		t.Errorf("Cardy pairs or not: %v", counts)
	}
}

// TestCardySamples checks pairs that are known to be Cardy pairs, and what becomes of them if the form of Open is
// s times that form, and the form of Closed t times: sandwiches are divided by s, and the zippers, one behind the
// other, make s / t times as much.
func TestCardySamples(t *testing.T) {
	for _, p := range primes {
		for _, x := range cardySamples(t, p) {
			if !isCardy(t, x) {
				t.Errorf("%v: IsCardyPair is false", x)
			}
			flat := true
			for i := range x.pair.Open.Size {
				flat = flat && plainSandwich(t, x.pair, basis(i)) == (impl.Vector{})
			}
			for _, numbers := range [][2]int64{{1, p - 1}, {p - 1, 1}, {p - 1, p - 1}, {p / 2, p / 2 * (p / 2) % p}, {p / 2, 1}, {1, p / 2}} {
				y := x
				y.pair.Open, y.pair.Closed = scaledForm(x.pair.Open, numbers[0]), scaledForm(x.pair.Closed, numbers[1])
				if yes := isCardy(t, y); yes != (flat || numbers[0]*numbers[0]%p == numbers[1]) {
					t.Errorf("%v: IsCardyPair is %v for the forms times %v", y, yes, numbers)
				}
			}
		}
	}
}

// Promise 10, the second part: annulus numbers do not depend on the order. They are checked against forms of
// products, and against forms of images.
func TestAnnulusNumbers(t *testing.T) {
	for _, x := range fewPairs(t, 17) {
		closed, open := x.pair.Closed, x.pair.Open
		vectors := specialVectors(t, open, 2)
		for i, u := range vectors {
			w := vectors[(i*5+3)%len(vectors)]
			first, second := unzipOf(t, x, u), unzipOf(t, x, w)
			want := plainForm(closed, plainProduct(closed, first, second))
			if plainForm(open, plainProduct(open, u, plainZip(x.pair, second))) != want {
				t.Errorf("%v: the dual zipper makes of %v and %v %v and %v", x, u, w, first, second)
			}
			if number, turned := annulus(t, x, u, w), annulus(t, x, w, u); number != want || turned != want {
				t.Errorf("%v: AnnulusNumber of %v and %v = %d, turned %d, instead of %d", x, u, w, number, turned, want)
			}
		}
	}
}

// TestAnnulusNumbersOfAll looks at all vectors of small algebras.
func TestAnnulusNumbersOfAll(t *testing.T) {
	for _, x := range smallPairs(t, 9) {
		closed := x.pair.Closed
		for _, u := range allVectors(x.pair.Open) {
			for _, w := range allVectors(x.pair.Open) {
				want := plainForm(closed, plainProduct(closed, unzipOf(t, x, u), unzipOf(t, x, w)))
				if number := annulus(t, x, u, w); number != want {
					t.Errorf("%v: AnnulusNumber of %v and %v = %d instead of %d", x, u, w, number, want)
				}
			}
		}
	}
}

func TestBoundaryElements(t *testing.T) {
	for _, x := range fewPairs(t, 3) {
		v := boundaryOf(t, x)
		if !isPlainUnzip(x.pair, unitOf(t, x.pair.Open), v) {
			t.Errorf("%v: BoundaryElement = %v", x, v)
		}
	}
}

// powersBelow returns the powers 0 to 30 of a vector.
func powersBelow(t *testing.T, a impl.Algebra, v impl.Vector) []impl.Vector {
	t.Helper()
	list := []impl.Vector{unitOf(t, a)}
	for len(list) < 31 {
		list = append(list, plainProduct(a, list[len(list)-1], v))
	}
	return list
}

// checkBoundaries checks boundary numbers of a pair for all of these numbers of handles and boundaries.
func checkBoundaries(t *testing.T, x paired, gs, ks []int64) {
	t.Helper()
	closed := x.pair.Closed
	handles := powersBelow(t, closed, plainHandle(closed, copairingOf(t, closed)))
	elements := powersBelow(t, closed, boundaryOf(t, x))
	for _, g := range gs {
		for _, k := range ks {
			want := plainForm(closed, plainProduct(closed, handles[g], elements[k]))
			if number := boundaries(t, x, g, k); number != want {
				t.Errorf("%v: BoundaryNumber of %d and %d = %d instead of %d", x, g, k, number, want)
			}
		}
	}
}

func TestBoundaryNumbers(t *testing.T) {
	for i, x := range fewPairs(t, 23) {
		drawn := int64(i*7) % 31
		checkBoundaries(t, x, []int64{0, 1, drawn, 30}, []int64{0, 1, 2, 30 - drawn, 30})
	}
	for _, x := range fewPairs(t, 499) {
		checkBoundaries(t, x, counted(31), counted(31))
	}
}

// Guarantee of chapter 10: boundary numbers without boundaries are genus numbers.
func TestNoBoundaries(t *testing.T) {
	for _, x := range fewPairs(t, 41) {
		for g := range int64(31) {
			genus, code := impl.GenusNumber(x.pair.Closed, g)
			if number := boundaries(t, x, g, 0); number != genus || code != impl.ErrNone {
				t.Errorf("%v: BoundaryNumber of %d and 0 = %d, and the genus number is %d, %d", x, g, number, genus, code)
			}
		}
	}
}

// TestRangeOfBoundaries checks numbers of handles and of boundaries that are in their range, and not.
func TestRangeOfBoundaries(t *testing.T) {
	if impl.MaxGenus != 30 {
		t.Errorf("MaxGenus is %d", impl.MaxGenus)
	}
	for _, x := range fewPairs(t, 211) {
		for _, bad := range append([]int64{31, 32, 60, 1000}, wildGenera()...) {
			for _, numbers := range [][2]int64{{bad, 0}, {0, bad}, {bad, 30}, {30, bad}, {bad, bad}, {bad, -1}, {-1, bad}, {31, bad}, {bad, 31}} {
				if number, code := impl.BoundaryNumber(x.pair, numbers[0], numbers[1]); number != 0 || code != impl.ErrRange {
					t.Errorf("%v: BoundaryNumber of %v = %d, %d", x, numbers, number, code)
				}
			}
		}
	}
}

// Promise 10, the first part: matrix pairs are Cardy pairs.
func TestMatrixPairs(t *testing.T) {
	count := 0
	for _, p := range primes {
		for s := int64(1); s < p; s++ {
			x := plainMatrixPair(t, p, s)
			pair, code := impl.MatrixPair(p, s)
			if pair != x.pair || code != impl.ErrNone {
				t.Errorf("MatrixPair(%d, %d) = %v, %d instead of %v", p, s, paired{"", pair}, code, x)
			}
			if !impl.IsPair(pair) || !isCardy(t, x) {
				t.Errorf("MatrixPair(%d, %d) = %v is a pair, %v, and a Cardy pair, %v", p, s, x, impl.IsPair(pair), isCardy(t, x))
			}
			count++
		}
	}
	if count != 1+2+4+6+10+12 {
		t.Errorf("there are %d matrix pairs", count)
	}
}

// TestNumbersOfMatrixPairs checks what can be told by hand, with the sums d of the numbers on the diagonals: the
// dual zipper makes d / s, sandwiches are d / s times the unit, annulus numbers products of both d, and boundary
// numbers s s times the power g of 1 / (s s) times the power k of 2 / s.
func TestNumbersOfMatrixPairs(t *testing.T) {
	for _, p := range primes {
		for s := int64(1); s < p; s++ {
			x, part := plainMatrixPair(t, p, s), plainInverse(p, s)
			vectors := someVectors(x.pair.Open)[:min(16, countVectors(x.pair.Open))]
			for i, u := range vectors {
				w := vectors[len(vectors)-1-i]
				first, second := int64(u[0]+u[3]), int64(w[0]+w[3])
				number := byte(first * part % p)
				if v := unzipOf(t, x, u); v != (impl.Vector{number}) {
					t.Errorf("%v: UnzipVector(%v) = %v", x, u, v)
				}
				if v := sandwichOf(t, x, u); v != (impl.Vector{number, 0, 0, number}) {
					t.Errorf("%v: SandwichOf(%v) = %v", x, u, v)
				}
				if n := annulus(t, x, u, w); n != first*second%p {
					t.Errorf("%v: AnnulusNumber(%v, %v) = %d", x, u, w, n)
				}
			}
			if v := boundaryOf(t, x); v != (impl.Vector{byte(2 * part % p)}) {
				t.Errorf("%v: BoundaryElement = %v", x, v)
			}
			for _, numbers := range [][2]int64{{0, 0}, {0, 1}, {1, 0}, {1, 1}, {2, 3}, {7, 30}, {30, 5}, {30, 30}} {
				want := s * s * plainPower(p, part*part%p, numbers[0]) % p * plainPower(p, 2*part%p, numbers[1]) % p
				if n := boundaries(t, x, numbers[0], numbers[1]); n != want {
					t.Errorf("%v: BoundaryNumber of %v = %d instead of %d", x, numbers, n, want)
				}
			}
		}
	}
}

func checkNoMatrixPair(t *testing.T, p, s int64) {
	t.Helper()
	if x, code := impl.MatrixPair(p, s); x != (impl.Pair{}) || code != impl.ErrRange {
		t.Errorf("MatrixPair(%d, %d) = %v, %d", p, s, x, code)
	}
}

func TestNoMatrixPairs(t *testing.T) {
	for _, p := range notPrimes {
		for _, s := range append([]int64{0, 1, 2, 3, 5, p, p - 1, p + 1}, wildNumbers...) {
			checkNoMatrixPair(t, p, s)
		}
	}
	for _, p := range primes {
		for _, s := range append([]int64{0, p, p + 1, 2*p - 1, 2 * p, 1 - p, -p, p + 256, p << 32, 1<<32*p + 1}, wildNumbers...) {
			checkNoMatrixPair(t, p, s)
		}
	}
}

// Promise 10, the first part: group pairs are Cardy pairs. All tables of groups are looked at.
func TestGroupPairs(t *testing.T) {
	counts := map[bool]int{}
	for _, g := range sampleGroups(t) {
		for _, p := range primes {
			pair, code := impl.GroupPair(p, g)
			counts[code == impl.ErrNone]++
			if g.Order%p == 0 {
				if pair != (impl.Pair{}) || code != impl.ErrState {
					t.Errorf("GroupPair(%d, %v) = %v, %d", p, g, pair, code)
				}
				continue
			}
			x := plainGroupPair(t, p, g)
			if pair != x.pair || code != impl.ErrNone {
				t.Errorf("GroupPair(%d, %v) = %v, %d instead of %v", p, g, paired{"", pair}, code, x)
			}
			if !impl.IsPair(pair) || !isCardy(t, x) {
				t.Errorf("GroupPair(%d, %v) = %v is a pair, %v, and a Cardy pair, %v", p, g, x, impl.IsPair(pair), isCardy(t, x))
			}
		}
	}
	if counts[false] < 150 || counts[true] < 300 {
		t.Errorf("group pairs or not: %v", counts)
	}
}

// TestGroupPairExamples checks the pairs of c1, and that of s3 modulo 5.
func TestGroupPairExamples(t *testing.T) {
	for _, p := range primes {
		pair, code := impl.GroupPair(p, knownGroup(t, "c1"))
		field := named(t, "field", p)
		if pair != (impl.Pair{Closed: field, Open: field, Zip: [6]impl.Vector{{1}}}) || pair.Open.Size != 1 || code != impl.ErrNone {
			t.Errorf("GroupPair(%d, c1) = %v, %d", p, pair, code)
		}
	}
	pair, code := impl.GroupPair(5, knownGroup(t, "s3"))
	zip := [6]impl.Vector{{1}, {0, 1, 1}, {0, 0, 0, 1, 1, 1}}
	if pair.Closed.Form != (impl.Vector{1}) || pair.Open.Form != (impl.Vector{1}) || pair.Zip != zip || pair.Closed.Size != 3 || pair.Open.Size != 6 || code != impl.ErrNone {
		t.Errorf("GroupPair(5, s3) = %v, %d", pair, code)
	}
	// Divided by 4, modulo 7, the form is 2; divided by 6, modulo 13, it is 11.
	for name, want := range map[string][2]int64{"v4": {7, 2}, "s3": {13, 11}, "c6": {13, 11}, "c5": {3, 2}} {
		pair, code := impl.GroupPair(want[0], knownGroup(t, name))
		if pair.Closed.Form != (impl.Vector{byte(want[1])}) || pair.Open.Form != (impl.Vector{1}) || code != impl.ErrNone {
			t.Errorf("GroupPair(%d, %s) = %v, %d", want[0], name, pair, code)
		}
	}
}

// TestNumbersOfGroupPairs checks what can be told by counting: the dual zipper makes of an element its class as
// many times as elements commute with it, sandwiches of x are the sums of y x y^-1, annulus numbers of x and y count the
// elements z with x z y = z, and boundary numbers are surface counts times powers of the Order.
func TestNumbersOfGroupPairs(t *testing.T) {
	for _, g := range fewGroups(t) {
		for _, p := range primes {
			if g.Order%p != 0 {
				checkGroupNumbers(t, plainGroupPair(t, p, g), g)
			}
		}
	}
}

// checkGroupNumbers checks them for one group pair.
func checkGroupNumbers(t *testing.T, pair paired, g impl.Group) {
	t.Helper()
	p := pair.pair.Open.Prime
	for x := range g.Order {
		var class, sandwich impl.Vector
		for y := range g.Order {
			element := at(g, y, x, back(g, y))
			sandwich = plainSum(pair.pair.Open, sandwich, basis(element), 1)
			if element == x {
				place := slices.IndexFunc(plainClasses(g), func(list []int64) bool { return slices.Contains(list, x) })
				class = plainSum(pair.pair.Closed, class, basis(int64(place)), 1)
			}
			count := int64(0)
			for z := range g.Order {
				if at(g, x, z, y) == z {
					count++
				}
			}
			if number := annulus(t, pair, basis(x), basis(y)); number != count%p {
				t.Errorf("%v: AnnulusNumber of %d and %d = %d instead of %d", pair, x, y, number, count)
			}
		}
		if v := sandwichOf(t, pair, basis(x)); v != sandwich {
			t.Errorf("%v: SandwichOf(%d) = %v instead of %v", pair, x, v, sandwich)
		}
		if v := unzipOf(t, pair, basis(x)); v != class {
			t.Errorf("%v: UnzipVector(%d) = %v instead of %v", pair, x, v, class)
		}
	}
	if v := boundaryOf(t, pair); v != (impl.Vector{byte(g.Order % p)}) {
		t.Errorf("%v: BoundaryElement = %v", pair, v)
	}
	for genus := range int64(5) {
		for _, k := range []int64{0, 1, 2, 30} {
			want := surfaces(t, g, genus) % p * plainPower(p, g.Order%p, k) * plainInverse(p, g.Order%p) % p
			if number := boundaries(t, pair, genus, k); number != want {
				t.Errorf("%v: BoundaryNumber of %d and %d = %d instead of %d", pair, genus, k, number, want)
			}
		}
	}
}

// checkNoGroupPair checks the code for a prime and a group.
func checkNoGroupPair(t *testing.T, why string, p int64, g impl.Group, want int64) {
	t.Helper()
	if x, code := impl.GroupPair(p, g); x != (impl.Pair{}) || code != want {
		t.Errorf("%s: GroupPair(%d, %v) = %v, %d instead of %d", why, p, g, x, code, want)
	}
}

// TestNoGroupPairs checks that what is no group is told first, then what is no prime, also if it divides the Order.
func TestNoGroupPairs(t *testing.T) {
	for why, g := range brokenGroups(t) {
		for _, p := range append(primes, notPrimes...) {
			checkNoGroupPair(t, why, p, g, impl.ErrInvalid)
		}
	}
	for _, g := range sampleGroups(t) {
		for _, p := range append([]int64{g.Order * 4, -g.Order, 1 << 32 * g.Order}, notPrimes...) {
			checkNoGroupPair(t, "no prime", p, g, impl.ErrRange)
		}
	}
	for name, divisors := range map[string][]int64{"c2": {2}, "c3": {3}, "c4": {2}, "c5": {5}, "c6": {2, 3}, "v4": {2}, "s3": {2, 3}} {
		for _, p := range divisors {
			checkNoGroupPair(t, name, p, knownGroup(t, name), impl.ErrState)
		}
	}
}

// allZips calls look with each pair of two algebras and a linear map between them, a pair or not.
func allZips(closed, open impl.Algebra, look func(x paired)) {
	vectors := allVectors(open)
	for _, places := range plainChoices(int64(len(vectors)), closed.Size) {
		x := pairOf("one of all maps", closed, open)
		for i, place := range places {
			x.pair.Zip[i] = vectors[place]
		}
		look(x)
	}
}

// TestAllZips looks at all linear maps of small algebras; the zippers among them are known as well: roots of what
// Closed is by, in the centre of Open, or ways to divide the unit.
func TestAllZips(t *testing.T) {
	three, eight := polynomialsBy(3, []int64{1, 0, 1}), polynomialsBy(2, []int64{1, 1, 0, 1})
	for _, look := range []struct {
		closed, open impl.Algebra
		want         int
	}{
		{named(t, "field", 2), named(t, "matrix", 2), 1}, {named(t, "field", 3), named(t, "matrix", 3), 1},
		{named(t, "field", 2), named(t, "symmetric", 2), 1}, {named(t, "field", 13), named(t, "dual", 13), 1},
		{named(t, "dual", 2), named(t, "field", 2), 1}, {named(t, "dual", 2), named(t, "dual", 2), 2},
		{named(t, "dual", 3), named(t, "dual", 3), 3}, {named(t, "dual", 5), named(t, "dual", 5), 5},
		{named(t, "dual", 3), named(t, "pair", 3), 1},
		{named(t, "dual", 2), named(t, "symmetric", 2), 2}, {named(t, "dual", 2), named(t, "matrix", 2), 1},
		{named(t, "pair", 2), named(t, "pair", 2), 4}, {named(t, "pair", 3), named(t, "pair", 3), 4},
		{named(t, "pair", 5), named(t, "pair", 5), 4}, {named(t, "pair", 3), named(t, "dual", 3), 2},
		{named(t, "pair", 2), named(t, "matrix", 2), 2}, {named(t, "pair", 3), named(t, "matrix", 3), 2},
		{named(t, "pair", 2), named(t, "symmetric", 2), 4}, {three, three, 2}, {three, named(t, "pair", 3), 0},
		{three, named(t, "dual", 3), 0}, {eight, eight, 3}, {eight, named(t, "pair", 2), 0},
		{named(t, "cyclic3", 2), named(t, "pair", 2), 1}, {named(t, "cyclic3", 2), named(t, "matrix", 2), 1},
		{named(t, "cyclic3", 3), named(t, "dual", 3), 3}, {named(t, "cyclic3", 2), eight, 1},
		{named(t, "matrix", 2), named(t, "pair", 2), 0}, {named(t, "matrix", 2), named(t, "field", 2), 0},
		{sumOf(t, named(t, "field", 2), named(t, "pair", 2)), named(t, "pair", 2), 9},
	} {
		count := 0
		allZips(look.closed, look.open, func(x paired) {
			want := isPlainCommutative(look.closed) && isWholePair(x.pair)
			if yes := impl.IsPair(x.pair); yes != want || yes != isPlainPair(x.pair) {
				t.Errorf("%v: IsPair is %v", x, yes)
			}
			if want {
				count++
			}
		})
		if count != look.want {
			t.Errorf("%v has with %v %d zippers instead of %d", look.closed, look.open, count, look.want)
		}
	}
}

// TestAllForms looks at all forms of small algebras in pairs.
func TestAllForms(t *testing.T) {
	counts := map[bool]int{}
	for _, x := range smallPairs(t, 30) {
		for number := range max(countVectors(x.pair.Closed), countVectors(x.pair.Open)) {
			closed, open := x, x
			closed.pair.Closed.Form = vectorAt(x.pair.Closed, number)
			open.pair.Open.Form = vectorAt(x.pair.Open, number)
			for _, y := range []paired{closed, open} {
				want := isPlainFrobenius(y.pair.Closed) && isPlainFrobenius(y.pair.Open) && isPlainSymmetric(y.pair.Open)
				if yes := impl.IsPair(y.pair); yes != want {
					t.Errorf("%v: IsPair is %v", y, yes)
				}
				counts[want]++
			}
		}
	}
	if counts[true] < 500 || counts[false] < 500 {
		t.Errorf("pairs or not: %v", counts)
	}
}

// noPairs returns what is no pair for a prime, each because of one condition.
func noPairs(t *testing.T, p int64) map[string][]paired {
	t.Helper()
	list := badZippers(t, p)
	maps.Copy(list, badAlgebras(t, p))
	field, one := named(t, "field", p), impl.Vector{1}
	for _, q := range primes {
		if q != p {
			list[samePrime] = append(list[samePrime], pairOf("primes", field, named(t, "field", q), one),
				pairOf("primes", field, named(t, "matrix", q), impl.Vector{1, 0, 0, 1}),
				pairOf("primes", named(t, "pair", p), named(t, "pair", q), basisAt(0, 1)...),
				pairOf("primes", named(t, "cyclic3", p), named(t, "cyclic3", q), basisAt(0, 1, 2)...))
		}
	}
	for _, x := range []paired{
		scalars(t, "field", 1, field), plainMatrixPair(t, p, 1), scalars(t, "symmetric", 1, named(t, "symmetric", p)),
		toItself(t, "pair", named(t, "pair", p), impl.Vector{1, 1}), toItself(t, "cyclic3", named(t, "cyclic3", p), one),
		byPowers(t, "x^6", []int64{0, 0, 0, 1}, powersOf(p, 6), basis(2)),
	} {
		addBadImages(x, list)
	}
	return list
}

// badAlgebras returns what is no pair because of one condition of its algebras.
func badAlgebras(t *testing.T, p int64) map[string][]paired {
	t.Helper()
	field, dual, pair := named(t, "field", p), named(t, "dual", p), named(t, "pair", p)
	matrix, symmetric, cubes := named(t, "matrix", p), named(t, "symmetric", p), powersOf(p, 3)
	badDual, badPair, flat, badCubes := dual, pair, field, cubes
	badDual.Form, badPair.Form, flat.Form, badCubes.Form = basis(0), basis(0), impl.Vector{}, basis(1)
	triangles := impl.Algebra{Prime: p, Size: 3, Table: oddAlgebras(t)[0].Table, Form: impl.Vector{1, 0, 1}}
	one, last, zero, unit := basis(0), impl.Vector{byte(p - 1)}, impl.Vector{}, impl.Vector{1, 0, 0, 1}
	list := map[string][]paired{
		commutative: {
			pairOf("matrices beside", sumOf(t, field, matrix), field, one), pairOf("matrices beside", sumOf(t, matrix, field), matrix, zero, zero, zero, zero, unit),
			pairOf("sum of elements", symmetric, field, one, one, one, one, one, one), pairOf("sum with signs", symmetric, field, one, last, last, one, one, last),
		},
		closedForm: {
			pairOf("bad form", badDual, field, one), pairOf("bad form", badPair, pair, basisAt(0, 1)...),
			pairOf("no form", flat, matrix, unit), pairOf("form in the middle", badCubes, cubes, basisAt(0, 1, 2)...),
		},
		openForm: {
			pairOf("bad form", field, badDual, one), pairOf("bad form", pair, badPair, basisAt(0, 1)...), pairOf("no form", field, flat, one),
			pairOf("triangles", field, triangles, impl.Vector{1, 0, 1}), pairOf("form in the middle", cubes, badCubes, basisAt(0, 1, 2)...),
			pairOf("squares of 0", dual, quadric(p, 0), one), pairOf("squares of 0", dual, quadric(p, 0), basisAt(0, 1)...),
		},
		symmetricForm: {
			pairOf("changed matrix", field, plainChange(matrix, impl.Vector{1, 1, 0, 1}), unit),
			pairOf("changed matrix", dual, plainChange(matrix, impl.Vector{0, 1, 1, 0}), unit),
			pairOf("changed symmetric", field, plainChange(symmetric, basis(1)), one),
		},
	}
	if p <= 3 {
		g := knownGroup(t, "s3")
		list[closedForm] = append(list[closedForm], pairOf("classes", classAlgebra(t, p, g), groupAlgebra(t, p, g), classSums(g)...))
	}
	return list
}

// badZippers returns what is no pair because of one condition of its zipper.
func badZippers(t *testing.T, p int64) map[string][]paired {
	t.Helper()
	field, dual, pair, cyclic := named(t, "field", p), named(t, "dual", p), named(t, "pair", p), named(t, "cyclic3", p)
	matrix, symmetric := named(t, "matrix", p), named(t, "symmetric", p)
	one, both, unit := basis(0), impl.Vector{1, 1}, impl.Vector{1, 0, 0, 1}
	return map[string][]paired{
		unitToUnit: {
			pairOf("one of two", field, pair, one), pairOf("one of two", pair, pair, one), pairOf("the other one", dual, pair, basis(1)),
			pairOf("0", dual, dual), pairOf("0", field, matrix), pairOf("0", field, field),
		},
		keepsProducts: {
			pairOf("x to 1", dual, dual, one, one), pairOf("x to 1", dual, field, one, one), pairOf("x to one of two", powersOf(p, 3), pair, both, one, one),
			pairOf("third of 1 to 0", cyclic, field, one), pairOf("third of 1 to x", cyclic, powersOf(p, 4), basisAt(0, 1, 2)...),
			pairOf("two halves", pair, dual, both, impl.Vector{0, byte(p - 1)}),
		},
		centralImages: {
			pairOf("diagonals", pair, matrix, basisAt(0, 3)...), pairOf("above the diagonal", dual, matrix, unit, basis(1)),
			pairOf("turns", cyclic, symmetric, basisAt(0, 3, 4)...), pairOf("below the diagonal", powersOf(p, 4), matrix, unit, basis(2)),
		},
	}
}

// addBadImages adds a pair with other numbers in its images, each for a condition of numbers.
func addBadImages(x paired, list map[string][]paired) {
	for i := range int64(6) {
		for k := range int64(6) {
			p, number := x.pair.Open.Prime, int64(x.pair.Zip[i][k])
			put := func(condition string, number int64) {
				y := paired{x.why + " with " + digit(i) + ", " + digit(k) + " changed", x.pair}
				y.pair.Zip[i][k] = byte(number)
				list[condition] = append(list[condition], y)
			}
			switch {
			case i >= x.pair.Closed.Size && k >= x.pair.Open.Size:
			case i >= x.pair.Closed.Size:
				put(imagesInSize, 1)
				put(imagesInSize, p-1)
			case k >= x.pair.Open.Size:
				put(numbersInSize, 1)
				put(numbersInSize, p-1)
			default:
				put(numbersByPrime, number+p)
				put(numbersByPrime, number+(255-number)/p*p)
			}
		}
	}
}

// vectorsForAll are vectors of many algebras, and of none.
var vectorsForAll = []impl.Vector{{}, {1}, {1, 1}, {255}, {5: 1}}

// checkNoPair checks all functions with what is no pair, whatever the other arguments are.
func checkNoPair(t *testing.T, x paired) {
	t.Helper()
	if impl.IsPair(x.pair) {
		t.Errorf("%v: IsPair is true", x)
	}
	for i, v := range vectorsForAll {
		checkNoVectors(t, x, v, vectorsForAll[(i+3)%len(vectorsForAll)])
		if w, code := impl.ZipVector(x.pair, v); w != (impl.Vector{}) || code != impl.ErrInvalid {
			t.Errorf("%v: ZipVector(%v) = %v, %d", x, v, w, code)
		}
	}
	if yes, code := impl.IsCardyPair(x.pair); yes || code != impl.ErrInvalid {
		t.Errorf("%v: IsCardyPair = %v, %d", x, yes, code)
	}
	if v, code := impl.BoundaryElement(x.pair); v != (impl.Vector{}) || code != impl.ErrInvalid {
		t.Errorf("%v: BoundaryElement = %v, %d", x, v, code)
	}
	for _, numbers := range [][2]int64{{0, 0}, {1, 30}, {31, 1}, {0, 31}, {-1, -1}, {1<<63 - 1, 0}, {0, -1 << 63}} {
		if number, code := impl.BoundaryNumber(x.pair, numbers[0], numbers[1]); number != 0 || code != impl.ErrInvalid {
			t.Errorf("%v: BoundaryNumber of %v = %d, %d", x, numbers, number, code)
		}
	}
}

// checkNoVectors checks the functions of vectors of Open, with something that is not as told.
func checkNoVectors(t *testing.T, x paired, u, w impl.Vector) {
	t.Helper()
	if v, code := impl.UnzipVector(x.pair, u); v != (impl.Vector{}) || code != impl.ErrInvalid {
		t.Errorf("%v: UnzipVector(%v) = %v, %d", x, u, v, code)
	}
	if v, code := impl.SandwichOf(x.pair, u); v != (impl.Vector{}) || code != impl.ErrInvalid {
		t.Errorf("%v: SandwichOf(%v) = %v, %d", x, u, v, code)
	}
	if number, code := impl.AnnulusNumber(x.pair, u, w); number != 0 || code != impl.ErrInvalid {
		t.Errorf("%v: AnnulusNumber of %v and %v = %d, %d", x, u, w, number, code)
	}
	if number, code := impl.AnnulusNumber(x.pair, w, u); number != 0 || code != impl.ErrInvalid {
		t.Errorf("%v: AnnulusNumber of %v and %v = %d, %d", x, w, u, number, code)
	}
}

// TestNoPairs checks what is no pair because of one condition alone, for each prime.
func TestNoPairs(t *testing.T) {
	for _, p := range primes {
		list := noPairs(t, p)
		for _, condition := range pairConditions[2:] {
			if len(list[condition]) < 3 {
				t.Errorf("there are %d where not %s", len(list[condition]), condition)
			}
			for _, x := range list[condition] {
				if faults := pairFaults(x.pair); !slices.Equal(faults, []string{condition}) {
					t.Errorf("%v: of %s alone, %v do not hold", x, condition, faults)
				}
				checkNoPair(t, x)
			}
		}
	}
}

// TestNoAlgebrasInPairs checks pairs with what is no algebra.
func TestNoAlgebrasInPairs(t *testing.T) {
	checkNoPair(t, paired{"zero value", impl.Pair{}})
	for why, a := range brokenAlgebras(t) {
		for _, x := range []paired{plainMatrixPair(t, 5, 2), plainGroupPair(t, 5, knownGroup(t, "s3")), pairOf("field", named(t, "field", 5), named(t, "field", 5), impl.Vector{1})} {
			closed, open, both := x, x, pairOf("both", a, a, imagesOf(x.pair)...)
			closed.why, open.why = why+" as Closed", why+" as Open"
			closed.pair.Closed, open.pair.Open = a, a
			for _, y := range []paired{closed, open, both, pairOf(why, a, a), pairOf(why, a, a, basisAt(0, 1, 2, 3, 4, 5)...)} {
				checkNoPair(t, y)
			}
		}
		checkNoPair(t, pairOf(why, a, named(t, "dual", 5), basisAt(0, 1)...))
		checkNoPair(t, pairOf(why, named(t, "dual", 5), a, basisAt(0, 1)...))
	}
}

// TestChangedPairs checks pairs with one number of an image, a form or a table changed.
func TestChangedPairs(t *testing.T) {
	counts := map[bool]int{}
	check := func(x paired, change func(y *impl.Pair)) {
		change(&x.pair)
		want := isPlainPair(x.pair)
		if yes := impl.IsPair(x.pair); yes != want {
			t.Errorf("%v, changed: IsPair is %v", x, yes)
		}
		counts[want]++
	}
	for n, x := range fewPairs(t, 37) {
		closed, open := x.pair.Closed, x.pair.Open
		add := func(number *byte, p int64) { *number = byte((int64(*number) + 1 + int64(n)%(p-1)) % p) }
		for i := range closed.Size {
			check(x, func(y *impl.Pair) { add(&y.Closed.Form[i], closed.Prime) })
			for k := range open.Size {
				check(x, func(y *impl.Pair) { add(&y.Zip[i][k], open.Prime) })
			}
			check(x, func(y *impl.Pair) { add(&y.Closed.Table[i][(i+1)%closed.Size][i], closed.Prime) })
		}
		for i := range open.Size {
			check(x, func(y *impl.Pair) { add(&y.Open.Form[i], open.Prime) })
			check(x, func(y *impl.Pair) { add(&y.Open.Table[i][(i+1)%open.Size][i], open.Prime) })
		}
	}
	if counts[true] < 300 || counts[false] < 1000 {
		t.Errorf("pairs or not: %v", counts)
	}
}

// TestNumbersOfImages checks all numbers at all places of the images of some pairs.
func TestNumbersOfImages(t *testing.T) {
	for _, x := range []paired{
		pairOf("field", named(t, "field", 2), named(t, "field", 2), impl.Vector{1}), plainMatrixPair(t, 13, 5),
		toItself(t, "pair", named(t, "pair", 3), impl.Vector{1, 2}), byPowers(t, "dual", []int64{0, 0, 1}, named(t, "dual", 5), basis(1)),
	} {
		for i := range x.pair.Zip {
			for k := range x.pair.Zip[i] {
				for number := range 256 {
					y := x
					y.pair.Zip[i][k] = byte(number)
					if yes := impl.IsPair(y.pair); yes != isPlainPair(y.pair) {
						t.Errorf("%v, with %d at %d, %d: IsPair is %v", y, number, i, k, yes)
					}
				}
			}
		}
	}
}

// TestVectorsOfPairs checks vectors that are none of the algebra in question, and those of the other one.
func TestVectorsOfPairs(t *testing.T) {
	samples := append(fewPairs(t, 97), plainMatrixPair(t, 5, 1), withMore(t, plainMatrixPair(t, 5, 1), named(t, "cyclic3", 5)),
		withMore(t, scalars(t, "field", 1, named(t, "field", 7)), named(t, "cyclic3", 7)))
	for _, x := range samples {
		good := append(drawnVectors(x.pair.Open, 2), impl.Vector{})
		for i, v := range noVectors(x.pair.Open) {
			checkNoVectors(t, x, v, good[i%3])
			checkNoVectors(t, x, v, v)
		}
		for _, v := range noVectors(x.pair.Closed) {
			if w, code := impl.ZipVector(x.pair, v); w != (impl.Vector{}) || code != impl.ErrInvalid {
				t.Errorf("%v: ZipVector(%v) = %v, %d", x, v, w, code)
			}
		}
		for k := range int64(6) {
			_, zipped := impl.ZipVector(x.pair, basis(k))
			_, unzipped := impl.UnzipVector(x.pair, basis(k))
			_, between := impl.SandwichOf(x.pair, basis(k))
			_, around := impl.AnnulusNumber(x.pair, impl.Vector{}, basis(k))
			closed, open := k < x.pair.Closed.Size, k < x.pair.Open.Size
			if (zipped == impl.ErrNone) != closed || (unzipped == impl.ErrNone) != open || (between == impl.ErrNone) != open || (around == impl.ErrNone) != open {
				t.Errorf("%v: e(%d) has the codes %d, %d, %d and %d", x, k, zipped, unzipped, between, around)
			}
		}
	}
}
