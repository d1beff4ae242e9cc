package tests

import (
	"testing"

	"loop.example/g01267/impl"
)

// basis returns e(i).
func basis(i int64) impl.Vector {
	var e impl.Vector
	e[i] = 1
	return e
}

// isPlainUnit looks at the products with the basis.
func isPlainUnit(a impl.Algebra, unit impl.Vector) bool {
	for i := range a.Size {
		if plainProduct(a, unit, basis(i)) != basis(i) || plainProduct(a, basis(i), unit) != basis(i) {
			return false
		}
	}
	return true
}

// drawnVectors returns count vectors of an algebra, drawn one after the other.
func drawnVectors(a impl.Algebra, count int) []impl.Vector {
	list := make([]impl.Vector, count)
	state := int64(7 + 1000*a.Prime + 10*a.Size)
	for i := range list {
		for k := range a.Size {
			state = (state*1103515245 + 12345) % (1 << 31)
			list[i][k] = byte(state / 65536 % a.Prime)
		}
	}
	return list
}

// plainFormTable is the form table straight from the definition.
func plainFormTable(a impl.Algebra) [][]int64 {
	var table [][]int64
	for i := range a.Size {
		row := make([]int64, a.Size)
		for j := range row {
			row[j] = plainForm(a, plainProduct(a, basis(i), basis(int64(j))))
		}
		table = append(table, row)
	}
	return table
}

// isPlainFrobenius tells whether the form table has a determinant.
func isPlainFrobenius(a impl.Algebra) bool {
	var rows []impl.Vector
	for _, numbers := range plainFormTable(a) {
		var row impl.Vector
		for j, number := range numbers {
			row[j] = byte(number)
		}
		rows = append(rows, row)
	}
	return plainDeterminant(a, rows, 0, 0) != 0
}

func isPlainCommutative(a impl.Algebra) bool {
	for i := range a.Size {
		for j := range a.Size {
			if plainProduct(a, basis(i), basis(j)) != plainProduct(a, basis(j), basis(i)) {
				return false
			}
		}
	}
	return true
}

// plainChange is the change of form straight from the definition.
func plainChange(a impl.Algebra, u impl.Vector) impl.Algebra {
	changed := a
	for i := range a.Size {
		changed.Form[i] = byte(plainForm(a, plainProduct(a, u, basis(i))))
	}
	return changed
}

// quantumPlane has 1, x, y, x y as its basis, with x x = y y = 0 and y x = 2 x y; its form takes the
// number of x y, and is not symmetric.
func quantumPlane(t *testing.T) impl.Algebra {
	t.Helper()
	return parsed(t, "5:4:1000,0100,0010,0001,0100,0000,0001,0000,0010,0002,0000,0000,0001,0000,0000,0000:0001")
}

// formSamples returns the samples of chapter 1, the quantum plane, and the changes of form of them
// all by the first invertible vectors that are drawn.
func formSamples(t *testing.T) []impl.Algebra {
	t.Helper()
	plane := quantumPlane(t)
	samples := append(sampleAlgebras(t), plane, oppositeOf(t, plane), sumOf(t, plane, named(t, "dual", 5)))
	for _, a := range samples {
		for _, u := range drawnVectors(a, 12) {
			if isPlainInvertible(a, u) && u != unitOf(t, a) {
				samples = append(samples, plainChange(a, u))
				break
			}
		}
	}
	return samples
}

// thatAre returns those of the samples that fit.
func thatAre(fit func(a impl.Algebra) bool, samples []impl.Algebra) []impl.Algebra {
	var list []impl.Algebra
	for _, a := range samples {
		if fit(a) {
			list = append(list, a)
		}
	}
	return list
}

// frobeniusSamples returns the samples that are Frobenius.
func frobeniusSamples(t *testing.T) []impl.Algebra {
	t.Helper()
	return thatAre(isPlainFrobenius, formSamples(t))
}

// countingSamples returns the samples that are Frobenius and commutative.
func countingSamples(t *testing.T) []impl.Algebra {
	t.Helper()
	return thatAre(isPlainCommutative, frobeniusSamples(t))
}

func TestFormSamples(t *testing.T) {
	all, frobenius, counting, skew := formSamples(t), frobeniusSamples(t), countingSamples(t), 0
	for _, a := range frobenius {
		if !impl.IsAlgebra(a) {
			t.Errorf("%v is no algebra", a)
		}
		if table := plainFormTable(a); !sameTables(table, turned(table)) {
			skew++
		}
	}
	if len(all)-len(frobenius) < 5 || len(frobenius)-len(counting) < 30 || len(counting) < 90 || skew < 20 {
		t.Errorf("of %d samples %d are Frobenius, %d also commutative, and %d have forms that are not symmetric",
			len(all), len(frobenius), len(counting), skew)
	}
}

func sameTables(a, b [][]int64) bool {
	if len(a) != len(b) {
		return false
	}
	for i := range a {
		if len(a[i]) != len(b[i]) {
			return false
		}
		for j := range a[i] {
			if a[i][j] != b[i][j] {
				return false
			}
		}
	}
	return true
}

func turned(table [][]int64) [][]int64 {
	result := make([][]int64, len(table))
	for i := range table {
		for j := range table {
			result[i] = append(result[i], table[j][i])
		}
	}
	return result
}

// isTable tells whether a table has the Size as both of its sizes, and numbers modulo the prime.
func isTable(a impl.Algebra, table [][]int64) bool {
	if int64(len(table)) != a.Size {
		return false
	}
	for _, row := range table {
		if int64(len(row)) != a.Size {
			return false
		}
		for _, number := range row {
			if number < 0 || number >= a.Prime {
				return false
			}
		}
	}
	return true
}

// areVectorsOf tells whether there are as many vectors as the Size, with numbers modulo the prime
// and 0 behind them.
func areVectorsOf(a impl.Algebra, list []impl.Vector) bool {
	if int64(len(list)) != a.Size {
		return false
	}
	for _, v := range list {
		for i, number := range v {
			if int64(number) >= a.Prime || int64(i) >= a.Size && number != 0 {
				return false
			}
		}
	}
	return true
}

func copairingOf(t *testing.T, a impl.Algebra) [][]int64 {
	t.Helper()
	table, code := impl.CopairingOf(a)
	if code != impl.ErrNone || !isTable(a, table) {
		t.Fatalf("CopairingOf(%v) = %v, %d", a, table, code)
	}
	return table
}

func dualBasisOf(t *testing.T, a impl.Algebra) []impl.Vector {
	t.Helper()
	list, code := impl.DualBasis(a)
	if code != impl.ErrNone || !areVectorsOf(a, list) {
		t.Fatalf("DualBasis(%v) = %v, %d", a, list, code)
	}
	return list
}

func coproductOf(t *testing.T, a impl.Algebra, v impl.Vector) [][]int64 {
	t.Helper()
	table, code := impl.CoproductOf(a, v)
	if code != impl.ErrNone || !isTable(a, table) {
		t.Fatalf("CoproductOf(%v, %v) = %v, %d", a, v, table, code)
	}
	return table
}

func handleOf(t *testing.T, a impl.Algebra) impl.Vector {
	t.Helper()
	handle, code := impl.HandleOf(a)
	if code != impl.ErrNone {
		t.Fatalf("HandleOf(%v): code %d", a, code)
	}
	return handle
}

func changeOf(t *testing.T, a impl.Algebra, u impl.Vector) impl.Algebra {
	t.Helper()
	changed, code := impl.ChangeForm(a, u)
	if code != impl.ErrNone {
		t.Fatalf("ChangeForm(%v, %v): code %d", a, u, code)
	}
	return changed
}

func TestFormTables(t *testing.T) {
	for _, a := range formSamples(t) {
		if table, code := impl.FormTable(a); !sameTables(table, plainFormTable(a)) || code != impl.ErrNone {
			t.Errorf("FormTable(%v) = %v, %d", a, table, code)
		}
	}
	table, code := impl.FormTable(quantumPlane(t))
	if want := [][]int64{{0, 0, 0, 1}, {0, 0, 1, 0}, {0, 2, 0, 0}, {1, 0, 0, 0}}; !sameTables(table, want) || code != impl.ErrNone {
		t.Errorf("FormTable of the quantum plane = %v, %d", table, code)
	}
	table, code = impl.FormTable(parsed(t, "11:1:1:0"))
	if !sameTables(table, [][]int64{{0}}) || code != impl.ErrNone {
		t.Errorf("FormTable with the form 0 = %v, %d", table, code)
	}
}

// Promise 2: copairings make of the form the same vector, from both sides.
func TestCopairings(t *testing.T) {
	for _, a := range frobeniusSamples(t) {
		table := copairingOf(t, a)
		vectors := drawnVectors(a, 5)
		for i := range a.Size {
			vectors = append(vectors, basis(i))
		}
		for _, v := range vectors {
			var right, left impl.Vector
			for i := range a.Size {
				for j := range a.Size {
					right = plainSum(a, right, basis(j), table[i][j]*plainForm(a, plainProduct(a, v, basis(i))))
					left = plainSum(a, left, basis(i), table[i][j]*plainForm(a, plainProduct(a, basis(j), v)))
				}
			}
			if right != v || left != v {
				t.Errorf("CopairingOf(%v) = %v makes of %v %v and %v", a, table, v, right, left)
			}
		}
	}
	plane := copairingOf(t, quantumPlane(t))
	if want := [][]int64{{0, 0, 0, 1}, {0, 0, 3, 0}, {0, 1, 0, 0}, {1, 0, 0, 0}}; !sameTables(plane, want) {
		t.Errorf("CopairingOf the quantum plane = %v", plane)
	}
}

func TestDualBases(t *testing.T) {
	for _, a := range frobeniusSamples(t) {
		list := dualBasisOf(t, a)
		for i := range a.Size {
			for j, f := range list {
				want := int64(0)
				if int64(j) == i {
					want = 1
				}
				if plainForm(a, plainProduct(a, basis(i), f)) != want {
					t.Errorf("DualBasis(%v) = %v is wrong at %d, %d", a, list, i, j)
				}
			}
		}
	}
	plane := dualBasisOf(t, quantumPlane(t))
	if want := []impl.Vector{{0, 0, 0, 1}, {0, 0, 1}, {0, 3}, {1}}; !sameVectors(plane, want) {
		t.Errorf("DualBasis of the quantum plane = %v", plane)
	}
	matrix := dualBasisOf(t, named(t, "matrix", 7))
	if want := []impl.Vector{{1}, {0, 0, 1}, {0, 1}, {0, 0, 0, 1}}; !sameVectors(matrix, want) {
		t.Errorf("DualBasis of matrix = %v", matrix)
	}
}

// plainCoproduct is the coproduct straight from the definition.
func plainCoproduct(a impl.Algebra, copairing [][]int64, v impl.Vector) [][]int64 {
	table := make([][]int64, a.Size)
	for i := range table {
		table[i] = make([]int64, a.Size)
		for k := range a.Size {
			number := int64(plainProduct(a, v, basis(k))[i])
			for l := range table[i] {
				table[i][l] = (table[i][l] + copairing[k][l]*number) % a.Prime
			}
		}
	}
	return table
}

// plainHandle is the handle element straight from the definition.
func plainHandle(a impl.Algebra, copairing [][]int64) impl.Vector {
	var sum impl.Vector
	for k := range a.Size {
		for l := range a.Size {
			sum = plainSum(a, sum, plainProduct(a, basis(k), basis(l)), copairing[k][l])
		}
	}
	return sum
}

func TestCoproducts(t *testing.T) {
	for _, a := range frobeniusSamples(t) {
		copairing := copairingOf(t, a)
		for _, v := range append(drawnVectors(a, 3), impl.Vector{}, unitOf(t, a)) {
			table := coproductOf(t, a, v)
			if !sameTables(table, plainCoproduct(a, copairing, v)) {
				t.Errorf("CoproductOf(%v, %v) = %v", a, v, table)
			}
			checkFormsOfCoproduct(t, a, v, table)
		}
		if unit := coproductOf(t, a, unitOf(t, a)); !sameTables(unit, copairing) {
			t.Errorf("CoproductOf(%v, unit) = %v", a, unit)
		}
	}
	plane := coproductOf(t, quantumPlane(t), impl.Vector{0, 1})
	if want := [][]int64{{0, 0, 0, 0}, {0, 0, 0, 1}, {0, 0, 0, 0}, {0, 1, 0, 0}}; !sameTables(plane, want) {
		t.Errorf("CoproductOf(x) in the quantum plane = %v", plane)
	}
}

// checkFormsOfCoproduct checks that the form at either side of a coproduct of v leaves v.
func checkFormsOfCoproduct(t *testing.T, a impl.Algebra, v impl.Vector, table [][]int64) {
	t.Helper()
	var first, second impl.Vector
	for i := range a.Size {
		for j := range a.Size {
			first = plainSum(a, first, basis(j), table[i][j]*plainForm(a, basis(i)))
			second = plainSum(a, second, basis(i), table[i][j]*plainForm(a, basis(j)))
		}
	}
	if first != v || second != v {
		t.Errorf("CoproductOf(%v, %v) = %v has the forms %v and %v", a, v, table, first, second)
	}
}

// TestCoproductsOfProducts checks that v at the left of what stands for the first place, and w at
// the right of what stands for the second one, tell the coproduct of v w.
func TestCoproductsOfProducts(t *testing.T) {
	for _, a := range frobeniusSamples(t) {
		list := drawnVectors(a, 6)
		for i := 0; i < len(list); i += 2 {
			v, w := list[i], list[i+1]
			whole := coproductOf(t, a, plainProduct(a, v, w))
			first, second := turned(coproductOf(t, a, w)), coproductOf(t, a, v)
			for k := range a.Size {
				first[k] = numbersOf(a, plainProduct(a, v, vectorFrom(first[k])))
				second[k] = numbersOf(a, plainProduct(a, vectorFrom(second[k]), w))
			}
			if !sameTables(whole, turned(first)) || !sameTables(whole, second) {
				t.Errorf("%v: the coproduct of the product of %v and %v is %v", a, v, w, whole)
			}
		}
	}
}

func vectorFrom(numbers []int64) impl.Vector {
	var v impl.Vector
	for i, number := range numbers {
		v[i] = byte(number)
	}
	return v
}

func numbersOf(a impl.Algebra, v impl.Vector) []int64 {
	var numbers []int64
	for _, number := range v[:a.Size] {
		numbers = append(numbers, int64(number))
	}
	return numbers
}

// Promise 12: handle elements are products of coproducts of the unit.
func TestHandles(t *testing.T) {
	for _, a := range frobeniusSamples(t) {
		handle := handleOf(t, a)
		unit := unitOf(t, a)
		if !isPlainUnit(a, unit) || handle != plainHandle(a, coproductOf(t, a, unit)) {
			t.Errorf("HandleOf(%v) = %v is not the product of the coproduct of the unit", a, handle)
		}
		if handle != plainHandle(a, copairingOf(t, a)) {
			t.Errorf("HandleOf(%v) = %v", a, handle)
		}
		if handle != handleOf(t, oppositeOf(t, a)) {
			t.Errorf("HandleOf the opposite of %v is not %v", a, handle)
		}
	}
	if handle := handleOf(t, quantumPlane(t)); handle != (impl.Vector{0, 0, 0, 2}) {
		t.Errorf("HandleOf the quantum plane = %v", handle)
	}
}

func TestHandlesOfNames(t *testing.T) {
	for _, p := range primes {
		handles := map[string]impl.Vector{
			"field":     {1},
			"dual":      {0, byte(2 % p)},
			"pair":      {1, 1},
			"cyclic3":   {byte(3 % p)},
			"symmetric": {byte(6 % p)},
			"matrix":    {byte(2 % p), 0, 0, byte(2 % p)},
		}
		for name, want := range handles {
			if handle := handleOf(t, named(t, name, p)); handle != want {
				t.Errorf("HandleOf(%s, %d) = %v", name, p, handle)
			}
		}
	}
}

func TestHandlesOfSums(t *testing.T) {
	for _, two := range partners(t) {
		a, b := two[0], two[1]
		if !isPlainFrobenius(a) || !isPlainFrobenius(b) {
			continue
		}
		if a.Size+b.Size <= 6 {
			want := handleOf(t, a)
			second := handleOf(t, b)
			copy(want[a.Size:], second[:b.Size])
			if handle := handleOf(t, sumOf(t, a, b)); handle != want {
				t.Errorf("HandleOf the sum of %v and %v = %v", a, b, handle)
			}
		}
		if a.Size*b.Size <= 6 {
			first, second := handleOf(t, a), handleOf(t, b)
			handle := handleOf(t, tensorOf(t, a, b))
			for k := range a.Size * b.Size {
				if int64(handle[k]) != int64(first[k/b.Size])*int64(second[k%b.Size])%a.Prime {
					t.Errorf("HandleOf the tensor product of %v and %v = %v", a, b, handle)
				}
			}
		}
	}
}

func TestIsInvertible(t *testing.T) {
	answers := map[bool]int{}
	for _, a := range formSamples(t) {
		for _, v := range append(someVectors(a)[:min(12, countVectors(a))], drawnVectors(a, 5)...) {
			yes, code := impl.IsInvertible(a, v)
			if yes != isPlainInvertible(a, v) || code != impl.ErrNone {
				t.Errorf("IsInvertible(%v, %v) = %v, %d", a, v, yes, code)
			}
			answers[yes]++
		}
		if yes, code := impl.IsInvertible(a, unitOf(t, a)); !yes || code != impl.ErrNone {
			t.Errorf("IsInvertible(%v, unit) = %v, %d", a, yes, code)
		}
		if yes, code := impl.IsInvertible(a, impl.Vector{}); yes || code != impl.ErrNone {
			t.Errorf("IsInvertible(%v, 0) = %v, %d", a, yes, code)
		}
	}
	if answers[true] < 100 || answers[false] < 100 {
		t.Errorf("there are too few answers: %v", answers)
	}
}

func TestPairVectors(t *testing.T) {
	for _, a := range formSamples(t) {
		list := drawnVectors(a, 6)
		for _, u := range list {
			for _, v := range list {
				n, code := impl.PairVectors(a, u, v)
				if n != plainForm(a, plainProduct(a, u, v)) || code != impl.ErrNone {
					t.Errorf("PairVectors(%v, %v, %v) = %d, %d", a, u, v, n, code)
				}
			}
		}
	}
	plane, x, y := quantumPlane(t), impl.Vector{0, 1}, impl.Vector{0, 0, 1}
	if n, code := impl.PairVectors(plane, x, y); n != 1 || code != impl.ErrNone {
		t.Errorf("PairVectors(x, y) = %d, %d", n, code)
	}
	if n, code := impl.PairVectors(plane, y, x); n != 2 || code != impl.ErrNone {
		t.Errorf("PairVectors(y, x) = %d, %d", n, code)
	}
}

func TestChangesOfForm(t *testing.T) {
	for _, a := range frobeniusSamples(t) {
		for _, u := range append(drawnVectors(a, 8), unitOf(t, a), impl.Vector{}) {
			if !isPlainInvertible(a, u) {
				if b, code := impl.ChangeForm(a, u); b != (impl.Algebra{}) || code != impl.ErrState {
					t.Errorf("ChangeForm(%v, %v) = %v, %d", a, u, b, code)
				}
				continue
			}
			b := changeOf(t, a, u)
			if b != plainChange(a, u) || !impl.IsAlgebra(b) || !isPlainFrobenius(b) {
				t.Errorf("ChangeForm(%v, %v) = %v", a, u, b)
			}
			for _, v := range drawnVectors(a, 4) {
				if plainForm(b, v) != plainForm(a, plainProduct(a, u, v)) {
					t.Errorf("ChangeForm(%v, %v) has the form %v", a, u, b.Form)
				}
			}
			inverse, _ := impl.InverseVector(a, u)
			if changeOf(t, b, inverse) != a {
				t.Errorf("ChangeForm(%v, %v) is not undone by %v", a, u, inverse)
			}
		}
		if changeOf(t, a, unitOf(t, a)) != a {
			t.Errorf("ChangeForm(%v, unit) is another one", a)
		}
	}
	// The form of (1 + x) y is 1, that of y (1 + x) is 2.
	if plane := changeOf(t, quantumPlane(t), impl.Vector{1, 1}); plane.Form != (impl.Vector{0, 0, 1, 1}) {
		t.Errorf("ChangeForm of the quantum plane has the form %v", plane.Form)
	}
}

// TestHandlesOfChanges checks that a change of form by u divides handle elements by u if products
// do not depend on the order.
func TestHandlesOfChanges(t *testing.T) {
	for _, a := range countingSamples(t) {
		for _, u := range drawnVectors(a, 8) {
			if isPlainInvertible(a, u) && plainProduct(a, u, handleOf(t, changeOf(t, a, u))) != handleOf(t, a) {
				t.Errorf("HandleOf the change of %v by %v is %v", a, u, handleOf(t, changeOf(t, a, u)))
			}
		}
	}
}

func nakayamaOf(t *testing.T, a impl.Algebra) []impl.Vector {
	t.Helper()
	list, code := impl.NakayamaOf(a)
	if code != impl.ErrNone || !areVectorsOf(a, list) {
		t.Fatalf("NakayamaOf(%v) = %v, %d", a, list, code)
	}
	return list
}

// imageOf returns what the linear map with these images of the basis makes of v.
func imageOf(a impl.Algebra, images []impl.Vector, v impl.Vector) impl.Vector {
	var image impl.Vector
	for i, w := range images {
		image = plainSum(a, image, w, int64(v[i]))
	}
	return image
}

func TestNakayamaMaps(t *testing.T) {
	for _, a := range frobeniusSamples(t) {
		images := nakayamaOf(t, a)
		fixed := true
		for i := range a.Size {
			fixed = fixed && images[i] == basis(i)
			for k := range a.Size {
				if plainForm(a, plainProduct(a, basis(i), basis(k))) != plainForm(a, plainProduct(a, basis(k), images[i])) {
					t.Errorf("NakayamaOf(%v) = %v is wrong at %d, %d", a, images, i, k)
				}
			}
		}
		table := plainFormTable(a)
		if fixed != sameTables(table, turned(table)) {
			t.Errorf("NakayamaOf(%v) = %v, with the form table %v", a, images, table)
		}
		list := drawnVectors(a, 2)
		whole := plainProduct(a, imageOf(a, images, list[0]), imageOf(a, images, list[1]))
		if imageOf(a, images, plainProduct(a, list[0], list[1])) != whole || imageOf(a, images, unitOf(t, a)) != unitOf(t, a) {
			t.Errorf("NakayamaOf(%v) = %v does not go along with products", a, images)
		}
	}
	plane := nakayamaOf(t, quantumPlane(t))
	if want := []impl.Vector{{1}, {0, 3}, {0, 0, 2}, {0, 0, 0, 1}}; !sameVectors(plane, want) {
		t.Errorf("NakayamaOf the quantum plane = %v", plane)
	}
}

// TestNakayamaOfChanges checks that a change by u of a symmetric form has the map that makes of v
// what u v is, divided by u from the right.
func TestNakayamaOfChanges(t *testing.T) {
	for _, p := range primes {
		for _, name := range []string{"matrix", "symmetric"} {
			a := named(t, name, p)
			for _, u := range drawnVectors(a, 10) {
				inverse, code := impl.InverseVector(a, u)
				if code != impl.ErrNone {
					continue
				}
				for i, image := range nakayamaOf(t, changeOf(t, a, u)) {
					if image != plainProduct(a, plainProduct(a, u, basis(int64(i))), inverse) {
						t.Errorf("NakayamaOf(%s, %d, changed by %v) makes of e(%d) %v", name, p, u, i, image)
					}
				}
			}
		}
	}
}

func plainTrace(a impl.Algebra, v impl.Vector) int64 {
	sum := int64(0)
	for i := range a.Size {
		sum += int64(plainProduct(a, v, basis(i))[i])
	}
	return sum % a.Prime
}

func TestTraces(t *testing.T) {
	for _, a := range formSamples(t) {
		for _, v := range append(drawnVectors(a, 6), impl.Vector{}) {
			if n, code := impl.TraceOf(a, v); n != plainTrace(a, v) || code != impl.ErrNone {
				t.Errorf("TraceOf(%v, %v) = %d, %d", a, v, n, code)
			}
		}
		if n, code := impl.TraceOf(a, unitOf(t, a)); n != a.Size%a.Prime || code != impl.ErrNone {
			t.Errorf("TraceOf(%v, unit) = %d, %d", a, n, code)
		}
	}
	// Upper triangular matrices: the first place stays two places at the left, and one at the right.
	upper := parsed(t, "5:3:100,010,000,000,000,010,000,000,001:101")
	if n, code := impl.TraceOf(upper, impl.Vector{1}); n != 2 || code != impl.ErrNone {
		t.Errorf("TraceOf(upper, e(0)) = %d, %d", n, code)
	}
	if n, code := impl.TraceOf(upper, impl.Vector{0, 0, 1}); n != 1 || code != impl.ErrNone {
		t.Errorf("TraceOf(upper, e(2)) = %d, %d", n, code)
	}
}

// Promise 12: traces of commutative algebras are forms with the handle element.
func TestTracesOfCommutative(t *testing.T) {
	for _, a := range countingSamples(t) {
		handle := handleOf(t, a)
		for _, v := range drawnVectors(a, 10) {
			trace, code := impl.TraceOf(a, v)
			if paired, more := impl.PairVectors(a, handle, v); trace != paired || code != impl.ErrNone || more != impl.ErrNone {
				t.Errorf("%v: TraceOf(%v) = %d, %d, and the form with the handle element is %d, %d", a, v, trace, code, paired, more)
			}
		}
	}
}

// Promise 2: genus numbers of 1 are the Size.
func TestGenusNumbersOfOne(t *testing.T) {
	for _, a := range countingSamples(t) {
		if n, code := impl.GenusNumber(a, 1); n != a.Size%a.Prime || code != impl.ErrNone {
			t.Errorf("GenusNumber(%v, 1) = %d, %d", a, n, code)
		}
	}
}

func TestGenusNumbers(t *testing.T) {
	for _, a := range countingSamples(t) {
		handle, whole := handleOf(t, a), unitOf(t, a)
		for g := range int64(31) {
			n, code := impl.GenusNumber(a, g)
			if n != plainForm(a, whole) || code != impl.ErrNone {
				t.Errorf("GenusNumber(%v, %d) = %d, %d", a, g, n, code)
			}
			if legs, code := impl.LegNumber(a, g, nil); legs != n || code != impl.ErrNone {
				t.Errorf("LegNumber(%v, %d) without vectors = %d, %d", a, g, legs, code)
			}
			whole = plainProduct(a, whole, handle)
		}
	}
}

func TestGenusNumbersOfNames(t *testing.T) {
	for _, p := range primes {
		power := int64(1)
		for g := range int64(31) {
			dual := int64(0)
			if g == 1 {
				dual = 2 % p
			}
			wants := map[string]int64{"field": 1, "dual": dual, "pair": 2 % p, "cyclic3": power}
			for name, want := range wants {
				if n, code := impl.GenusNumber(named(t, name, p), g); n != want || code != impl.ErrNone {
					t.Errorf("GenusNumber(%s, %d, %d) = %d, %d", name, p, g, n, code)
				}
			}
			power = power * 3 % p
		}
	}
	// The unit is 6 e(0), and the handle element 10 e(0).
	small := parsed(t, "11:1:2:a")
	for g, want := range []int64{5, 1, 9} {
		if n, code := impl.GenusNumber(small, int64(g)); n != want || code != impl.ErrNone {
			t.Errorf("GenusNumber(%v, %d) = %d, %d", small, g, n, code)
		}
	}
}

func TestLegNumbers(t *testing.T) {
	for _, a := range countingSamples(t) {
		handle, drawn := handleOf(t, a), drawnVectors(a, 6)
		for _, g := range []int64{0, 1, 2, 7, 30} {
			whole := unitOf(t, a)
			for range g {
				whole = plainProduct(a, whole, handle)
			}
			for k := range 7 {
				n, code := impl.LegNumber(a, g, drawn[:k])
				if n != plainForm(a, whole) || code != impl.ErrNone {
					t.Errorf("LegNumber(%v, %d, %v) = %d, %d", a, g, drawn[:k], n, code)
				}
				if k < 6 {
					whole = plainProduct(a, whole, drawn[k])
				}
			}
		}
		list := []impl.Vector{handle, drawn[0], drawn[1]}
		first, _ := impl.LegNumber(a, 2, list)
		list[0], list[2] = list[2], list[0]
		second, _ := impl.LegNumber(a, 2, list)
		third, _ := impl.LegNumber(a, 3, drawn[:2])
		if first != second || first != third {
			t.Errorf("LegNumber(%v, 2, %v): %d, %d, %d", a, list, first, second, third)
		}
	}
	dual, x := named(t, "dual", 7), impl.Vector{0, 1}
	if n, code := impl.LegNumber(dual, 0, []impl.Vector{x, {3, 5}}); n != 3 || code != impl.ErrNone {
		t.Errorf("LegNumber(dual, 0, x, 3 + 5 x) = %d, %d", n, code)
	}
}

// checkFormsInvalid checks all functions of chapter 2 with an algebra and a vector, one of which is
// invalid; also with numbers and lists out of their ranges, as ErrInvalid comes first.
func checkFormsInvalid(t *testing.T, why string, a impl.Algebra, v impl.Vector) {
	t.Helper()
	if x, code := impl.CoproductOf(a, v); len(x) != 0 || code != impl.ErrInvalid {
		t.Errorf("%s: CoproductOf = %v, %d", why, x, code)
	}
	if yes, code := impl.IsInvertible(a, v); yes || code != impl.ErrInvalid {
		t.Errorf("%s: IsInvertible = %v, %d", why, yes, code)
	}
	for _, two := range [][2]impl.Vector{{v, v}, {v, {1}}, {{1}, v}} {
		if n, code := impl.PairVectors(a, two[0], two[1]); n != 0 || code != impl.ErrInvalid {
			t.Errorf("%s: PairVectors = %d, %d", why, n, code)
		}
	}
	if b, code := impl.ChangeForm(a, v); b != (impl.Algebra{}) || code != impl.ErrInvalid {
		t.Errorf("%s: ChangeForm = %v, %d", why, b, code)
	}
	if n, code := impl.TraceOf(a, v); n != 0 || code != impl.ErrInvalid {
		t.Errorf("%s: TraceOf = %d, %d", why, n, code)
	}
	for _, g := range []int64{0, 1, 30, 31, -1, 1 << 62, -1 << 63} {
		for _, list := range [][]impl.Vector{{v}, {{1}, {1}, v}, {{1}, {}, {}, {}, {}, v}, {{1}, {}, {}, {}, {}, {}, v}, {v, {}, {}, {}, {}, {}, {}}} {
			if n, code := impl.LegNumber(a, g, list); n != 0 || code != impl.ErrInvalid {
				t.Errorf("%s: LegNumber(%d, %v) = %d, %d", why, g, list, n, code)
			}
		}
	}
}

func TestFormsOfBrokenAlgebras(t *testing.T) {
	for why, a := range brokenAlgebras(t) {
		checkFormsInvalid(t, why, a, impl.Vector{})
		checkFormsInvalid(t, why, a, impl.Vector{1})
		if x, code := impl.FormTable(a); len(x) != 0 || code != impl.ErrInvalid {
			t.Errorf("%s: FormTable = %v, %d", why, x, code)
		}
		if x, code := impl.CopairingOf(a); len(x) != 0 || code != impl.ErrInvalid {
			t.Errorf("%s: CopairingOf = %v, %d", why, x, code)
		}
		if x, code := impl.DualBasis(a); len(x) != 0 || code != impl.ErrInvalid {
			t.Errorf("%s: DualBasis = %v, %d", why, x, code)
		}
		if x, code := impl.HandleOf(a); x != (impl.Vector{}) || code != impl.ErrInvalid {
			t.Errorf("%s: HandleOf = %v, %d", why, x, code)
		}
		if x, code := impl.NakayamaOf(a); len(x) != 0 || code != impl.ErrInvalid {
			t.Errorf("%s: NakayamaOf = %v, %d", why, x, code)
		}
		for _, g := range []int64{0, 1, 30, 31, -1, 1 << 62, -1 << 63} {
			if n, code := impl.GenusNumber(a, g); n != 0 || code != impl.ErrInvalid {
				t.Errorf("%s: GenusNumber(%d) = %d, %d", why, g, n, code)
			}
			if n, code := impl.LegNumber(a, g, nil); n != 0 || code != impl.ErrInvalid {
				t.Errorf("%s: LegNumber(%d) = %d, %d", why, g, n, code)
			}
		}
	}
}

// TestFormsOfBadVectors checks that what is no vector is told before what is not Frobenius.
func TestFormsOfBadVectors(t *testing.T) {
	dual := named(t, "dual", 5)
	flat := dual
	flat.Form = impl.Vector{1}
	for _, v := range badVectors() {
		checkFormsInvalid(t, "bad vector of dual", dual, v)
		checkFormsInvalid(t, "bad vector of flat", flat, v)
	}
	checkFormsInvalid(t, "bad vector of matrix", named(t, "matrix", 5), impl.Vector{0, 0, 0, 0, 1})
}

// checkNotFrobenius checks that all functions return ErrState, but those that answer all the same.
func checkNotFrobenius(t *testing.T, a impl.Algebra) {
	t.Helper()
	if x, code := impl.CopairingOf(a); len(x) != 0 || code != impl.ErrState {
		t.Errorf("CopairingOf(%v) = %v, %d", a, x, code)
	}
	if x, code := impl.DualBasis(a); len(x) != 0 || code != impl.ErrState {
		t.Errorf("DualBasis(%v) = %v, %d", a, x, code)
	}
	if x, code := impl.HandleOf(a); x != (impl.Vector{}) || code != impl.ErrState {
		t.Errorf("HandleOf(%v) = %v, %d", a, x, code)
	}
	if x, code := impl.NakayamaOf(a); len(x) != 0 || code != impl.ErrState {
		t.Errorf("NakayamaOf(%v) = %v, %d", a, x, code)
	}
	for _, v := range []impl.Vector{unitOf(t, a), {}, {1}} {
		if x, code := impl.CoproductOf(a, v); len(x) != 0 || code != impl.ErrState {
			t.Errorf("CoproductOf(%v, %v) = %v, %d", a, v, x, code)
		}
		if b, code := impl.ChangeForm(a, v); b != (impl.Algebra{}) || code != impl.ErrState {
			t.Errorf("ChangeForm(%v, %v) = %v, %d", a, v, b, code)
		}
	}
	if x, code := impl.FormTable(a); !isTable(a, x) || code != impl.ErrNone {
		t.Errorf("FormTable(%v) = %v, %d", a, x, code)
	}
	if yes, code := impl.IsInvertible(a, unitOf(t, a)); !yes || code != impl.ErrNone {
		t.Errorf("IsInvertible(%v, unit) = %v, %d", a, yes, code)
	}
	if n, code := impl.PairVectors(a, unitOf(t, a), basis(0)); n != int64(a.Form[0]) || code != impl.ErrNone {
		t.Errorf("PairVectors(%v, unit, e(0)) = %d, %d", a, n, code)
	}
	if n, code := impl.TraceOf(a, unitOf(t, a)); n != a.Size%a.Prime || code != impl.ErrNone {
		t.Errorf("TraceOf(%v, unit) = %d, %d", a, n, code)
	}
}

// checkNotCounting checks the state and the ranges of genus numbers and leg numbers, for an algebra
// that has none: ErrRange comes first.
func checkNotCounting(t *testing.T, a impl.Algebra) {
	t.Helper()
	for g, want := range map[int64]int64{0: impl.ErrState, 1: impl.ErrState, 30: impl.ErrState, 31: impl.ErrRange, -1: impl.ErrRange} {
		if n, code := impl.GenusNumber(a, g); n != 0 || code != want {
			t.Errorf("GenusNumber(%v, %d) = %d, %d", a, g, n, code)
		}
		for k := range 7 {
			if n, code := impl.LegNumber(a, g, make([]impl.Vector, k)); n != 0 || code != want {
				t.Errorf("LegNumber(%v, %d) of %d vectors = %d, %d", a, g, k, n, code)
			}
		}
	}
	if n, code := impl.LegNumber(a, 0, make([]impl.Vector, 7)); n != 0 || code != impl.ErrRange {
		t.Errorf("LegNumber(%v) of 7 vectors = %d, %d", a, n, code)
	}
}

func TestFormStates(t *testing.T) {
	for _, a := range formSamples(t) {
		if !isPlainFrobenius(a) {
			checkNotFrobenius(t, a)
			checkNotCounting(t, a)
		} else if !isPlainCommutative(a) {
			checkNotCounting(t, a)
		}
	}
	for _, p := range primes {
		flat := named(t, "dual", p)
		flat.Form = impl.Vector{1}
		checkNotFrobenius(t, flat)
		checkNotCounting(t, flat)
		zero := named(t, "matrix", p)
		zero.Form = impl.Vector{}
		checkNotFrobenius(t, zero)
		checkNotCounting(t, zero)
	}
}

func TestCountingRanges(t *testing.T) {
	if impl.MaxGenus != 30 {
		t.Errorf("MaxGenus is %d", impl.MaxGenus)
	}
	for _, a := range countingSamples(t) {
		full := make([]impl.Vector, 7)
		for _, g := range []int64{31, -1, 1 << 32, 1 << 62, -1 << 63, 1<<63 - 1} {
			if n, code := impl.GenusNumber(a, g); n != 0 || code != impl.ErrRange {
				t.Errorf("GenusNumber(%v, %d) = %d, %d", a, g, n, code)
			}
			if n, code := impl.LegNumber(a, g, full[:6]); n != 0 || code != impl.ErrRange {
				t.Errorf("LegNumber(%v, %d) = %d, %d", a, g, n, code)
			}
		}
		if n, code := impl.LegNumber(a, 30, full[:6]); n != 0 || code != impl.ErrNone {
			t.Errorf("LegNumber(%v) of 6 vectors 0 = %d, %d", a, n, code)
		}
		for i := range full {
			full[i] = unitOf(t, a)
		}
		if n, code := impl.LegNumber(a, 0, full[:6]); n != plainForm(a, full[0]) || code != impl.ErrNone {
			t.Errorf("LegNumber(%v) of 6 units = %d, %d", a, n, code)
		}
		if n, code := impl.LegNumber(a, 0, full); n != 0 || code != impl.ErrRange {
			t.Errorf("LegNumber(%v) of 7 units = %d, %d", a, n, code)
		}
	}
}

// TestFormMemory checks that results are new memory, that their slices share none, and that lists
// are left as they were, also behind their ends.
func TestFormMemory(t *testing.T) {
	a := quantumPlane(t)
	tables := []func() ([][]int64, int64){
		func() ([][]int64, int64) { return impl.FormTable(a) },
		func() ([][]int64, int64) { return impl.CopairingOf(a) },
		func() ([][]int64, int64) { return impl.CoproductOf(a, impl.Vector{1, 2, 3, 4}) },
	}
	for i, call := range tables {
		table, _ := call()
		for k := range table {
			for j := range table[k] {
				table[k][j] = int64(100 + k)
			}
			table[k] = append(table[k], 200)
		}
		for k, row := range table {
			for _, number := range row[:4] {
				if number != int64(100+k) {
					t.Errorf("table %d has rows that share memory: %v", i, table)
				}
			}
		}
		if again, _ := call(); !isTable(a, again) {
			t.Errorf("table %d comes from kept memory: %v", i, again)
		}
	}
	dualBasisOf(t, a)[0] = impl.Vector{9}
	nakayamaOf(t, a)[0] = impl.Vector{9}
	if dualBasisOf(t, a)[0] != (impl.Vector{0, 0, 0, 1}) || nakayamaOf(t, a)[0] != (impl.Vector{1}) {
		t.Errorf("lists come from kept memory")
	}
	list := drawnVectors(named(t, "cyclic3", 7), 8)
	kept := append([]impl.Vector{}, list...)
	if _, code := impl.LegNumber(named(t, "cyclic3", 7), 3, list[:5]); code != impl.ErrNone || !sameVectors(list, kept) {
		t.Errorf("LegNumber, %d, changed its list: %v instead of %v", code, list, kept)
	}
}
