package tests

import (
	"math"
	"slices"
	"testing"

	"loop.example/g01267/impl"
)

// plainCount is n to the power legs.
func plainCount(n, legs int64) int64 {
	count := int64(1)
	for range legs {
		count *= n
	}
	return count
}

// plainChoices returns the choices of numbers for legs, the last number changing first.
func plainChoices(n, legs int64) [][]int64 {
	list := [][]int64{{}}
	for range legs {
		var longer [][]int64
		for _, choice := range list {
			for number := range n {
				longer = append(longer, append(append([]int64{}, choice...), number))
			}
		}
		list = longer
	}
	return list
}

// numberAt returns the number of a tensor for numbers of its legs below and above.
func numberAt(u impl.Tensor, lists ...[]int64) int64 {
	place := int64(0)
	for _, list := range lists {
		for _, number := range list {
			place = place*u.Size + number
		}
	}
	return u.Numbers[place]
}

// plainTensor returns the tensor with the numbers that a function tells for its legs, modulo p.
func plainTensor(p, n, in, out int64, f func(below, above []int64) int64) impl.Tensor {
	u := impl.Tensor{Prime: p, Size: n, In: in, Out: out}
	aboves := plainChoices(n, out)
	for _, below := range plainChoices(n, in) {
		for _, above := range aboves {
			u.Numbers = append(u.Numbers, f(below, above)%p)
		}
	}
	return u
}

// drawnTensor returns a tensor with numbers that are drawn one after the other.
func drawnTensor(p, n, in, out, seed int64) impl.Tensor {
	state := 12345 + 7919*seed + 101*p + 31*n + 5*in + out
	return plainTensor(p, n, in, out, func(below, above []int64) int64 {
		state = (state*1103515245 + 12345) % (1 << 31)
		return state / 65536
	})
}

func plainIdentity(p, n, k int64) impl.Tensor {
	return plainTensor(p, n, k, k, func(below, above []int64) int64 {
		if slices.Equal(below, above) {
			return 1
		}
		return 0
	})
}

func plainCompose(a, b impl.Tensor) impl.Tensor {
	middles := plainChoices(a.Size, a.Out)
	return plainTensor(a.Prime, a.Size, a.In, b.Out, func(below, above []int64) int64 {
		sum := int64(0)
		for _, middle := range middles {
			sum += numberAt(a, below, middle) * numberAt(b, middle, above)
		}
		return sum
	})
}

func plainSide(a, b impl.Tensor) impl.Tensor {
	return plainTensor(a.Prime, a.Size, a.In+b.In, a.Out+b.Out, func(below, above []int64) int64 {
		return numberAt(a, below[:a.In], above[:a.Out]) * numberAt(b, below[a.In:], above[a.Out:])
	})
}

// backBy returns the numbers that list[x] has in the result for each x: those of the legs of what
// is permuted.
func backBy(list, numbers []int64) []int64 {
	back := make([]int64, len(numbers))
	for x, leg := range list {
		back[leg] = numbers[x]
	}
	return back
}

func plainPermute(a impl.Tensor, ins, outs []int64) impl.Tensor {
	return plainTensor(a.Prime, a.Size, a.In, a.Out, func(below, above []int64) int64 {
		return numberAt(a, backBy(ins, below), backBy(outs, above))
	})
}

func plainClose(a impl.Tensor) impl.Tensor {
	return plainTensor(a.Prime, a.Size, a.In-1, a.Out-1, func(below, above []int64) int64 {
		sum := int64(0)
		for joined := range a.Size {
			last := []int64{joined}
			sum += numberAt(a, below, last, above, last)
		}
		return sum
	})
}

func plainValue(a impl.Tensor, vectors []impl.Vector) []int64 {
	var value []int64
	belows := plainChoices(a.Size, a.In)
	for _, above := range plainChoices(a.Size, a.Out) {
		sum := int64(0)
		for _, below := range belows {
			term := numberAt(a, below, above)
			for leg, number := range below {
				term = term * int64(vectors[leg][number]) % a.Prime
			}
			sum += term
		}
		value = append(value, sum%a.Prime)
	}
	return value
}

func sameTensors(a, b impl.Tensor) bool {
	return a.Prime == b.Prime && a.Size == b.Size && a.In == b.In && a.Out == b.Out && slices.Equal(a.Numbers, b.Numbers)
}

// isPlainWithin tells whether legs are within the limits for a size.
func isPlainWithin(n, in, out int64) bool {
	return in <= 8 && out <= 8 && math.Pow(float64(n), float64(in+out)) <= 1296
}

// shapes returns In and Out of all tensors of a size.
func shapes(n int64) [][2]int64 {
	var list [][2]int64
	for in := range int64(9) {
		for out := range int64(9) {
			if isPlainWithin(n, in, out) {
				list = append(list, [2]int64{in, out})
			}
		}
	}
	return list
}

// primeAt returns a prime that changes with a number, so that all of them occur.
func primeAt(number int) int64 {
	return primes[number%len(primes)]
}

// checkTensor checks a result and its code.
func checkTensor(t *testing.T, why string, u impl.Tensor, code int64, want impl.Tensor) {
	t.Helper()
	if code != impl.ErrNone || !sameTensors(u, want) || !impl.IsTensor(u) {
		t.Errorf("%s = %v, %d instead of %v", why, u, code, want)
	}
}

// checkNoTensor checks that there is the zero value with a code.
func checkNoTensor(t *testing.T, why string, u impl.Tensor, code int64, want int64) {
	t.Helper()
	if code != want || !sameTensors(u, impl.Tensor{}) {
		t.Errorf("%s = %v, %d instead of code %d", why, u, code, want)
	}
}

func composed(t *testing.T, a, b impl.Tensor) impl.Tensor {
	t.Helper()
	u, code := impl.ComposeTensors(a, b)
	if code != impl.ErrNone || !impl.IsTensor(u) {
		t.Fatalf("ComposeTensors(%v, %v) = %v, %d", a, b, u, code)
	}
	return u
}

func beside(t *testing.T, a, b impl.Tensor) impl.Tensor {
	t.Helper()
	u, code := impl.SideTensors(a, b)
	if code != impl.ErrNone || !impl.IsTensor(u) {
		t.Fatalf("SideTensors(%v, %v) = %v, %d", a, b, u, code)
	}
	return u
}

func identity(t *testing.T, p, n, k int64) impl.Tensor {
	t.Helper()
	u, code := impl.IdentityTensor(p, n, k)
	if code != impl.ErrNone || !impl.IsTensor(u) {
		t.Fatalf("IdentityTensor(%d, %d, %d) = %v, %d", p, n, k, u, code)
	}
	return u
}

func swapOf(t *testing.T, p, n int64) impl.Tensor {
	t.Helper()
	u, code := impl.SwapTensor(p, n)
	if code != impl.ErrNone || !impl.IsTensor(u) {
		t.Fatalf("SwapTensor(%d, %d) = %v, %d", p, n, u, code)
	}
	return u
}

// tensorBy returns the tensor of an algebra that a function gives.
func tensorBy(t *testing.T, f func(a impl.Algebra) (impl.Tensor, int64), a impl.Algebra) impl.Tensor {
	t.Helper()
	u, code := f(a)
	if code != impl.ErrNone || !impl.IsTensor(u) {
		t.Fatalf("the tensor of %v = %v, %d", a, u, code)
	}
	return u
}

// tensorWith returns what these fields make, be it a tensor or not.
func tensorWith(p, n, in, out int64, numbers []int64) impl.Tensor {
	return impl.Tensor{Prime: p, Size: n, In: in, Out: out, Numbers: numbers}
}

// brokenTensors returns what is no tensor.
func brokenTensors() map[string]impl.Tensor {
	ones := func(count int) []int64 {
		list := make([]int64, count)
		for i := range list {
			list[i] = 1
		}
		return list
	}
	return map[string]impl.Tensor{
		"zero value":             {},
		"zero value with number": {Numbers: ones(1)},
		"prime 0":                tensorWith(0, 2, 1, 0, []int64{0, 0}),
		"prime 1":                tensorWith(1, 2, 1, 0, []int64{0, 0}),
		"prime 4":                tensorWith(4, 2, 1, 0, ones(2)),
		"prime 9":                tensorWith(9, 2, 1, 0, ones(2)),
		"prime 17":               tensorWith(17, 2, 1, 0, ones(2)),
		"prime -5":               tensorWith(-5, 2, 1, 0, ones(2)),
		"prime 261":              tensorWith(261, 2, 1, 0, ones(2)),
		"greatest prime":         tensorWith(math.MaxInt64, 2, 1, 0, ones(2)),
		"size 0":                 tensorWith(5, 0, 0, 0, ones(1)),
		"size 0 without numbers": tensorWith(5, 0, 1, 1, nil),
		"size -1":                tensorWith(5, -1, 0, 0, ones(1)),
		"size -2":                tensorWith(5, -2, 1, 1, ones(4)),
		"size 7":                 tensorWith(5, 7, 1, 0, ones(7)),
		"size 7 without legs":    tensorWith(5, 7, 0, 0, ones(1)),
		"greatest size":          tensorWith(5, math.MaxInt64, 0, 0, ones(1)),
		"size that overflows":    tensorWith(5, 1<<32, 1, 1, nil),
		"in -1":                  tensorWith(5, 2, -1, 1, ones(1)),
		"in -1 with out 2":       tensorWith(5, 2, -1, 2, ones(2)),
		"out -1":                 tensorWith(5, 2, 1, -1, ones(1)),
		"out -2 with in 3":       tensorWith(5, 2, 3, -2, ones(2)),
		"both -1":                tensorWith(5, 2, -1, -1, ones(1)),
		"in 9":                   tensorWith(5, 1, 9, 0, ones(1)),
		"in 9 of size 2":         tensorWith(5, 2, 9, 0, ones(512)),
		"out 9":                  tensorWith(5, 1, 0, 9, ones(1)),
		"out 9 of size 2":        tensorWith(5, 2, 0, 9, ones(512)),
		"both 9":                 tensorWith(5, 1, 9, 9, ones(1)),
		"greatest in":            tensorWith(5, 1, math.MaxInt64, 0, ones(1)),
		"greatest out":           tensorWith(5, 1, 0, math.MaxInt64, ones(1)),
		"legs that overflow":     tensorWith(5, 1, math.MaxInt64, math.MaxInt64, ones(1)),
		"legs that cancel":       tensorWith(5, 2, math.MaxInt64, -math.MaxInt64, ones(1)),
		"least in":               tensorWith(5, 2, math.MinInt64, math.MinInt64, ones(1)),
		"64 legs of size 2":      tensorWith(5, 2, 32, 32, nil),
		"too few":                tensorWith(5, 2, 1, 1, ones(3)),
		"too many":               tensorWith(5, 2, 1, 1, ones(5)),
		"none":                   tensorWith(5, 2, 1, 1, nil),
		"none without legs":      tensorWith(5, 2, 0, 0, nil),
		"none of size 1":         tensorWith(5, 1, 8, 8, nil),
		"two without legs":       tensorWith(5, 2, 0, 0, ones(2)),
		"two of size 1":          tensorWith(5, 1, 1, 1, ones(2)),
		"in and out once":        tensorWith(5, 3, 1, 1, ones(6)),
		"numbers of 2 legs":      tensorWith(5, 3, 1, 2, ones(9)),
		"11 legs of size 2":      tensorWith(5, 2, 5, 6, ones(2048)),
		"7 legs of size 3":       tensorWith(5, 3, 3, 4, ones(2187)),
		"6 legs of size 4":       tensorWith(5, 4, 3, 3, ones(4096)),
		"5 legs of size 5":       tensorWith(5, 5, 2, 3, ones(3125)),
		"5 legs of size 6":       tensorWith(5, 6, 5, 0, ones(7776)),
		"16 legs of size 2":      tensorWith(5, 2, 8, 8, ones(65536)),
		"number p":               tensorWith(5, 2, 1, 0, []int64{0, 5}),
		"number 2 of prime 2":    tensorWith(2, 2, 1, 0, []int64{2, 0}),
		"number 13 of prime 13":  tensorWith(13, 2, 1, 0, []int64{12, 13}),
		"number -1":              tensorWith(5, 2, 1, 0, []int64{-1, 0}),
		"number -1 at the end":   tensorWith(5, 2, 1, 1, []int64{0, 0, 0, -1}),
		"greatest number":        tensorWith(5, 2, 1, 0, []int64{math.MaxInt64, 0}),
		"least number":           tensorWith(5, 2, 1, 0, []int64{0, math.MinInt64}),
		"number 256":             tensorWith(5, 1, 0, 0, []int64{256}),
	}
}

func TestTensorLimits(t *testing.T) {
	if impl.MaxNumbers != 1296 || impl.MaxEnds != 8 {
		t.Errorf("MaxNumbers is %d, and MaxEnds %d", impl.MaxNumbers, impl.MaxEnds)
	}
	most := map[int64]int64{1: 16, 2: 10, 3: 6, 4: 5, 5: 4, 6: 4}
	for n, legs := range most {
		for in := range int64(11) {
			for out := range int64(11) {
				u := tensorWith(3, n, in, out, make([]int64, min(plainCount(n, in+out), 70000)))
				if want := in <= 8 && out <= 8 && in+out <= legs; impl.IsTensor(u) != want || isPlainWithin(n, in, out) != want {
					t.Errorf("IsTensor of size %d with %d and %d legs is %v", n, in, out, !want)
				}
			}
		}
	}
}

func TestIsTensor(t *testing.T) {
	for n := int64(1); n <= 6; n++ {
		for i, shape := range shapes(n) {
			u := drawnTensor(primeAt(i), n, shape[0], shape[1], 1)
			if !impl.IsTensor(u) {
				t.Errorf("IsTensor(%v) is false", u)
			}
			last := len(u.Numbers) - 1
			for _, number := range []int64{u.Prime, -1} {
				for _, place := range []int{0, last / 2, last} {
					bad := u
					bad.Numbers = append([]int64{}, u.Numbers...)
					bad.Numbers[place] = number
					if impl.IsTensor(bad) {
						t.Errorf("IsTensor(%v) is true", bad)
					}
					bad.Numbers[place] = u.Prime - 1
					if !impl.IsTensor(bad) {
						t.Errorf("IsTensor(%v) is false", bad)
					}
				}
			}
			fewer, more := u, u
			fewer.Numbers, more.Numbers = u.Numbers[:last], append(append([]int64{}, u.Numbers...), 0)
			if impl.IsTensor(fewer) || impl.IsTensor(more) {
				t.Errorf("IsTensor is true with one number less or more than %v", u)
			}
		}
	}
	for why, u := range brokenTensors() {
		if impl.IsTensor(u) {
			t.Errorf("%s: IsTensor(%v) is true", why, u)
		}
	}
}

func TestIdentities(t *testing.T) {
	for _, p := range primes {
		for n := int64(1); n <= 6; n++ {
			for k := range int64(9) {
				u, code := impl.IdentityTensor(p, n, k)
				if isPlainWithin(n, k, k) {
					checkTensor(t, "IdentityTensor", u, code, plainIdentity(p, n, k))
				} else {
					checkNoTensor(t, "IdentityTensor", u, code, impl.ErrLimit)
				}
			}
		}
	}
	if u := identity(t, 7, 6, 0); !slices.Equal(u.Numbers, []int64{1}) {
		t.Errorf("the identity of 0 is %v", u)
	}
	if u := identity(t, 2, 1, 8); !slices.Equal(u.Numbers, []int64{1}) {
		t.Errorf("the identity of 8 of the size 1 is %v", u)
	}
}

// TestIdentityRanges checks numbers out of their ranges, also with what is above the limit.
func TestIdentityRanges(t *testing.T) {
	far := []int64{-1, math.MinInt64, math.MaxInt64, 1 << 32, 1<<32 + 1}
	for _, p := range append([]int64{0, 1, 4, 6, 9, 17, 261}, far...) {
		for _, k := range []int64{0, 1, 2, 8, 9} {
			u, code := impl.IdentityTensor(p, 6, k)
			checkNoTensor(t, "IdentityTensor without a prime", u, code, impl.ErrRange)
		}
		for _, n := range []int64{0, 1, 6, 7} {
			u, code := impl.SwapTensor(p, n)
			checkNoTensor(t, "SwapTensor without a prime", u, code, impl.ErrRange)
		}
	}
	for _, n := range append([]int64{0, 7, 8}, far...) {
		for _, k := range []int64{0, 1, 2, 8, 9} {
			u, code := impl.IdentityTensor(5, n, k)
			checkNoTensor(t, "IdentityTensor without a size", u, code, impl.ErrRange)
		}
		u, code := impl.SwapTensor(5, n)
		checkNoTensor(t, "SwapTensor without a size", u, code, impl.ErrRange)
	}
	for n := int64(1); n <= 6; n++ {
		for _, k := range append([]int64{9, 10, 16}, far...) {
			u, code := impl.IdentityTensor(5, n, k)
			checkNoTensor(t, "IdentityTensor without a number of legs", u, code, impl.ErrRange)
		}
	}
}

// Promise 3: swaps undo themselves.
func TestSwaps(t *testing.T) {
	for _, p := range primes {
		for n := int64(1); n <= 6; n++ {
			u, code := impl.SwapTensor(p, n)
			checkTensor(t, "SwapTensor", u, code, plainTensor(p, n, 2, 2, func(below, above []int64) int64 {
				if below[0] == above[1] && below[1] == above[0] {
					return 1
				}
				return 0
			}))
			if twice := composed(t, u, u); !sameTensors(twice, identity(t, p, n, 2)) {
				t.Errorf("SwapTensor(%d, %d) twice is %v", p, n, twice)
			}
		}
	}
}

// TestSwapsExchange checks that swaps behind what is side by side are swaps before it, exchanged.
func TestSwapsExchange(t *testing.T) {
	for n := int64(1); n <= 6; n++ {
		for _, p := range primes {
			swap := swapOf(t, p, n)
			a, b := drawnTensor(p, n, 1, 1, 1), drawnTensor(p, n, 1, 1, 2)
			behind, before := composed(t, beside(t, a, b), swap), composed(t, swap, beside(t, b, a))
			if !sameTensors(behind, before) {
				t.Errorf("%v and %v do not go along with swaps", a, b)
			}
		}
	}
}

func TestTensorsOfAlgebras(t *testing.T) {
	for _, a := range formSamples(t) {
		p, n := a.Prime, a.Size
		u, code := impl.ProductTensor(a)
		checkTensor(t, "ProductTensor", u, code, plainTensor(p, n, 2, 1, func(below, above []int64) int64 {
			return int64(plainProduct(a, basis(below[0]), basis(below[1]))[above[0]])
		}))
		u, code = impl.UnitTensor(a)
		unit := unitOf(t, a)
		checkTensor(t, "UnitTensor", u, code, plainTensor(p, n, 0, 1, func(below, above []int64) int64 {
			return int64(unit[above[0]])
		}))
		u, code = impl.FormTensor(a)
		checkTensor(t, "FormTensor", u, code, plainTensor(p, n, 1, 0, func(below, above []int64) int64 {
			return plainForm(a, basis(below[0]))
		}))
		u, code = impl.CoproductTensor(a)
		if !isPlainFrobenius(a) {
			checkNoTensor(t, "CoproductTensor", u, code, impl.ErrState)
			continue
		}
		copairing := copairingOf(t, a)
		var tables [][][]int64
		for i := range n {
			tables = append(tables, plainCoproduct(a, copairing, basis(i)))
		}
		checkTensor(t, "CoproductTensor", u, code, plainTensor(p, n, 1, 2, func(below, above []int64) int64 {
			return tables[below[0]][above[0]][above[1]]
		}))
	}
}

// TestTensorsOfThePlane checks an algebra that is not commutative, with a form that is not symmetric.
func TestTensorsOfThePlane(t *testing.T) {
	plane := quantumPlane(t)
	product, coproduct := tensorBy(t, impl.ProductTensor, plane), tensorBy(t, impl.CoproductTensor, plane)
	if product.Numbers[27] != 1 || product.Numbers[39] != 2 {
		t.Errorf("the product tensor of the plane is %v", product)
	}
	// The coproduct of x y is x y (x) x y.
	if row := coproduct.Numbers[48:]; !slices.Equal(row, []int64{0, 0, 0, 0, 0, 0, 0, 0, 0, 0, 0, 0, 0, 0, 0, 1}) {
		t.Errorf("the coproduct tensor of the plane ends with %v", row)
	}
	// That of x is the sum of x (x) x y and x y (x) x.
	if row := coproduct.Numbers[16:32]; !slices.Equal(row, []int64{0, 0, 0, 0, 0, 0, 0, 1, 0, 0, 0, 0, 0, 1, 0, 0}) {
		t.Errorf("the coproduct tensor of the plane has %v for x", row)
	}
}

func TestTensorsOfBrokenAlgebras(t *testing.T) {
	makers := map[string]func(a impl.Algebra) (impl.Tensor, int64){"ProductTensor": impl.ProductTensor,
		"CoproductTensor": impl.CoproductTensor, "UnitTensor": impl.UnitTensor, "FormTensor": impl.FormTensor}
	for name, maker := range makers {
		for why, a := range brokenAlgebras(t) {
			u, code := maker(a)
			checkNoTensor(t, name+" of "+why, u, code, impl.ErrInvalid)
			a.Form = impl.Vector{}
			u, code = maker(a)
			if !impl.IsAlgebra(a) {
				checkNoTensor(t, name+" of "+why+" with the form 0", u, code, impl.ErrInvalid)
			}
		}
	}
	for _, p := range primes {
		for _, name := range impl.AlgebraNames() {
			flat := named(t, name, p)
			flat.Form = impl.Vector{}
			u, code := impl.CoproductTensor(flat)
			checkNoTensor(t, "CoproductTensor with the form 0", u, code, impl.ErrState)
			u, code = impl.FormTensor(flat)
			checkTensor(t, "FormTensor with the form 0", u, code, plainTensor(p, flat.Size, 1, 0, func(below, above []int64) int64 { return 0 }))
		}
	}
}

// TestLawsOfTensors checks with tensors that products are associative, that units and forms are those
// of products and coproducts, and that these go along with each other.
func TestLawsOfTensors(t *testing.T) {
	for _, a := range frobeniusSamples(t) {
		p, n := a.Prime, a.Size
		product, coproduct := tensorBy(t, impl.ProductTensor, a), tensorBy(t, impl.CoproductTensor, a)
		unit, form, one := tensorBy(t, impl.UnitTensor, a), tensorBy(t, impl.FormTensor, a), identity(t, p, n, 1)
		for _, u := range []impl.Tensor{
			composed(t, beside(t, unit, one), product), composed(t, beside(t, one, unit), product),
			composed(t, coproduct, beside(t, form, one)), composed(t, coproduct, beside(t, one, form)),
		} {
			if !sameTensors(u, one) {
				t.Errorf("%v: %v is not the identity of 1", a, u)
			}
		}
		opposite := tensorBy(t, impl.ProductTensor, oppositeOf(t, a))
		if u := composed(t, swapOf(t, p, n), product); !sameTensors(u, opposite) {
			t.Errorf("%v: swapped products are %v", a, u)
		}
		if n > 4 {
			continue
		}
		left, right := beside(t, product, one), beside(t, one, product)
		if !sameTensors(composed(t, left, product), composed(t, right, product)) {
			t.Errorf("%v: products are not associative", a)
		}
		before, behind := beside(t, coproduct, one), beside(t, one, coproduct)
		if !sameTensors(composed(t, coproduct, before), composed(t, coproduct, behind)) {
			t.Errorf("%v: coproducts are not associative", a)
		}
		middle := composed(t, product, coproduct)
		if !sameTensors(composed(t, behind, left), middle) || !sameTensors(composed(t, before, right), middle) {
			t.Errorf("%v: products and coproducts do not go along", a)
		}
	}
}

// TestHandlesByTensors checks that coproducts with products behind them multiply by the handle element.
func TestHandlesByTensors(t *testing.T) {
	for _, a := range countingSamples(t) {
		u := composed(t, tensorBy(t, impl.CoproductTensor, a), tensorBy(t, impl.ProductTensor, a))
		handle := handleOf(t, a)
		for _, v := range drawnVectors(a, 3) {
			value, code := impl.ValueAt(u, []impl.Vector{v})
			if !slices.Equal(value, numbersOf(a, plainProduct(a, v, handle))) || code != impl.ErrNone {
				t.Errorf("%v: %v has at %v %v, %d", a, u, v, value, code)
			}
		}
	}
}

// shapeTensors returns drawn tensors of all legs for a size.
func shapeTensors(p, n int64, seed int64) []impl.Tensor {
	var list []impl.Tensor
	for _, shape := range shapes(n) {
		list = append(list, drawnTensor(p, n, shape[0], shape[1], seed))
	}
	return list
}

func TestCompositions(t *testing.T) {
	limits := 0
	for n := int64(1); n <= 6; n++ {
		p := primeAt(int(n) + 2)
		rights := shapeTensors(p, n, 2)
		for _, a := range shapeTensors(p, n, 1) {
			for _, b := range rights {
				u, code := impl.ComposeTensors(a, b)
				switch {
				case a.Out != b.In:
					checkNoTensor(t, "ComposeTensors of different legs", u, code, impl.ErrRange)
				case !isPlainWithin(n, a.In, b.Out):
					checkNoTensor(t, "ComposeTensors", u, code, impl.ErrLimit)
					limits++
				default:
					checkTensor(t, "ComposeTensors", u, code, plainCompose(a, b))
				}
			}
		}
	}
	if limits < 20 {
		t.Errorf("%d compositions had too many numbers", limits)
	}
}

// TestCompositionsOfPrimes checks sums of many products of greatest numbers, for all primes.
func TestCompositionsOfPrimes(t *testing.T) {
	for _, p := range primes {
		most := func(below, above []int64) int64 { return p - 1 }
		for n := int64(1); n <= 6; n++ {
			a, b := plainTensor(p, n, 1, 3, most), plainTensor(p, n, 3, 1, most)
			u, code := impl.ComposeTensors(a, b)
			checkTensor(t, "ComposeTensors", u, code, plainTensor(p, n, 1, 1, func(below, above []int64) int64 { return n * n * n }))
			for seed := range int64(3) {
				a, b = drawnTensor(p, n, 2, 1, seed), drawnTensor(p, n, 1, 2, seed)
				u, code = impl.ComposeTensors(a, b)
				checkTensor(t, "ComposeTensors", u, code, plainCompose(a, b))
			}
		}
	}
}

func TestCompositionsWithIdentities(t *testing.T) {
	for n := int64(1); n <= 6; n++ {
		for i, shape := range shapes(n) {
			p := primeAt(i)
			u := drawnTensor(p, n, shape[0], shape[1], 4)
			if isPlainWithin(n, u.In, u.In) && !sameTensors(composed(t, identity(t, p, n, u.In), u), u) {
				t.Errorf("an identity before %v changes it", u)
			}
			if isPlainWithin(n, u.Out, u.Out) && !sameTensors(composed(t, u, identity(t, p, n, u.Out)), u) {
				t.Errorf("an identity behind %v changes it", u)
			}
		}
	}
}

func TestCompositionsAreAssociative(t *testing.T) {
	for n := int64(1); n <= 6; n++ {
		for i, legs := range plainChoices(3, 4) {
			p := primeAt(i)
			a, b, c := drawnTensor(p, n, legs[0], legs[1], 1), drawnTensor(p, n, legs[1], legs[2], 2), drawnTensor(p, n, legs[2], legs[3], 3)
			if !sameTensors(composed(t, composed(t, a, b), c), composed(t, a, composed(t, b, c))) {
				t.Errorf("%v, %v and %v are not associative", a, b, c)
			}
		}
	}
	a, b, c := drawnTensor(5, 1, 8, 7, 1), drawnTensor(5, 1, 7, 0, 2), drawnTensor(5, 1, 0, 8, 3)
	if !sameTensors(composed(t, composed(t, a, b), c), composed(t, a, composed(t, b, c))) {
		t.Errorf("%v, %v and %v are not associative", a, b, c)
	}
}

func TestSideBySide(t *testing.T) {
	limits := 0
	for n := int64(1); n <= 6; n++ {
		p := primeAt(int(n) + 3)
		rights := shapeTensors(p, n, 2)
		for _, a := range shapeTensors(p, n, 1) {
			for _, b := range rights {
				u, code := impl.SideTensors(a, b)
				if isPlainWithin(n, a.In+b.In, a.Out+b.Out) {
					checkTensor(t, "SideTensors", u, code, plainSide(a, b))
				} else {
					checkNoTensor(t, "SideTensors", u, code, impl.ErrLimit)
					limits++
				}
			}
		}
	}
	if limits < 100 {
		t.Errorf("%d tensors side by side were too many", limits)
	}
	for _, p := range primes {
		for n := int64(1); n <= 6; n++ {
			a, b := drawnTensor(p, n, 1, 1, 3), drawnTensor(p, n, 2, 0, 4)
			u, code := impl.SideTensors(a, b)
			checkTensor(t, "SideTensors", u, code, plainSide(a, b))
		}
	}
}

// TestEndsSideBySide checks exactly MaxEnds legs, and one more, on each side.
func TestEndsSideBySide(t *testing.T) {
	for _, n := range []int64{1, 2} {
		for k := range int64(9) {
			for _, more := range []int64{0, 1} {
				if k == 0 && more == 1 {
					continue
				}
				want := int64(impl.ErrNone)
				if more == 1 {
					want = impl.ErrLimit
				}
				if _, code := impl.SideTensors(drawnTensor(3, n, k, 0, 1), drawnTensor(3, n, 8-k+more, 0, 2)); code != want {
					t.Errorf("SideTensors of the size %d with %d and %d legs below: code %d", n, k, 8-k+more, code)
				}
				if _, code := impl.SideTensors(drawnTensor(3, n, 0, k, 1), drawnTensor(3, n, 0, 8-k+more, 2)); code != want {
					t.Errorf("SideTensors of the size %d with %d and %d legs above: code %d", n, k, 8-k+more, code)
				}
			}
		}
	}
	// Without the limit of legs the number of numbers would be 2 to the power 64 here, and 1 below.
	big, one := drawnTensor(3, 2, 8, 2, 1), drawnTensor(3, 1, 8, 8, 2)
	u, code := impl.SideTensors(big, big)
	checkNoTensor(t, "SideTensors", u, code, impl.ErrLimit)
	u, code = impl.SideTensors(one, one)
	checkNoTensor(t, "SideTensors", u, code, impl.ErrLimit)
	u, code = impl.SideTensors(one, drawnTensor(3, 1, 0, 0, 3))
	checkTensor(t, "SideTensors", u, code, plainSide(one, drawnTensor(3, 1, 0, 0, 3)))
}

func TestSideBySideIsAssociative(t *testing.T) {
	for n := int64(1); n <= 6; n++ {
		for i, legs := range plainChoices(2, 6) {
			if legs[0]+legs[1]+legs[2]+legs[3]+legs[4]+legs[5] > 4 {
				continue
			}
			p := primeAt(i)
			a, b, c := drawnTensor(p, n, legs[0], legs[1], 1), drawnTensor(p, n, legs[2], legs[3], 2), drawnTensor(p, n, legs[4], legs[5], 3)
			if !sameTensors(beside(t, beside(t, a, b), c), beside(t, a, beside(t, b, c))) {
				t.Errorf("%v, %v and %v side by side are not associative", a, b, c)
			}
			none := identity(t, p, n, 0)
			if !sameTensors(beside(t, none, a), a) || !sameTensors(beside(t, a, none), a) {
				t.Errorf("the identity of 0 at the side of %v changes it", a)
			}
		}
		if p := primeAt(int(n)); !sameTensors(beside(t, identity(t, p, n, 1), identity(t, p, n, 1)), identity(t, p, n, 2)) {
			t.Errorf("identities of 1 and the size %d side by side are not that of 2", n)
		}
	}
}

// Promise 3: compositions go along with what is side by side.
func TestCompositionsSideBySide(t *testing.T) {
	compared := 0
	for n := int64(1); n <= 6; n++ {
		for i, legs := range plainChoices(3, 6) {
			if !isPlainWithin(n, legs[0]+legs[3], legs[1]+legs[4]) || !isPlainWithin(n, legs[1]+legs[4], legs[2]+legs[5]) || !isPlainWithin(n, legs[0]+legs[3], legs[2]+legs[5]) {
				continue
			}
			p := primeAt(i)
			a, b := drawnTensor(p, n, legs[0], legs[1], 1), drawnTensor(p, n, legs[1], legs[2], 2)
			c, d := drawnTensor(p, n, legs[3], legs[4], 3), drawnTensor(p, n, legs[4], legs[5], 4)
			side := beside(t, composed(t, a, b), composed(t, c, d))
			if !sameTensors(side, composed(t, beside(t, a, c), beside(t, b, d))) {
				t.Errorf("%v, %v at the side of %v, %v do not go along", a, b, c, d)
			}
			compared++
		}
	}
	if compared < 1000 {
		t.Errorf("%d compositions were compared", compared)
	}
}

// permutations returns all lists of the numbers 0 to k - 1, each once.
func permutations(k int64) [][]int64 {
	list := [][]int64{{}}
	for number := range k {
		var longer [][]int64
		for _, shorter := range list {
			for at := range len(shorter) + 1 {
				next := append(append([]int64{}, shorter[:at]...), number)
				longer = append(longer, append(next, shorter[at:]...))
			}
		}
		list = longer
	}
	return list
}

// inverseList has at list[x] the number x.
func inverseList(list []int64) []int64 {
	inverse := make([]int64, len(list))
	for x, number := range list {
		inverse[number] = int64(x)
	}
	return inverse
}

func permutedBy(t *testing.T, a impl.Tensor, ins, outs []int64) impl.Tensor {
	t.Helper()
	u, code := impl.PermuteTensor(a, ins, outs)
	if code != impl.ErrNone || !impl.IsTensor(u) {
		t.Fatalf("PermuteTensor(%v, %v, %v) = %v, %d", a, ins, outs, u, code)
	}
	return u
}

// Promise 3: permuted legs come back.
func TestPermutations(t *testing.T) {
	for n := int64(1); n <= 6; n++ {
		for i, shape := range shapes(n) {
			if shape[0] > 4 || shape[1] > 4 {
				continue
			}
			a, all := drawnTensor(primeAt(i), n, shape[0], shape[1], 1), permutations(shape[1])
			for k, ins := range permutations(shape[0]) {
				for l, outs := range all {
					if len(all) > 6 && (k+l)%5 != 0 {
						continue
					}
					u := permutedBy(t, a, ins, outs)
					if !sameTensors(u, plainPermute(a, ins, outs)) {
						t.Errorf("PermuteTensor(%v, %v, %v) = %v", a, ins, outs, u)
					}
					if back := permutedBy(t, u, inverseList(ins), inverseList(outs)); !sameTensors(back, a) {
						t.Errorf("%v permuted by %v, %v comes back as %v", a, ins, outs, back)
					}
				}
			}
		}
	}
}

// TestLongPermutations checks many legs, and those of one side alone.
func TestLongPermutations(t *testing.T) {
	lists := [][]int64{{0, 1, 2, 3, 4, 5, 6, 7}, {7, 6, 5, 4, 3, 2, 1, 0}, {1, 2, 3, 4, 5, 6, 7, 0}, {3, 1, 4, 0, 5, 7, 2, 6}, {6, 0, 7, 2, 1, 3, 5, 4}}
	for i, list := range lists {
		p := primeAt(i)
		for _, a := range []impl.Tensor{drawnTensor(p, 2, 8, 2, 1), drawnTensor(p, 1, 8, 2, 1)} {
			u, code := impl.PermuteTensor(a, list, []int64{1, 0})
			checkTensor(t, "PermuteTensor", u, code, plainPermute(a, list, []int64{1, 0}))
		}
		a := drawnTensor(p, 2, 0, 8, 2)
		u, code := impl.PermuteTensor(a, nil, list)
		checkTensor(t, "PermuteTensor", u, code, plainPermute(a, nil, list))
		a = drawnTensor(p, 2, 8, 0, 2)
		u, code = impl.PermuteTensor(a, list, []int64{})
		checkTensor(t, "PermuteTensor", u, code, plainPermute(a, list, nil))
		one := drawnTensor(p, 1, 8, 8, 3)
		u, code = impl.PermuteTensor(one, list, lists[2])
		checkTensor(t, "PermuteTensor", u, code, one)
	}
	scalar := drawnTensor(7, 6, 0, 0, 1)
	for _, list := range [][]int64{nil, {}} {
		u, code := impl.PermuteTensor(scalar, list, nil)
		checkTensor(t, "PermuteTensor", u, code, scalar)
	}
	// Leg 0 of the result is leg 1 of what is permuted, leg 1 is leg 2, and leg 2 is leg 0.
	a := impl.Tensor{Prime: 5, Size: 2, In: 3, Out: 0, Numbers: []int64{0, 1, 0, 0, 0, 0, 0, 0}}
	if u := permutedBy(t, a, []int64{1, 2, 0}, nil); !slices.Equal(u.Numbers, []int64{0, 0, 1, 0, 0, 0, 0, 0}) {
		t.Errorf("PermuteTensor(%v) = %v", a, u)
	}
}

// TestPermutationsFollow checks that lists one after the other are the list of both.
func TestPermutationsFollow(t *testing.T) {
	for i, first := range permutations(3) {
		for k, second := range permutations(3) {
			a := drawnTensor(primeAt(i+k), 3, 3, 3, 1)
			var both []int64
			for _, leg := range second {
				both = append(both, first[leg])
			}
			twice := permutedBy(t, permutedBy(t, a, first, second), second, first)
			var others []int64
			for _, leg := range first {
				others = append(others, second[leg])
			}
			if !sameTensors(twice, permutedBy(t, a, both, others)) {
				t.Errorf("%v permuted by %v and %v", a, first, second)
			}
		}
	}
	for _, p := range primes {
		for n := int64(1); n <= 6; n++ {
			two, swap := identity(t, p, n, 2), swapOf(t, p, n)
			above, below := permutedBy(t, two, []int64{0, 1}, []int64{1, 0}), permutedBy(t, two, []int64{1, 0}, []int64{0, 1})
			if !sameTensors(above, swap) || !sameTensors(below, swap) {
				t.Errorf("permuted identities of 2 are %v and %v", above, below)
			}
		}
	}
}

func TestBadPermutations(t *testing.T) {
	bad := [][]int64{nil, {}, {0}, {0, 1}, {0, 1, 2, 3}, {0, 1, 1}, {0, 0, 0}, {2, 2, 0}, {0, 2, 2}, {0, 1, 3}, {1, 2, 3}, {3, 0, 1}, {-1, 0, 1},
		{0, -1, 1}, {-1, 1, 3}, {0, 1, math.MaxInt64}, {math.MinInt64, 1, 2}, {0, 1, 1 << 32}, {256, 1, 2}, {0, 1, 2, 0}, {0, 1, 2, -1}, make([]int64, 2000)}
	good, a := []int64{2, 0, 1}, drawnTensor(5, 2, 3, 3, 1)
	for _, list := range bad {
		u, code := impl.PermuteTensor(a, list, good)
		checkNoTensor(t, "PermuteTensor", u, code, impl.ErrRange)
		u, code = impl.PermuteTensor(a, good, list)
		checkNoTensor(t, "PermuteTensor", u, code, impl.ErrRange)
		u, code = impl.PermuteTensor(a, list, list)
		checkNoTensor(t, "PermuteTensor", u, code, impl.ErrRange)
	}
	for n := int64(1); n <= 6; n++ {
		scalar, one := drawnTensor(5, n, 0, 0, 1), drawnTensor(5, n, 1, 0, 1)
		for _, lists := range [][2][]int64{{{0}, nil}, {nil, {0}}, {{0}, {0}}, {{-1}, nil}} {
			u, code := impl.PermuteTensor(scalar, lists[0], lists[1])
			checkNoTensor(t, "PermuteTensor without legs", u, code, impl.ErrRange)
		}
		for _, lists := range [][2][]int64{{nil, nil}, {nil, {0}}, {{0}, {0}}, {{1}, nil}, {{-1}, nil}, {{0, 0}, nil}} {
			u, code := impl.PermuteTensor(one, lists[0], lists[1])
			checkNoTensor(t, "PermuteTensor with one leg", u, code, impl.ErrRange)
		}
	}
	// Numbers of both sides together are no lists of each side.
	u, code := impl.PermuteTensor(drawnTensor(5, 2, 2, 2, 1), []int64{0, 2}, []int64{1, 3})
	checkNoTensor(t, "PermuteTensor", u, code, impl.ErrRange)
	u, code = impl.PermuteTensor(drawnTensor(5, 2, 2, 1, 1), []int64{0}, []int64{1, 0})
	checkNoTensor(t, "PermuteTensor with the lists exchanged", u, code, impl.ErrRange)
}

func TestClosed(t *testing.T) {
	for n := int64(1); n <= 6; n++ {
		for i, a := range shapeTensors(primeAt(int(n)), n, 5) {
			u, code := impl.CloseTensor(a)
			if a.In == 0 || a.Out == 0 {
				checkNoTensor(t, "CloseTensor", u, code, impl.ErrRange)
				continue
			}
			checkTensor(t, "CloseTensor", u, code, plainClose(a))
			b := drawnTensor(primeAt(i), n, a.In, a.Out, 6)
			u, code = impl.CloseTensor(b)
			checkTensor(t, "CloseTensor", u, code, plainClose(b))
		}
	}
}

func TestClosedIdentities(t *testing.T) {
	for _, p := range primes {
		for n := int64(1); n <= 6; n++ {
			if u, code := impl.CloseTensor(identity(t, p, n, 1)); u.In != 0 || u.Out != 0 || !slices.Equal(u.Numbers, []int64{n % p}) || code != impl.ErrNone {
				t.Errorf("CloseTensor of the identity of 1 of the size %d = %v, %d", n, u, code)
			}
			u, code := impl.CloseTensor(swapOf(t, p, n))
			checkTensor(t, "CloseTensor of a swap", u, code, plainIdentity(p, n, 1))
			a, b := drawnTensor(p, n, 1, 2, 1), drawnTensor(p, n, 2, 1, 2)
			first, _ := impl.CloseTensor(composed(t, a, b))
			second, _ := impl.CloseTensor(composed(t, b, a))
			second, code = impl.CloseTensor(second)
			checkTensor(t, "CloseTensor of compositions", second, code, first)
		}
	}
	full := plainTensor(13, 6, 2, 2, func(below, above []int64) int64 { return 12 })
	u, code := impl.CloseTensor(full)
	checkTensor(t, "CloseTensor", u, code, plainTensor(13, 6, 1, 1, func(below, above []int64) int64 { return 72 }))
}

// TestTracesByTensors checks that the closed product tensor has traces as its values.
func TestTracesByTensors(t *testing.T) {
	for _, a := range formSamples(t) {
		u, code := impl.CloseTensor(tensorBy(t, impl.ProductTensor, a))
		if code != impl.ErrNone || u.In != 1 || u.Out != 0 {
			t.Fatalf("CloseTensor of the product of %v = %v, %d", a, u, code)
		}
		for _, v := range drawnVectors(a, 3) {
			if value, code := impl.ValueAt(u, []impl.Vector{v}); !slices.Equal(value, []int64{plainTrace(a, v)}) || code != impl.ErrNone {
				t.Errorf("%v: the trace of %v is %v, %d", a, v, value, code)
			}
		}
	}
}

// vectorsFor returns drawn vectors for a prime and a size.
func vectorsFor(p, n int64, count int) []impl.Vector {
	return drawnVectors(impl.Algebra{Prime: p, Size: n}, count)
}

func TestValues(t *testing.T) {
	for n := int64(1); n <= 6; n++ {
		for i, a := range shapeTensors(primeAt(int(n)), n, 7) {
			for k, b := range []impl.Tensor{a, drawnTensor(primeAt(i), n, a.In, a.Out, 8)} {
				vectors := vectorsFor(b.Prime, n, int(b.In)+k)[k:]
				value, code := impl.ValueAt(b, vectors)
				if !slices.Equal(value, plainValue(b, vectors)) || code != impl.ErrNone {
					t.Errorf("ValueAt(%v, %v) = %v, %d", b, vectors, value, code)
				}
			}
			if a.In == 0 {
				for _, none := range [][]impl.Vector{nil, {}} {
					if value, code := impl.ValueAt(a, none); !slices.Equal(value, a.Numbers) || code != impl.ErrNone {
						t.Errorf("ValueAt(%v) without vectors = %v, %d", a, value, code)
					}
				}
			}
		}
	}
	for _, p := range primes {
		full := plainTensor(p, 6, 3, 1, func(below, above []int64) int64 { return p - 1 })
		most := byte(p - 1)
		v := impl.Vector{most, most, most, most, most, most}
		if value, code := impl.ValueAt(full, []impl.Vector{v, v, v}); !slices.Equal(value, plainValue(full, []impl.Vector{v, v, v})) || code != impl.ErrNone {
			t.Errorf("ValueAt of greatest numbers = %v, %d", value, code)
		}
	}
}

func TestValuesOfAlgebras(t *testing.T) {
	for _, a := range formSamples(t) {
		product, form := tensorBy(t, impl.ProductTensor, a), tensorBy(t, impl.FormTensor, a)
		list := drawnVectors(a, 4)
		for i, v := range list {
			w := list[3-i]
			if value, code := impl.ValueAt(product, []impl.Vector{v, w}); !slices.Equal(value, numbersOf(a, plainProduct(a, v, w))) || code != impl.ErrNone {
				t.Errorf("%v: the product of %v and %v is %v, %d", a, v, w, value, code)
			}
			if value, code := impl.ValueAt(form, []impl.Vector{v}); !slices.Equal(value, []int64{plainForm(a, v)}) || code != impl.ErrNone {
				t.Errorf("%v: the form of %v is %v, %d", a, v, value, code)
			}
		}
		if value, code := impl.ValueAt(tensorBy(t, impl.UnitTensor, a), nil); !slices.Equal(value, numbersOf(a, unitOf(t, a))) || code != impl.ErrNone {
			t.Errorf("%v: the unit is %v, %d", a, value, code)
		}
	}
}

// TestValuesOfCompositions checks that a composition makes of vectors what its tensors make of them
// one after the other.
func TestValuesOfCompositions(t *testing.T) {
	for n := int64(1); n <= 6; n++ {
		for _, p := range primes {
			a, b := drawnTensor(p, n, 2, 1, 1), drawnTensor(p, n, 1, 2, 2)
			vectors := vectorsFor(p, n, 2)
			middle, _ := impl.ValueAt(a, vectors)
			last, code := impl.ValueAt(b, []impl.Vector{vectorFrom(middle)})
			value, more := impl.ValueAt(composed(t, a, b), vectors)
			if !slices.Equal(last, value) || code != impl.ErrNone || more != impl.ErrNone {
				t.Errorf("%v, and behind it %v, make of %v %v and %v", a, b, vectors, last, value)
			}
		}
	}
}

// checkNoValue checks that there is no value, with a code.
func checkNoValue(t *testing.T, why string, u impl.Tensor, vectors []impl.Vector, want int64) {
	t.Helper()
	if value, code := impl.ValueAt(u, vectors); len(value) != 0 || code != want {
		t.Errorf("%s: ValueAt(%v, %v) = %v, %d", why, u, vectors, value, code)
	}
}

func TestBadValues(t *testing.T) {
	a := drawnTensor(5, 2, 2, 1, 1)
	for _, v := range badVectors() {
		for _, list := range [][]impl.Vector{{v, {1}}, {{1}, v}, {v}, {{1}, {}, v}, {v, {}, {}}, {{}, {}, {}, {}, {}, {}, {}, {}, v}} {
			checkNoValue(t, "bad vector", a, list, impl.ErrInvalid)
			checkNoValue(t, "bad vector without legs", drawnTensor(5, 2, 0, 1, 1), list, impl.ErrInvalid)
		}
	}
	for n := int64(1); n <= 6; n++ {
		for _, shape := range shapes(n) {
			u := drawnTensor(3, n, shape[0], shape[1], 1)
			for _, count := range []int64{u.In - 1, u.In + 1, 9, 1000} {
				if count >= 0 && count != u.In {
					checkNoValue(t, "bad number of vectors", u, make([]impl.Vector, count), impl.ErrRange)
				}
			}
		}
		var last impl.Vector
		last[n-1] = 4
		u := drawnTensor(5, n, 1, 0, 1)
		if value, code := impl.ValueAt(u, []impl.Vector{last}); !slices.Equal(value, plainValue(u, []impl.Vector{last})) || code != impl.ErrNone {
			t.Errorf("ValueAt(%v, %v) = %v, %d", u, last, value, code)
		}
		last[n-1] = 5
		checkNoValue(t, "number p", u, []impl.Vector{last}, impl.ErrInvalid)
		if n < 6 {
			last = impl.Vector{}
			last[n] = 1
			checkNoValue(t, "number behind the size", u, []impl.Vector{last}, impl.ErrInvalid)
		}
	}
}

func TestAddedTensors(t *testing.T) {
	for n := int64(1); n <= 6; n++ {
		for i, shape := range shapes(n) {
			p := primeAt(i)
			a, b := drawnTensor(p, n, shape[0], shape[1], 1), drawnTensor(p, n, shape[0], shape[1], 2)
			for k := range p {
				u, code := impl.AddTensors(a, b, k)
				checkTensor(t, "AddTensors", u, code, plainTensor(p, n, a.In, a.Out, func(below, above []int64) int64 {
					return numberAt(a, below, above) + k*numberAt(b, below, above)
				}))
			}
			for _, k := range []int64{p, p + 1, -1, math.MaxInt64, math.MinInt64, 1 << 32, 256} {
				u, code := impl.AddTensors(a, b, k)
				checkNoTensor(t, "AddTensors", u, code, impl.ErrRange)
			}
			u, code := impl.AddTensors(a, a, p-1)
			checkTensor(t, "AddTensors", u, code, plainTensor(p, n, a.In, a.Out, func(below, above []int64) int64 { return 0 }))
		}
	}
}

// TestTensorsApart checks tensors of different primes, sizes and legs.
func TestTensorsApart(t *testing.T) {
	a := drawnTensor(5, 2, 1, 1, 1)
	apart := map[string]impl.Tensor{"prime": drawnTensor(7, 2, 1, 1, 1), "size": drawnTensor(5, 3, 1, 1, 1),
		"both": drawnTensor(2, 1, 1, 1, 1), "prime alone": {Prime: 11, Size: 2, In: 1, Out: 1, Numbers: a.Numbers}}
	for why, b := range apart {
		for _, two := range [][2]impl.Tensor{{a, b}, {b, a}} {
			u, code := impl.ComposeTensors(two[0], two[1])
			checkNoTensor(t, "ComposeTensors: "+why, u, code, impl.ErrRange)
			u, code = impl.SideTensors(two[0], two[1])
			checkNoTensor(t, "SideTensors: "+why, u, code, impl.ErrRange)
			u, code = impl.AddTensors(two[0], two[1], 1)
			checkNoTensor(t, "AddTensors: "+why, u, code, impl.ErrRange)
		}
	}
	for _, shape := range [][2]int64{{0, 0}, {0, 1}, {1, 0}, {0, 2}, {2, 0}, {2, 1}, {1, 2}, {2, 2}} {
		b := drawnTensor(5, 2, shape[0], shape[1], 1)
		u, code := impl.AddTensors(a, b, 1)
		checkNoTensor(t, "AddTensors with other legs", u, code, impl.ErrRange)
		u, code = impl.AddTensors(b, a, 0)
		checkNoTensor(t, "AddTensors with other legs", u, code, impl.ErrRange)
	}
	// The size 1 has one number, and the size 2 without legs as well.
	u, code := impl.AddTensors(drawnTensor(5, 1, 0, 0, 1), drawnTensor(5, 2, 0, 0, 1), 1)
	checkNoTensor(t, "AddTensors", u, code, impl.ErrRange)
	u, code = impl.AddTensors(drawnTensor(5, 1, 2, 3, 1), drawnTensor(5, 1, 3, 2, 1), 1)
	checkNoTensor(t, "AddTensors", u, code, impl.ErrRange)
	u, code = impl.ComposeTensors(drawnTensor(5, 1, 2, 3, 1), drawnTensor(5, 1, 4, 2, 1))
	checkNoTensor(t, "ComposeTensors", u, code, impl.ErrRange)
	u, code = impl.SideTensors(drawnTensor(5, 1, 0, 0, 1), drawnTensor(5, 2, 0, 0, 1))
	checkNoTensor(t, "SideTensors", u, code, impl.ErrRange)
}

// TestBrokenTensors checks that what is no tensor is told first, whatever else is wrong.
func TestBrokenTensors(t *testing.T) {
	goods := []impl.Tensor{drawnTensor(5, 2, 1, 1, 1), drawnTensor(7, 3, 1, 2, 1), drawnTensor(5, 2, 8, 2, 1), drawnTensor(5, 1, 0, 0, 1), drawnTensor(5, 6, 0, 4, 1)}
	for why, u := range brokenTensors() {
		for _, good := range append(goods, u) {
			for _, two := range [][2]impl.Tensor{{u, good}, {good, u}} {
				x, code := impl.ComposeTensors(two[0], two[1])
				checkNoTensor(t, "ComposeTensors: "+why, x, code, impl.ErrInvalid)
				x, code = impl.SideTensors(two[0], two[1])
				checkNoTensor(t, "SideTensors: "+why, x, code, impl.ErrInvalid)
				for _, k := range []int64{0, 1, -1, 5, math.MaxInt64} {
					x, code = impl.AddTensors(two[0], two[1], k)
					checkNoTensor(t, "AddTensors: "+why, x, code, impl.ErrInvalid)
				}
			}
		}
		for _, list := range [][]int64{nil, {0}, {0, 1}, {0, 0}, {-1}} {
			x, code := impl.PermuteTensor(u, list, list)
			checkNoTensor(t, "PermuteTensor: "+why, x, code, impl.ErrInvalid)
			x, code = impl.PermuteTensor(u, list, nil)
			checkNoTensor(t, "PermuteTensor: "+why, x, code, impl.ErrInvalid)
		}
		x, code := impl.CloseTensor(u)
		checkNoTensor(t, "CloseTensor: "+why, x, code, impl.ErrInvalid)
		for _, vectors := range [][]impl.Vector{nil, {{}}, {{1}}, {{1}, {1}}, {{255}}, make([]impl.Vector, 9)} {
			checkNoValue(t, why, u, vectors, impl.ErrInvalid)
		}
	}
}

// TestOrderOfTensorErrors checks that ErrRange is told before ErrLimit.
func TestOrderOfTensorErrors(t *testing.T) {
	low, high := drawnTensor(5, 2, 8, 2, 1), drawnTensor(5, 2, 2, 8, 1)
	u, code := impl.ComposeTensors(low, high)
	checkNoTensor(t, "ComposeTensors", u, code, impl.ErrLimit)
	u, code = impl.SideTensors(low, high)
	checkNoTensor(t, "SideTensors", u, code, impl.ErrLimit)
	other := high
	other.Prime = 7
	longer := drawnTensor(5, 2, 1, 8, 1)
	wider := drawnTensor(5, 3, 2, 4, 1)
	for _, b := range []impl.Tensor{other, longer, wider} {
		u, code = impl.ComposeTensors(low, b)
		checkNoTensor(t, "ComposeTensors", u, code, impl.ErrRange)
	}
	for _, b := range []impl.Tensor{other, wider} {
		u, code = impl.SideTensors(low, b)
		checkNoTensor(t, "SideTensors", u, code, impl.ErrRange)
	}
	scalars := drawnTensor(5, 6, 4, 0, 1)
	u, code = impl.ComposeTensors(scalars, drawnTensor(5, 6, 0, 1, 1))
	checkNoTensor(t, "ComposeTensors", u, code, impl.ErrLimit)
	u, code = impl.ComposeTensors(scalars, drawnTensor(5, 6, 0, 0, 1))
	checkTensor(t, "ComposeTensors", u, code, plainCompose(scalars, drawnTensor(5, 6, 0, 0, 1)))
}

// withSpare returns a tensor of the same numbers with marked memory behind them, and all of this.
func withSpare(u impl.Tensor) (impl.Tensor, []int64) {
	all := append(append([]int64{}, u.Numbers...), 77, 78, 79, 80, 81, 82, 83, 84)
	u.Numbers = all[:len(u.Numbers)]
	return u, all
}

// checkMemory checks that a call leaves lists as they are, also behind their ends, and that what is
// done with its result, also behind its end, is seen neither in them nor in the next result.
func checkMemory(t *testing.T, why string, call func() []int64, lists ...[]int64) {
	t.Helper()
	var kept [][]int64
	for _, list := range lists {
		kept = append(kept, append([]int64{}, list...))
	}
	unchanged := func(what string) {
		t.Helper()
		for i, list := range lists {
			if !slices.Equal(list, kept[i]) {
				t.Errorf("%s: %s changed %v to %v", why, what, kept[i], list)
			}
		}
	}
	result := call()
	unchanged("the call")
	copied := append([]int64{}, result...)
	all := result[:cap(result)]
	for i := range all {
		all[i] = 99
	}
	unchanged("the result")
	if again := call(); !slices.Equal(again, copied) {
		t.Errorf("%s: %v, and then %v", why, copied, again)
	}
}

func numbersBy(u impl.Tensor, code int64) []int64 {
	return u.Numbers
}

func TestTensorMemory(t *testing.T) {
	a, first := withSpare(drawnTensor(5, 2, 2, 2, 1))
	b, second := withSpare(drawnTensor(5, 2, 2, 2, 2))
	none, third := withSpare(identity(t, 5, 2, 0))
	two, fourth := withSpare(identity(t, 5, 2, 2))
	orders := []int64{1, 0, 5, 5, 5, 5, 0, 1, 6, 6, 6, 6}
	checkMemory(t, "ComposeTensors", func() []int64 { return numbersBy(impl.ComposeTensors(a, b)) }, first, second)
	checkMemory(t, "ComposeTensors", func() []int64 { return numbersBy(impl.ComposeTensors(a, two)) }, first, fourth)
	checkMemory(t, "SideTensors", func() []int64 { return numbersBy(impl.SideTensors(a, b)) }, first, second)
	checkMemory(t, "SideTensors", func() []int64 { return numbersBy(impl.SideTensors(a, none)) }, first, third)
	checkMemory(t, "SideTensors", func() []int64 { return numbersBy(impl.SideTensors(none, a)) }, first, third)
	checkMemory(t, "PermuteTensor", func() []int64 { return numbersBy(impl.PermuteTensor(a, orders[:2], orders[6:8])) }, first, orders)
	checkMemory(t, "PermuteTensor", func() []int64 { return numbersBy(impl.PermuteTensor(a, orders[6:8], orders[6:8])) }, first, orders)
	checkMemory(t, "PermuteTensor", func() []int64 { return numbersBy(impl.PermuteTensor(none, orders[:0], orders[6:6])) }, third, orders)
	checkMemory(t, "CloseTensor", func() []int64 { return numbersBy(impl.CloseTensor(a)) }, first)
	for k := range int64(5) {
		checkMemory(t, "AddTensors", func() []int64 { return numbersBy(impl.AddTensors(a, b, k)) }, first, second)
		checkMemory(t, "AddTensors", func() []int64 { return numbersBy(impl.AddTensors(a, a, k)) }, first)
	}
	value := func(u impl.Tensor, vectors []impl.Vector) []int64 {
		list, _ := impl.ValueAt(u, vectors)
		return list
	}
	vectors := vectorsFor(5, 2, 4)
	kept := append([]impl.Vector{}, vectors...)
	checkMemory(t, "ValueAt", func() []int64 { return value(a, vectors[:2]) }, first)
	checkMemory(t, "ValueAt", func() []int64 { return value(none, vectors[:0]) }, third)
	if !sameVectors(vectors, kept) {
		t.Errorf("ValueAt changed %v to %v", kept, vectors)
	}
	checkMemory(t, "IdentityTensor", func() []int64 { return numbersBy(impl.IdentityTensor(5, 2, 2)) })
	checkMemory(t, "SwapTensor", func() []int64 { return numbersBy(impl.SwapTensor(5, 2)) })
	plane := quantumPlane(t)
	checkMemory(t, "ProductTensor", func() []int64 { return numbersBy(impl.ProductTensor(plane)) })
	checkMemory(t, "CoproductTensor", func() []int64 { return numbersBy(impl.CoproductTensor(plane)) })
	checkMemory(t, "UnitTensor", func() []int64 { return numbersBy(impl.UnitTensor(plane)) })
	checkMemory(t, "FormTensor", func() []int64 { return numbersBy(impl.FormTensor(plane)) })
}
