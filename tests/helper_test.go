package tests

import (
	"testing"

	"loop.example/g01267/impl"
)

var primes = []int64{2, 3, 5, 7, 11, 13}

// named returns the algebra with a name.
func named(t *testing.T, name string, p int64) impl.Algebra {
	t.Helper()
	a, code := impl.NamedAlgebra(name, p)
	if code != impl.ErrNone {
		t.Fatalf("NamedAlgebra(%q, %d): code %d", name, p, code)
	}
	return a
}

// parsed returns the algebra with a text.
func parsed(t *testing.T, text string) impl.Algebra {
	t.Helper()
	a, code := impl.ParseAlgebra(text)
	if code != impl.ErrNone {
		t.Fatalf("ParseAlgebra(%q): code %d", text, code)
	}
	return a
}

func sumOf(t *testing.T, a, b impl.Algebra) impl.Algebra {
	t.Helper()
	sum, code := impl.AddAlgebras(a, b)
	if code != impl.ErrNone {
		t.Fatalf("AddAlgebras(%v, %v): code %d", a, b, code)
	}
	return sum
}

func tensorOf(t *testing.T, a, b impl.Algebra) impl.Algebra {
	t.Helper()
	tensor, code := impl.TensorAlgebras(a, b)
	if code != impl.ErrNone {
		t.Fatalf("TensorAlgebras(%v, %v): code %d", a, b, code)
	}
	return tensor
}

func oppositeOf(t *testing.T, a impl.Algebra) impl.Algebra {
	t.Helper()
	opposite, code := impl.OppositeAlgebra(a)
	if code != impl.ErrNone {
		t.Fatalf("OppositeAlgebra(%v): code %d", a, code)
	}
	return opposite
}

// oddAlgebras returns algebras that lack what those with names have: upper triangular matrices
// (not commutative, not Frobenius, the unit 1, 0, 1), a basis x, y of square 0 (not Frobenius for
// any form), the dual numbers with a bad form, and with another basis; the field of four numbers;
// and the field of the size 1 with another basis vector than its unit.
func oddAlgebras(t *testing.T) []impl.Algebra {
	return []impl.Algebra{
		parsed(t, "3:3:100,010,000,000,000,010,000,000,001:101"),
		parsed(t, "5:3:100,010,001,010,000,000,001,000,000:011"),
		parsed(t, "7:2:10,01,01,00:10"),
		parsed(t, "13:2:00,10,10,01:c5"),
		parsed(t, "2:2:10,01,01,11:01"),
		parsed(t, "11:1:2:a"),
		parsed(t, "11:1:1:0"),
	}
}

// sampleAlgebras returns the algebras with names for all primes, sums, tensor products and opposite
// ones of them, and odd ones.
func sampleAlgebras(t *testing.T) []impl.Algebra {
	t.Helper()
	samples := oddAlgebras(t)
	for _, p := range primes {
		for _, name := range impl.AlgebraNames() {
			samples = append(samples, named(t, name, p))
		}
		field, dual, pair := named(t, "field", p), named(t, "dual", p), named(t, "pair", p)
		cyclic, matrix := named(t, "cyclic3", p), named(t, "matrix", p)
		samples = append(samples, sumOf(t, dual, matrix), sumOf(t, cyclic, cyclic),
			sumOf(t, field, dual), tensorOf(t, dual, cyclic), tensorOf(t, pair, dual),
			tensorOf(t, field, matrix), oppositeOf(t, matrix),
			oppositeOf(t, named(t, "symmetric", p)))
	}
	return append(samples, oppositeOf(t, samples[0]), tensorOf(t, samples[0], named(t, "dual", 3)))
}

// vectorAt returns the vector with the digits of number, to the base of the prime.
func vectorAt(a impl.Algebra, number int64) impl.Vector {
	var v impl.Vector
	for i := a.Size - 1; i >= 0; i-- {
		v[i] = byte(number % a.Prime)
		number /= a.Prime
	}
	return v
}

// countVectors returns the number of vectors of an algebra.
func countVectors(a impl.Algebra) int64 {
	count := int64(1)
	for range a.Size {
		count *= a.Prime
	}
	return count
}

// someVectors returns all vectors of an algebra if there are at most 150, and else as many of them,
// the first ones and some that lie far apart.
func someVectors(a impl.Algebra) []impl.Vector {
	const most = 150
	count := countVectors(a)
	var list []impl.Vector
	for i := range min(count, most) {
		number := i
		if count > most && i >= 20 {
			number = i * 999983 % count
		}
		list = append(list, vectorAt(a, number))
	}
	return list
}

// plainProduct is the product straight from the definition.
func plainProduct(a impl.Algebra, v, w impl.Vector) impl.Vector {
	var result impl.Vector
	for k := range result {
		sum := int64(0)
		for i := range 6 {
			for j := range 6 {
				sum += int64(v[i]) * int64(w[j]) * int64(a.Table[i][j][k])
			}
		}
		result[k] = byte(sum % a.Prime)
	}
	return result
}

// plainForm is the form straight from the definition.
func plainForm(a impl.Algebra, v impl.Vector) int64 {
	sum := int64(0)
	for i := range v {
		sum += int64(v[i]) * int64(a.Form[i])
	}
	return sum % a.Prime
}

func plainSum(a impl.Algebra, v, w impl.Vector, k int64) impl.Vector {
	for i := range v {
		v[i] = byte((int64(v[i]) + k*int64(w[i])) % a.Prime)
	}
	return v
}

func times(t *testing.T, a impl.Algebra, v, w impl.Vector) impl.Vector {
	t.Helper()
	x, code := impl.MultiplyVectors(a, v, w)
	if code != impl.ErrNone {
		t.Fatalf("MultiplyVectors(%v, %v, %v): code %d", a, v, w, code)
	}
	return x
}

func unitOf(t *testing.T, a impl.Algebra) impl.Vector {
	t.Helper()
	unit, code := impl.UnitOf(a)
	if code != impl.ErrNone {
		t.Fatalf("UnitOf(%v): code %d", a, code)
	}
	return unit
}
