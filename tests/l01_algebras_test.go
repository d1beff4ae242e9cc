package tests

import (
	"strings"
	"testing"

	"loop.example/g01267/impl"
)

func TestCodesAndLimits(t *testing.T) {
	codes := []int64{impl.ErrNone, impl.ErrInvalid, impl.ErrRange, impl.ErrLimit, impl.ErrNotFound, impl.ErrState, impl.ErrSyntax}
	for want, code := range codes {
		if code != int64(want) {
			t.Errorf("code %d is %d", want, code)
		}
	}
	if impl.MaxSize != 6 || impl.MaxPower != 1000 {
		t.Errorf("limits are %d, %d", impl.MaxSize, impl.MaxPower)
	}
}

func TestAlgebraNames(t *testing.T) {
	want := "field dual pair cyclic3 symmetric matrix"
	names := impl.AlgebraNames()
	if strings.Join(names, " ") != want {
		t.Errorf("AlgebraNames = %v", names)
	}
	names[0] = "changed"
	if again := impl.AlgebraNames(); strings.Join(again, " ") != want {
		t.Errorf("AlgebraNames shares memory: %v", again)
	}
}

func TestNamedAlgebras(t *testing.T) {
	texts := map[string]string{
		"field":   "1:1:1",
		"dual":    "2:10,01,01,00:01",
		"pair":    "2:10,00,00,01:11",
		"cyclic3": "3:100,010,001,010,001,100,001,100,010:100",
		"matrix": "4:1000,0100,0000,0000,0000,0000,1000,0100," +
			"0010,0001,0000,0000,0000,0000,0010,0001:1001",
	}
	// Rows of the places of products: e(i) e(j) is the list with a(b(k)) at k.
	symmetric := [6][6]int64{
		{0, 1, 2, 3, 4, 5},
		{1, 0, 4, 5, 2, 3},
		{2, 3, 0, 1, 5, 4},
		{3, 2, 5, 4, 0, 1},
		{4, 5, 1, 0, 3, 2},
		{5, 4, 3, 2, 1, 0},
	}
	for _, p := range primes {
		for name, text := range texts {
			if a := named(t, name, p); a != parsed(t, primeText(p)+":"+text) {
				t.Errorf("NamedAlgebra(%q, %d) = %v", name, p, a)
			}
		}
		want := impl.Algebra{Prime: p, Size: 6, Form: impl.Vector{1}}
		for i := range 6 {
			for j := range 6 {
				want.Table[i][j][symmetric[i][j]] = 1
			}
		}
		if a := named(t, "symmetric", p); a != want {
			t.Errorf("NamedAlgebra(symmetric, %d) = %v", p, a)
		}
	}
}

func primeText(p int64) string {
	if p > 9 {
		return "1" + string(rune('0'+p-10))
	}
	return string(rune('0' + p))
}

func TestNamedAlgebraErrors(t *testing.T) {
	for _, p := range []int64{-2, -1, 0, 1, 4, 6, 8, 9, 10, 12, 14, 17, 258, 1 << 62, -1 << 63} {
		for _, name := range []string{"field", "nothing", ""} {
			if a, code := impl.NamedAlgebra(name, p); a != (impl.Algebra{}) || code != impl.ErrRange {
				t.Errorf("NamedAlgebra(%q, %d) = %v, %d", name, p, a, code)
			}
		}
	}
	for _, name := range []string{"", "Field", "field ", "fields", "cyclic", "cyclic2", "dual\n"} {
		if a, code := impl.NamedAlgebra(name, 13); a != (impl.Algebra{}) || code != impl.ErrNotFound {
			t.Errorf("NamedAlgebra(%q, 13) = %v, %d", name, a, code)
		}
	}
}

func TestSamplesAreAlgebras(t *testing.T) {
	for _, a := range sampleAlgebras(t) {
		if !impl.IsAlgebra(a) {
			t.Errorf("IsAlgebra(%v) is false", a)
		}
	}
}

// brokenAlgebras returns what is no algebra, each for another reason.
func brokenAlgebras(t *testing.T) map[string]impl.Algebra {
	broken := map[string]impl.Algebra{"zero value": {}, "prime alone": {Prime: 5}, "product 0": {Prime: 5, Size: 1}}
	change := func(why string, name string, p int64, f func(a *impl.Algebra)) {
		a := named(t, name, p)
		f(&a)
		broken[why] = a
	}
	change("prime 0", "dual", 5, func(a *impl.Algebra) { a.Prime = 0 })
	change("prime 1", "field", 5, func(a *impl.Algebra) { a.Prime = 1 })
	change("prime 4", "dual", 5, func(a *impl.Algebra) { a.Prime = 4 })
	change("prime 17", "dual", 5, func(a *impl.Algebra) { a.Prime = 17 })
	change("prime -5", "dual", 5, func(a *impl.Algebra) { a.Prime = -5 })
	change("prime 261", "dual", 5, func(a *impl.Algebra) { a.Prime = 261 })
	change("size 0", "field", 5, func(a *impl.Algebra) { a.Size = 0 })
	change("size -1", "field", 5, func(a *impl.Algebra) { a.Size = -1 })
	change("size 7", "symmetric", 5, func(a *impl.Algebra) { a.Size = 7 })
	change("greatest size", "symmetric", 5, func(a *impl.Algebra) { a.Size = 1<<63 - 1 })
	change("least size", "symmetric", 5, func(a *impl.Algebra) { a.Size = -1 << 63 })
	change("size too small", "dual", 5, func(a *impl.Algebra) { a.Size = 1 })
	change("size too great", "dual", 5, func(a *impl.Algebra) { a.Size = 3 })
	change("table with p", "dual", 5, func(a *impl.Algebra) { a.Table[1][1][0] = 5 })
	change("table with p + 1 for 1", "dual", 5, func(a *impl.Algebra) { a.Table[0][0][0] = 6 })
	change("table with 255", "dual", 5, func(a *impl.Algebra) { a.Table[1][1][1] = 255 })
	change("form with p", "dual", 5, func(a *impl.Algebra) { a.Form[0] = 5 })
	change("first index behind", "dual", 5, func(a *impl.Algebra) { a.Table[2][0][0] = 1 })
	change("second index behind", "dual", 5, func(a *impl.Algebra) { a.Table[0][2][1] = 1 })
	change("third index behind", "dual", 5, func(a *impl.Algebra) { a.Table[1][1][2] = 1 })
	change("last number behind", "dual", 5, func(a *impl.Algebra) { a.Table[5][5][5] = 1 })
	change("form behind", "dual", 5, func(a *impl.Algebra) { a.Form[2] = 1 })
	change("form far behind", "dual", 5, func(a *impl.Algebra) { a.Form[5] = 4 })
	change("no products", "pair", 3, func(a *impl.Algebra) { a.Table = [6][6][6]byte{} })
	change("no unit", "pair", 3, func(a *impl.Algebra) { a.Table[1][1] = impl.Vector{} })
	broken["left units alone"] = impl.Algebra{Prime: 2, Size: 2, Table: [6][6][6]byte{{{1}, {0, 1}}, {{1}, {0, 1}}}}
	broken["right units alone"] = impl.Algebra{Prime: 2, Size: 2, Table: [6][6][6]byte{{{1}, {1}}, {{0, 1}, {0, 1}}}}
	// e(0) is a unit, but (e(1) e(1)) e(1) = 0, and e(1) (e(1) e(1)) = e(1).
	broken["not associative"] = impl.Algebra{Prime: 3, Size: 3, Table: [6][6][6]byte{
		{{1}, {0, 1}, {0, 0, 1}}, {{0, 1}, {0, 0, 1}, {0, 1}}, {{0, 0, 1}, {}, {}}}}
	change("last triple not associative", "symmetric", 7, func(a *impl.Algebra) { a.Table[5][5] = impl.Vector{1, 0, 0, 0, 0, 1} })
	return broken
}

func TestBrokenAlgebras(t *testing.T) {
	for why, a := range brokenAlgebras(t) {
		if impl.IsAlgebra(a) {
			t.Errorf("%s: IsAlgebra is true", why)
		}
		checkAllInvalid(t, why, a, impl.Vector{})
	}
}

// badVectors returns what is no vector of the algebra dual for the prime 5.
func badVectors() []impl.Vector {
	return []impl.Vector{{5}, {0, 5}, {255, 255}, {0, 0, 1}, {1, 1, 0, 0, 0, 1}, {0, 0, 0, 0, 0, 255}}
}

func TestBadVectors(t *testing.T) {
	dual, good := named(t, "dual", 5), impl.Vector{1, 1}
	for _, v := range badVectors() {
		checkVectorsInvalid(t, "bad vector", dual, v, good)
		if x, code := impl.MultiplyVectors(dual, good, v); x != (impl.Vector{}) || code != impl.ErrInvalid {
			t.Errorf("MultiplyVectors with %v: %v, %d", v, x, code)
		}
		if x, code := impl.AddVectors(dual, good, v, 0); x != (impl.Vector{}) || code != impl.ErrInvalid {
			t.Errorf("AddVectors with %v: %v, %d", v, x, code)
		}
	}
}

// checkVectorsInvalid checks all functions of an algebra and a vector, one of which is invalid; also
// with numbers out of their ranges, as ErrInvalid comes first.
func checkVectorsInvalid(t *testing.T, why string, a impl.Algebra, v, w impl.Vector) {
	t.Helper()
	for _, k := range []int64{0, 1, -1, 1001, 1 << 40} {
		if x, code := impl.AddVectors(a, v, w, k); x != (impl.Vector{}) || code != impl.ErrInvalid {
			t.Errorf("%s: AddVectors = %v, %d", why, x, code)
		}
		if x, code := impl.PowerVector(a, v, k); x != (impl.Vector{}) || code != impl.ErrInvalid {
			t.Errorf("%s: PowerVector = %v, %d", why, x, code)
		}
	}
	if x, code := impl.MultiplyVectors(a, v, w); x != (impl.Vector{}) || code != impl.ErrInvalid {
		t.Errorf("%s: MultiplyVectors = %v, %d", why, x, code)
	}
	if n, code := impl.FormOf(a, v); n != 0 || code != impl.ErrInvalid {
		t.Errorf("%s: FormOf = %d, %d", why, n, code)
	}
	if x, code := impl.InverseVector(a, v); x != (impl.Vector{}) || code != impl.ErrInvalid {
		t.Errorf("%s: InverseVector = %v, %d", why, x, code)
	}
	if s, code := impl.VectorText(a, v); s != "" || code != impl.ErrInvalid {
		t.Errorf("%s: VectorText = %q, %d", why, s, code)
	}
}

// checkAllInvalid checks all functions that take an algebra with what is none.
func checkAllInvalid(t *testing.T, why string, a impl.Algebra, v impl.Vector) {
	t.Helper()
	checkVectorsInvalid(t, why, a, v, v)
	checkVectorsInvalid(t, why, a, impl.Vector{255, 0, 0, 0, 0, 255}, v)
	if yes, code := impl.IsCommutative(a); yes || code != impl.ErrInvalid {
		t.Errorf("%s: IsCommutative = %v, %d", why, yes, code)
	}
	if yes, code := impl.IsFrobenius(a); yes || code != impl.ErrInvalid {
		t.Errorf("%s: IsFrobenius = %v, %d", why, yes, code)
	}
	if x, code := impl.UnitOf(a); x != (impl.Vector{}) || code != impl.ErrInvalid {
		t.Errorf("%s: UnitOf = %v, %d", why, x, code)
	}
	if x, code := impl.CentreOf(a); len(x) != 0 || code != impl.ErrInvalid {
		t.Errorf("%s: CentreOf = %v, %d", why, x, code)
	}
	if b, code := impl.OppositeAlgebra(a); b != (impl.Algebra{}) || code != impl.ErrInvalid {
		t.Errorf("%s: OppositeAlgebra = %v, %d", why, b, code)
	}
	if s, code := impl.AlgebraText(a); s != "" || code != impl.ErrInvalid {
		t.Errorf("%s: AlgebraText = %q, %d", why, s, code)
	}
	for _, text := range []string{"", "00", "zz"} {
		if x, code := impl.ParseVector(a, text); x != (impl.Vector{}) || code != impl.ErrInvalid {
			t.Errorf("%s: ParseVector = %v, %d", why, x, code)
		}
	}
	// The good partner has another prime and the greatest size: ErrInvalid comes first all the same.
	good := named(t, "symmetric", 11)
	for _, two := range [][2]impl.Algebra{{a, good}, {good, a}, {a, a}} {
		if b, code := impl.AddAlgebras(two[0], two[1]); b != (impl.Algebra{}) || code != impl.ErrInvalid {
			t.Errorf("%s: AddAlgebras = %v, %d", why, b, code)
		}
		if b, code := impl.TensorAlgebras(two[0], two[1]); b != (impl.Algebra{}) || code != impl.ErrInvalid {
			t.Errorf("%s: TensorAlgebras = %v, %d", why, b, code)
		}
	}
}

// plainUnit looks for a unit among all vectors.
func plainUnit(a impl.Algebra) (impl.Vector, bool) {
candidates:
	for i := range countVectors(a) {
		u := vectorAt(a, i)
		for j := range countVectors(a) {
			v := vectorAt(a, j)
			if plainProduct(a, u, v) != v || plainProduct(a, v, u) != v {
				continue candidates
			}
		}
		return u, true
	}
	return impl.Vector{}, false
}

// plainIsAssociative looks at all triples of basis vectors.
func plainIsAssociative(a impl.Algebra) bool {
	for i := range a.Size {
		for j := range a.Size {
			for k := range a.Size {
				var u, w impl.Vector
				u[i], w[k] = 1, 1
				if plainProduct(a, a.Table[i][j], w) != plainProduct(a, u, a.Table[j][k]) {
					return false
				}
			}
		}
	}
	return true
}

// plainIsFrobenius looks, for each vector other than 0, for one whose product has a form.
func plainIsFrobenius(a impl.Algebra) bool {
vectors:
	for i := int64(1); i < countVectors(a); i++ {
		for j := range countVectors(a) {
			if plainForm(a, plainProduct(a, vectorAt(a, i), vectorAt(a, j))) != 0 {
				continue vectors
			}
		}
		return false
	}
	return true
}

func plainIsCommutative(a impl.Algebra) bool {
	for i := range countVectors(a) {
		for j := range countVectors(a) {
			v, w := vectorAt(a, i), vectorAt(a, j)
			if plainProduct(a, v, w) != plainProduct(a, w, v) {
				return false
			}
		}
	}
	return true
}

// TestSmallTables goes through all tables of the sizes 1 and 2 for the least primes.
func TestSmallTables(t *testing.T) {
	found := map[[2]int64]int{}
	for _, kind := range [][2]int64{{2, 1}, {3, 1}, {5, 1}, {2, 2}, {3, 2}} {
		p, n := kind[0], kind[1]
		tables := int64(1)
		for range n * n * n {
			tables *= p
		}
		for number := range tables {
			a := impl.Algebra{Prime: p, Size: n}
			rest := number
			for i := range n * n * n {
				a.Table[i/(n*n)][i/n%n][i%n] = byte(rest % p)
				rest /= p
			}
			if checkSmallTable(t, a) {
				found[kind]++
			}
		}
	}
	if found[[2]int64{5, 1}] != 4 || found[[2]int64{2, 2}] == 0 || found[[2]int64{3, 2}] == 0 {
		t.Errorf("algebras found: %v", found)
	}
}

// checkSmallTable compares with the definitions, for all forms, and tells whether it is an algebra.
func checkSmallTable(t *testing.T, a impl.Algebra) bool {
	want := plainIsAssociative(a)
	var unit impl.Vector
	if want {
		unit, want = plainUnit(a)
	}
	if yes := impl.IsAlgebra(a); yes != want {
		t.Fatalf("IsAlgebra(%v) = %v", a, yes)
	}
	if !want {
		return false
	}
	if u := unitOf(t, a); u != unit {
		t.Errorf("UnitOf(%v) = %v", a, u)
	}
	if yes, code := impl.IsCommutative(a); yes != plainIsCommutative(a) || code != impl.ErrNone {
		t.Errorf("IsCommutative(%v) = %v, %d", a, yes, code)
	}
	for number := range countVectors(a) {
		a.Form = vectorAt(a, number)
		if yes, code := impl.IsFrobenius(a); yes != plainIsFrobenius(a) || code != impl.ErrNone {
			t.Errorf("IsFrobenius(%v) = %v, %d", a, yes, code)
		}
	}
	return true
}

func TestKinds(t *testing.T) {
	kinds := []struct {
		text                   string
		commutative, frobenius bool
		unit                   impl.Vector
	}{
		{"3:3:100,010,000,000,000,010,000,000,001:101", false, false, impl.Vector{1, 0, 1}},
		{"3:3:100,010,000,000,000,010,000,000,001:010", false, false, impl.Vector{1, 0, 1}},
		{"5:3:100,010,001,010,000,000,001,000,000:011", true, false, impl.Vector{1}},
		{"7:2:10,01,01,00:10", true, false, impl.Vector{1}},
		{"7:2:10,01,01,00:11", true, true, impl.Vector{1}},
		{"13:2:00,10,10,01:c5", true, true, impl.Vector{0, 1}},
		{"13:2:00,10,10,01:05", true, false, impl.Vector{0, 1}},
		{"11:1:2:a", true, true, impl.Vector{6}},
		{"11:1:1:0", true, false, impl.Vector{1}},
		{"5:2:10,00,00,01:10", true, false, impl.Vector{1, 1}},
		{"2:2:10,01,01,11:10", true, true, impl.Vector{1}},
	}
	for _, kind := range kinds {
		a := parsed(t, kind.text)
		if yes, code := impl.IsCommutative(a); yes != kind.commutative || code != impl.ErrNone {
			t.Errorf("%s: IsCommutative = %v, %d", kind.text, yes, code)
		}
		if yes, code := impl.IsFrobenius(a); yes != kind.frobenius || code != impl.ErrNone {
			t.Errorf("%s: IsFrobenius = %v, %d", kind.text, yes, code)
		}
		if unit := unitOf(t, a); unit != kind.unit {
			t.Errorf("%s: UnitOf = %v", kind.text, unit)
		}
	}
}

func TestKindsOfNamed(t *testing.T) {
	units := map[string]impl.Vector{"field": {1}, "dual": {1}, "pair": {1, 1}, "cyclic3": {1}, "symmetric": {1}, "matrix": {1, 0, 0, 1}}
	for _, p := range primes {
		for name, unit := range units {
			a := named(t, name, p)
			if yes, code := impl.IsFrobenius(a); !yes || code != impl.ErrNone {
				t.Errorf("IsFrobenius(%s, %d) = %v, %d", name, p, yes, code)
			}
			want := name != "symmetric" && name != "matrix"
			if yes, code := impl.IsCommutative(a); yes != want || code != impl.ErrNone {
				t.Errorf("IsCommutative(%s, %d) = %v, %d", name, p, yes, code)
			}
			if u := unitOf(t, a); u != unit {
				t.Errorf("UnitOf(%s, %d) = %v", name, p, u)
			}
		}
	}
}

// Promise 1: products are associative (and as defined, and units are units).
func TestProducts(t *testing.T) {
	for _, a := range sampleAlgebras(t) {
		unit := unitOf(t, a)
		list := someVectors(a)
		for i, v := range list {
			w, x := list[(7*i+3)%len(list)], list[(11*i+5)%len(list)]
			vw := times(t, a, v, w)
			if vw != plainProduct(a, v, w) {
				t.Errorf("MultiplyVectors(%v, %v, %v) = %v", a, v, w, vw)
			}
			if times(t, a, vw, x) != times(t, a, v, times(t, a, w, x)) {
				t.Errorf("%v: the product of %v, %v, %v is not associative", a, v, w, x)
			}
			if times(t, a, unit, v) != v || times(t, a, v, unit) != v {
				t.Errorf("%v: %v is no unit at %v", a, unit, v)
			}
		}
	}
}

func TestFormsAndSums(t *testing.T) {
	for _, a := range sampleAlgebras(t) {
		list := someVectors(a)
		for i, v := range list {
			w := list[(5*i+2)%len(list)]
			if n, code := impl.FormOf(a, v); n != plainForm(a, v) || code != impl.ErrNone {
				t.Errorf("FormOf(%v, %v) = %d, %d", a, v, n, code)
			}
			for _, k := range []int64{0, 1, a.Prime - 1} {
				if x, code := impl.AddVectors(a, v, w, k); x != plainSum(a, v, w, k) || code != impl.ErrNone {
					t.Errorf("AddVectors(%v, %v, %v, %d) = %v, %d", a, v, w, k, x, code)
				}
			}
		}
	}
	if n, code := impl.FormOf(named(t, "matrix", 7), impl.Vector{6, 1, 2, 5}); n != 4 || code != impl.ErrNone {
		t.Errorf("FormOf in matrix = %d, %d", n, code)
	}
}

func TestAddVectorsRange(t *testing.T) {
	for _, p := range primes {
		a := named(t, "pair", p)
		for _, k := range []int64{-1, p, p + 1, 1 << 62, -1 << 63} {
			if x, code := impl.AddVectors(a, impl.Vector{1, 1}, impl.Vector{1}, k); x != (impl.Vector{}) || code != impl.ErrRange {
				t.Errorf("AddVectors(p = %d, k = %d) = %v, %d", p, k, x, code)
			}
		}
	}
}

func TestPowers(t *testing.T) {
	for _, a := range sampleAlgebras(t) {
		list := someVectors(a)
		for i := 0; i < len(list); i += 41 {
			v := list[i]
			want := unitOf(t, a)
			for k := range int64(1001) {
				if k < 4 || k == 17 || k > 998 {
					if x, code := impl.PowerVector(a, v, k); x != want || code != impl.ErrNone {
						t.Errorf("PowerVector(%v, %v, %d) = %v, %d", a, v, k, x, code)
					}
				}
				want = plainProduct(a, want, v)
			}
		}
	}
	a := named(t, "matrix", 13)
	if x, code := impl.PowerVector(a, impl.Vector{}, 0); x != (impl.Vector{1, 0, 0, 1}) || code != impl.ErrNone {
		t.Errorf("PowerVector(0, 0) = %v, %d", x, code)
	}
	for _, k := range []int64{-1, 1001, 1 << 62, -1 << 63} {
		if x, code := impl.PowerVector(a, impl.Vector{1}, k); x != (impl.Vector{}) || code != impl.ErrRange {
			t.Errorf("PowerVector(%d) = %v, %d", k, x, code)
		}
	}
}

// Promise 1: inverses undo products; and there are all inverses that there can be.
func TestInverses(t *testing.T) {
	for _, a := range sampleAlgebras(t) {
		unit := unitOf(t, a)
		for i, v := range someVectors(a) {
			x, code := impl.InverseVector(a, v)
			switch code {
			case impl.ErrNone:
				w := vectorAt(a, int64(i)*31)
				if plainProduct(a, v, x) != unit || plainProduct(a, x, v) != unit {
					t.Errorf("InverseVector(%v, %v) = %v", a, v, x)
				}
				if times(t, a, times(t, a, w, v), x) != w || times(t, a, x, times(t, a, v, w)) != w {
					t.Errorf("%v: %v does not undo %v at %v", a, x, v, w)
				}
				if back, code := impl.InverseVector(a, x); back != v || code != impl.ErrNone {
					t.Errorf("InverseVector(%v, %v) = %v, %d", a, x, back, code)
				}
			case impl.ErrNotFound:
				if x != (impl.Vector{}) || isPlainInvertible(a, v) {
					t.Errorf("InverseVector(%v, %v) = %v, %d", a, v, x, code)
				}
			default:
				t.Errorf("InverseVector(%v, %v): code %d", a, v, code)
			}
		}
	}
}

// isPlainInvertible tells whether the map that makes of w the product v w has a determinant.
func isPlainInvertible(a impl.Algebra, v impl.Vector) bool {
	var rows []impl.Vector
	for i := range a.Size {
		var e impl.Vector
		e[i] = 1
		rows = append(rows, plainProduct(a, v, e))
	}
	return plainDeterminant(a, rows, 0, 0) != 0
}

// plainDeterminant expands along the first of the rows from first on, without the columns used.
func plainDeterminant(a impl.Algebra, rows []impl.Vector, first int, used int) int64 {
	if first == len(rows) {
		return 1
	}
	sum, sign := int64(0), int64(1)
	for column := range rows {
		if used>>column&1 == 1 {
			continue
		}
		if number := int64(rows[first][column]); number != 0 {
			sum += sign * number * plainDeterminant(a, rows, first+1, used|1<<column)
		}
		sign = -sign
	}
	return sum % a.Prime
}

func TestInverseOfZero(t *testing.T) {
	for _, a := range sampleAlgebras(t) {
		if x, code := impl.InverseVector(a, impl.Vector{}); x != (impl.Vector{}) || code != impl.ErrNotFound {
			t.Errorf("InverseVector(%v, 0) = %v, %d", a, x, code)
		}
		if n, code := impl.FormOf(a, impl.Vector{}); n != 0 || code != impl.ErrNone {
			t.Errorf("FormOf(%v, 0) = %d, %d", a, n, code)
		}
	}
}

func TestCentres(t *testing.T) {
	for _, a := range sampleAlgebras(t) {
		list, code := impl.CentreOf(a)
		if code != impl.ErrNone {
			t.Fatalf("CentreOf(%v): code %d", a, code)
		}
		checkReduced(t, a, list)
		for _, v := range someVectors(a) {
			if isPlainCentral(a, v) != isInSpan(a, list, v) {
				t.Errorf("CentreOf(%v) = %v is wrong at %v", a, list, v)
			}
		}
		for _, v := range list {
			if !isPlainCentral(a, v) {
				t.Errorf("CentreOf(%v): %v is not central", a, v)
			}
		}
		if !isInSpan(a, list, unitOf(t, a)) {
			t.Errorf("CentreOf(%v) = %v is without the unit", a, list)
		}
	}
}

func isPlainCentral(a impl.Algebra, v impl.Vector) bool {
	for i := range a.Size {
		var e impl.Vector
		e[i] = 1
		if plainProduct(a, v, e) != plainProduct(a, e, v) {
			return false
		}
	}
	return true
}

// leading returns the place of the first number other than 0, and 6 if there is none.
func leading(v impl.Vector) int {
	for i := range v {
		if v[i] != 0 {
			return i
		}
	}
	return 6
}

// checkReduced checks that a list is a reduced one.
func checkReduced(t *testing.T, a impl.Algebra, list []impl.Vector) {
	t.Helper()
	before := -1
	for i, v := range list {
		place := leading(v)
		if place == 6 || place <= before || v[place] != 1 {
			t.Errorf("%v: %v is not reduced", a, list)
			return
		}
		before = place
		for j, w := range list {
			if j != i && w[place] != 0 {
				t.Errorf("%v: %v is not reduced", a, list)
			}
		}
	}
}

// isInSpan tells whether v is a sum of multiples of the vectors of a reduced list.
func isInSpan(a impl.Algebra, list []impl.Vector, v impl.Vector) bool {
	rest := v
	for _, w := range list {
		rest = plainSum(a, rest, w, a.Prime-int64(v[leading(w)]))
	}
	return rest == impl.Vector{}
}

func TestCentreExamples(t *testing.T) {
	centres := []struct {
		name string
		list []impl.Vector
	}{
		{"field", []impl.Vector{{1}}},
		{"pair", []impl.Vector{{1}, {0, 1}}},
		{"matrix", []impl.Vector{{1, 0, 0, 1}}},
		{"symmetric", []impl.Vector{{1}, {0, 1, 1, 0, 0, 1}, {0, 0, 0, 1, 1}}},
	}
	for _, p := range primes {
		for _, centre := range centres {
			a := named(t, centre.name, p)
			list, code := impl.CentreOf(a)
			if !sameVectors(list, centre.list) || code != impl.ErrNone {
				t.Errorf("CentreOf(%s, %d) = %v, %d", centre.name, p, list, code)
			}
			list[0] = impl.Vector{9}
			if again, _ := impl.CentreOf(a); !sameVectors(again, centre.list) {
				t.Errorf("CentreOf(%s, %d) shares memory", centre.name, p)
			}
		}
	}
}

func sameVectors(a, b []impl.Vector) bool {
	if len(a) != len(b) {
		return false
	}
	for i := range a {
		if a[i] != b[i] {
			return false
		}
	}
	return true
}

func TestOpposite(t *testing.T) {
	changed := 0
	for _, a := range sampleAlgebras(t) {
		b := oppositeOf(t, a)
		if !impl.IsAlgebra(b) || b.Prime != a.Prime || b.Size != a.Size || b.Form != a.Form {
			t.Errorf("OppositeAlgebra(%v) = %v", a, b)
		}
		for i := range 6 {
			for j := range 6 {
				if b.Table[i][j] != a.Table[j][i] {
					t.Errorf("OppositeAlgebra(%v) is wrong at %d, %d", a, i, j)
				}
			}
		}
		if b != a {
			changed++
		}
		if oppositeOf(t, b) != a {
			t.Errorf("the opposite of the opposite of %v is another one", a)
		}
	}
	if changed == 0 {
		t.Errorf("each sample is its opposite")
	}
}

// partners returns pairs of algebras with equal primes.
func partners(t *testing.T) [][2]impl.Algebra {
	var pairs [][2]impl.Algebra
	list := oddAlgebras(t)
	for _, p := range []int64{2, 7, 13} {
		for _, name := range impl.AlgebraNames() {
			list = append(list, named(t, name, p))
		}
	}
	for _, a := range list {
		for _, b := range list {
			if a.Prime == b.Prime {
				pairs = append(pairs, [2]impl.Algebra{a, b})
			}
		}
	}
	return pairs
}

// numberIn returns the number of v at i, and 0 at what is no place of the algebra.
func numberIn(a impl.Algebra, v impl.Vector, i int64) byte {
	if i < 0 || i >= a.Size {
		return 0
	}
	return v[i]
}

func TestSums(t *testing.T) {
	for _, two := range partners(t) {
		a, b := two[0], two[1]
		sum, code := impl.AddAlgebras(a, b)
		if a.Size+b.Size > 6 {
			if sum != (impl.Algebra{}) || code != impl.ErrLimit {
				t.Errorf("AddAlgebras(%v, %v) = %v, %d", a, b, sum, code)
			}
			continue
		}
		if sum.Prime != a.Prime || sum.Size != a.Size+b.Size || code != impl.ErrNone || !impl.IsAlgebra(sum) {
			t.Errorf("AddAlgebras(%v, %v) = %v, %d", a, b, sum, code)
			continue
		}
		for k := range sum.Size {
			if sum.Form[k] != numberIn(a, a.Form, k)+numberIn(b, b.Form, k-a.Size) {
				t.Errorf("AddAlgebras(%v, %v): Form %v", a, b, sum.Form)
			}
		}
		for i := range sum.Size * sum.Size * sum.Size {
			x, y, z := i/sum.Size/sum.Size, i/sum.Size%sum.Size, i%sum.Size
			want := byte(0)
			if x < a.Size && y < a.Size {
				want = numberIn(a, a.Table[x][y], z)
			} else if x >= a.Size && y >= a.Size {
				want = numberIn(b, b.Table[x-a.Size][y-a.Size], z-a.Size)
			}
			if sum.Table[x][y][z] != want {
				t.Errorf("AddAlgebras(%v, %v) is wrong at %d, %d, %d", a, b, x, y, z)
			}
		}
		checkFrobeniusOfBoth(t, a, b, sum)
	}
}

// checkFrobeniusOfBoth checks that sums and tensor products are Frobenius as both of them are.
func checkFrobeniusOfBoth(t *testing.T, a, b, whole impl.Algebra) {
	t.Helper()
	first, _ := impl.IsFrobenius(a)
	second, _ := impl.IsFrobenius(b)
	if yes, code := impl.IsFrobenius(whole); yes != (first && second) || code != impl.ErrNone {
		t.Errorf("%v of %v, %v: IsFrobenius = %v, %d", whole, a, b, yes, code)
	}
}

func TestTensorProducts(t *testing.T) {
	for _, two := range partners(t) {
		a, b := two[0], two[1]
		m := b.Size
		tensor, code := impl.TensorAlgebras(a, b)
		if a.Size*m > 6 {
			if tensor != (impl.Algebra{}) || code != impl.ErrLimit {
				t.Errorf("TensorAlgebras(%v, %v) = %v, %d", a, b, tensor, code)
			}
			continue
		}
		if tensor.Prime != a.Prime || tensor.Size != a.Size*m || code != impl.ErrNone || !impl.IsAlgebra(tensor) {
			t.Errorf("TensorAlgebras(%v, %v) = %v, %d", a, b, tensor, code)
			continue
		}
		for k := range tensor.Size {
			if int64(tensor.Form[k]) != int64(a.Form[k/m])*int64(b.Form[k%m])%a.Prime {
				t.Errorf("TensorAlgebras(%v, %v): Form %v", a, b, tensor.Form)
			}
			for i := range tensor.Size * tensor.Size {
				x, y := i/tensor.Size, i%tensor.Size
				want := int64(a.Table[x/m][y/m][k/m]) * int64(b.Table[x%m][y%m][k%m]) % a.Prime
				if int64(tensor.Table[x][y][k]) != want {
					t.Errorf("TensorAlgebras(%v, %v) is wrong at %d, %d, %d", a, b, x, y, k)
				}
			}
		}
		checkFrobeniusOfBoth(t, a, b, tensor)
	}
}

func TestSizesOfJoined(t *testing.T) {
	sized := map[int64]impl.Algebra{1: named(t, "field", 5), 2: named(t, "dual", 5), 3: named(t, "cyclic3", 5), 4: named(t, "matrix", 5), 6: named(t, "symmetric", 5)}
	for n, a := range sized {
		for m, b := range sized {
			want := int64(impl.ErrNone)
			if n+m > 6 {
				want = impl.ErrLimit
			}
			if sum, code := impl.AddAlgebras(a, b); code != want || code == impl.ErrNone && sum.Size != n+m {
				t.Errorf("AddAlgebras of %d and %d: %v, %d", n, m, sum, code)
			}
			want = impl.ErrNone
			if n*m > 6 {
				want = impl.ErrLimit
			}
			if tensor, code := impl.TensorAlgebras(a, b); code != want || code == impl.ErrNone && tensor.Size != n*m {
				t.Errorf("TensorAlgebras of %d and %d: %v, %d", n, m, tensor, code)
			}
		}
	}
}

// TestJoinOrder checks that different primes are told before sizes that are too great.
func TestJoinOrder(t *testing.T) {
	for _, name := range impl.AlgebraNames() {
		a, b := named(t, name, 5), named(t, "symmetric", 7)
		if x, code := impl.AddAlgebras(a, b); x != (impl.Algebra{}) || code != impl.ErrRange {
			t.Errorf("AddAlgebras(%s) = %v, %d", name, x, code)
		}
		if x, code := impl.TensorAlgebras(b, a); x != (impl.Algebra{}) || code != impl.ErrRange {
			t.Errorf("TensorAlgebras(%s) = %v, %d", name, x, code)
		}
	}
}

// Promise 1: algebras come back from their texts.
func TestAlgebraTexts(t *testing.T) {
	for _, a := range sampleAlgebras(t) {
		text, code := impl.AlgebraText(a)
		if code != impl.ErrNone || strings.Count(text, ":") != 3 || strings.Count(text, ",") != int(a.Size*a.Size)-1 {
			t.Errorf("AlgebraText(%v) = %q, %d", a, text, code)
		}
		if back, code := impl.ParseAlgebra(text); back != a || code != impl.ErrNone {
			t.Errorf("ParseAlgebra(%q) = %v, %d", text, back, code)
		}
	}
	for _, text := range []string{"11:1:2:a", "13:2:00,10,10,01:c5", "13:1:c:b", "2:2:10,01,01,11:01", "7:1:1:0"} {
		if again, code := impl.AlgebraText(parsed(t, text)); again != text || code != impl.ErrNone {
			t.Errorf("AlgebraText = %q, %d instead of %q", again, code, text)
		}
	}
}

func TestBadAlgebraTexts(t *testing.T) {
	bad := []string{
		"", ":", ":::", "::::", "5", "5:2", "5:2:10,01,01,00", "5:2:10,01,01,00:01:", ":5:2:10,01,01,00:01",
		"5:2:10,01,01,00:01\n", " 5:2:10,01,01,00:01", "5:2:10,01,01,00:01 ", "5:2:10, 01,01,00:01",
		"05:2:10,01,01,00:01", "+5:2:10,01,01,00:01", "-5:2:10,01,01,00:01", "5.0:2:10,01,01,00:01", "5_:2:10,01,01,00:01",
		"4:2:10,01,01,00:01", "6:2:10,01,01,00:01", "0:2:10,01,01,00:01", "1:1:0:0", "17:2:10,01,01,00:01", "261:2:10,01,01,00:01",
		"18446744073709551621:2:10,01,01,00:01", "d:2:10,01,01,00:01",
		"5:02:10,01,01,00:01", "5:+2:10,01,01,00:01", "5:-2:10,01,01,00:01", "5::10,01,01,00:01", "5:0::", "5:0::0",
		"5:1:10,01,01,00:01", "5:3:10,01,01,00:01", "5:7:1:1", "5:1000000000:1:1", "5:-1:1:1", "5:9223372036854775807:1:1", "5:4294967296::",
		"5:2:10,01,01:01", "5:2:10,01,01,00,00:01", "5:2:10,01,01,00,:01", "5:2:,10,01,01,00:01", "5:2:10,01,01,:01", "5:2:10010100:01",
		"5:2:1,01,01,00:01", "5:2:100,01,01,00:01", "5:2:10,01,01,00:0", "5:2:10,01,01,00:010", "5:2:10,01,01,00:",
		"5:2:10,01,01,05:01", "5:2:10,01,01,00:51", "5:2:10,01,01,0a:01", "7:1:1:7", "11:1:1:b", "13:1:1:d", "13:1:1:A", "13:1:1:C", "13:1:1:c ",
		"5:2:10,01,01,-1:01", "5:2:00,00,00,00:01", "5:2:10,00,00,00:10", "2:2:10,01,10,01:10", "2:2:10,10,01,01:10",
		"3:3:100,010,001,010,001,010,001,000,000:100", "5:2:10;01;01;00:01", "5/2/10,01,01,00/01", "5:2:10,01,01,0\x00:01", "5:2:10,01,01,00:\xff1",
	}
	for _, text := range bad {
		if a, code := impl.ParseAlgebra(text); a != (impl.Algebra{}) || code != impl.ErrSyntax {
			t.Errorf("ParseAlgebra(%q) = %v, %d", text, a, code)
		}
	}
	long := strings.Repeat("5:2:10,01,01,00:01,", 5000)
	if a, code := impl.ParseAlgebra(long); a != (impl.Algebra{}) || code != impl.ErrSyntax {
		t.Errorf("ParseAlgebra of a long text = %v, %d", a, code)
	}
}

// TestChangedTexts checks that what is read at all is written again as the same text.
func TestChangedTexts(t *testing.T) {
	for _, text := range []string{"13:2:00,10,10,01:c5", "2:2:10,01,01,11:01", "11:1:2:a", "3:2:10,01,01,00:01"} {
		for at := range len(text) {
			for _, letter := range []byte("0123456789abcdA:,+- \n") {
				changed := text[:at] + string(letter) + text[at+1:]
				inserted := text[:at] + string(letter) + text[at:]
				for _, other := range []string{changed, inserted, text[:at] + text[at+1:]} {
					checkReading(t, other)
				}
			}
		}
	}
}

func checkReading(t *testing.T, text string) {
	t.Helper()
	a, code := impl.ParseAlgebra(text)
	if code == impl.ErrSyntax && a == (impl.Algebra{}) {
		return
	}
	if again, _ := impl.AlgebraText(a); code != impl.ErrNone || again != text {
		t.Errorf("ParseAlgebra(%q) = %v, %d, with the text %q", text, a, code, again)
	}
}

// Promise 1: vectors come back from their texts.
func TestVectorTexts(t *testing.T) {
	for _, a := range sampleAlgebras(t) {
		for _, v := range someVectors(a) {
			text, code := impl.VectorText(a, v)
			if int64(len(text)) != a.Size || code != impl.ErrNone {
				t.Errorf("VectorText(%v, %v) = %q, %d", a, v, text, code)
			}
			for i := range text {
				if text[i] != "0123456789abc"[v[i]] {
					t.Errorf("VectorText(%v, %v) = %q", a, v, text)
				}
			}
			if back, code := impl.ParseVector(a, text); back != v || code != impl.ErrNone {
				t.Errorf("ParseVector(%v, %q) = %v, %d", a, text, back, code)
			}
		}
	}
	matrix := named(t, "matrix", 13)
	if text, code := impl.VectorText(matrix, impl.Vector{9, 10, 11, 12}); text != "9abc" || code != impl.ErrNone {
		t.Errorf("VectorText = %q, %d", text, code)
	}
	if v, code := impl.ParseVector(named(t, "dual", 11), "a9"); v != (impl.Vector{10, 9}) || code != impl.ErrNone {
		t.Errorf("ParseVector = %v, %d", v, code)
	}
}

func TestBadVectorTexts(t *testing.T) {
	bad := map[int64][]string{
		2:  {"", "0", "1", "02", "20", "111", "0 ", " 0", "-1", "+1", "0\n", "\x000", "é"},
		7:  {"70", "07", "0a", "a0", "0,0", "00,"},
		11: {"0b", "b0", "0A", "A0", "c1"},
		13: {"0d", "d0", "0C", "C0", "0/", "0:", "0`", "0@"},
	}
	for p, texts := range bad {
		a := named(t, "pair", p)
		for _, text := range texts {
			if v, code := impl.ParseVector(a, text); v != (impl.Vector{}) || code != impl.ErrSyntax {
				t.Errorf("ParseVector(p = %d, %q) = %v, %d", p, text, v, code)
			}
		}
		for value := range 256 {
			letter := string([]byte{byte(value)})
			_, code := impl.ParseVector(a, "0"+letter)
			good := strings.Contains("0123456789abc"[:p], letter)
			if good != (code == impl.ErrNone) {
				t.Errorf("ParseVector(p = %d, %q): code %d", p, "0"+letter, code)
			}
		}
	}
	symmetric := named(t, "symmetric", 5)
	for _, text := range []string{"00000", "0000000", strings.Repeat("0", 100000)} {
		if v, code := impl.ParseVector(symmetric, text); v != (impl.Vector{}) || code != impl.ErrSyntax {
			t.Errorf("ParseVector of %d bytes = %v, %d", len(text), v, code)
		}
	}
}
