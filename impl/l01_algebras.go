package impl

import (
	"strconv"
	"strings"
)

// Codes that functions return, of chapter 1.
const (
	ErrNone = iota
	ErrInvalid
	ErrRange
	ErrLimit
	ErrNotFound
	ErrState
	ErrSyntax
)

// Limits of chapter 1.
const (
	MaxSize  = 6
	MaxPower = 1000
)

// digits has the letters of numbers in texts: the greatest number modulo a prime is 12.
const digits = "0123456789abc"

// noPlace stands for the product 0, which is at no place of a basis.
const noPlace = -1

// Vector has the numbers of a vector, with 0 behind the Size of its algebra.
type Vector [6]byte

// Algebra is described in chapter 1.
type Algebra struct {
	Prime int64
	Size  int64
	Table [6][6][6]byte
	Form  Vector
}

// square is a matrix of two rows and columns.
type square [2][2]byte

// permutation is a list of the numbers 0, 1, 2, each once.
type permutation [3]byte

// IsAlgebra reports whether a is an algebra.
func IsAlgebra(a Algebra) bool {
	if !isPrime(a.Prime) || a.Size < 1 || a.Size > MaxSize {
		return false
	}
	if !isVector(a, a.Form) || !hasTable(a) || !isAssociative(a) {
		return false
	}
	_, found := findUnit(a)
	return found
}

// IsCommutative reports whether a is commutative, and returns ErrNone.
func IsCommutative(a Algebra) (bool, int64) {
	if !IsAlgebra(a) {
		return false, ErrInvalid
	}
	return a.Table == transposed(a.Table), ErrNone
}

// IsFrobenius reports whether a is Frobenius, and returns ErrNone.
func IsFrobenius(a Algebra) (bool, int64) {
	if !IsAlgebra(a) {
		return false, ErrInvalid
	}
	return hasFullForm(a), ErrNone
}

// MultiplyVectors returns the product of v and w, and ErrNone.
func MultiplyVectors(a Algebra, v Vector, w Vector) (Vector, int64) {
	if !areVectors(a, v, w) {
		return Vector{}, ErrInvalid
	}
	return product(a, v, w), ErrNone
}

// AddVectors returns v and k times w together, k in 0..p - 1, and ErrNone.
func AddVectors(a Algebra, v Vector, w Vector, k int64) (Vector, int64) {
	if !areVectors(a, v, w) {
		return Vector{}, ErrInvalid
	}
	if k < 0 || k >= a.Prime {
		return Vector{}, ErrRange
	}
	addRow(v[:], w[:], k, a.Prime)
	return v, ErrNone
}

// PowerVector returns the power k of v, k in 0..MaxPower (the unit for 0), and ErrNone.
func PowerVector(a Algebra, v Vector, k int64) (Vector, int64) {
	if !areVectors(a, v) {
		return Vector{}, ErrInvalid
	}
	if k < 0 || k > MaxPower {
		return Vector{}, ErrRange
	}
	return power(a, v, k), ErrNone
}

// UnitOf returns the unit, and ErrNone.
func UnitOf(a Algebra) (Vector, int64) {
	if !IsAlgebra(a) {
		return Vector{}, ErrInvalid
	}
	unit, _ := findUnit(a)
	return unit, ErrNone
}

// FormOf returns the form of v, and ErrNone.
func FormOf(a Algebra, v Vector) (int64, int64) {
	if !areVectors(a, v) {
		return 0, ErrInvalid
	}
	return form(a, v), ErrNone
}

// InverseVector returns the inverse of v, and ErrNone. Errors: ErrNotFound if there is none.
func InverseVector(a Algebra, v Vector) (Vector, int64) {
	if !areVectors(a, v) {
		return Vector{}, ErrInvalid
	}
	inverse, found := findInverse(a, v)
	if !found {
		return Vector{}, ErrNotFound
	}
	return inverse, ErrNone
}

// CentreOf returns the reduced list of the central vectors, and ErrNone: each central vector is in
// one way a sum of multiples of its vectors; the first number other than 0 of each of these is 1,
// stands at a greater place than that of the one before, and all others have 0 there.
func CentreOf(a Algebra) ([]Vector, int64) {
	if !IsAlgebra(a) {
		return nil, ErrInvalid
	}
	var equations [][]byte
	for j := range a.Size {
		for k := range a.Size {
			row := make([]byte, MaxSize)
			for i := range a.Size {
				difference := int64(a.Table[i][j][k]) - int64(a.Table[j][i][k])
				row[i] = residue(difference, a.Prime)
			}
			equations = append(equations, row)
		}
	}
	return kernelOf(equations, a.Size, a.Prime), ErrNone
}

// OppositeAlgebra returns the opposite algebra, and ErrNone.
func OppositeAlgebra(a Algebra) (Algebra, int64) {
	if !IsAlgebra(a) {
		return Algebra{}, ErrInvalid
	}
	return oppositeTo(a), ErrNone
}

// AddAlgebras returns the sum, and ErrNone. Errors: ErrLimit if its size would be greater than
// MaxSize.
func AddAlgebras(a Algebra, b Algebra) (Algebra, int64) {
	code := joinFault(a, b, a.Size+b.Size)
	if code != ErrNone {
		return Algebra{}, code
	}
	sum := a
	sum.Size = a.Size + b.Size
	copy(sum.Form[a.Size:], b.Form[:b.Size])
	for i := range b.Size {
		for j := range b.Size {
			copy(sum.Table[a.Size+i][a.Size+j][a.Size:], b.Table[i][j][:b.Size])
		}
	}
	return sum, ErrNone
}

// TensorAlgebras returns the tensor product, and ErrNone. Errors: ErrLimit if its size would be
// greater than MaxSize.
func TensorAlgebras(a Algebra, b Algebra) (Algebra, int64) {
	code := joinFault(a, b, a.Size*b.Size)
	if code != ErrNone {
		return Algebra{}, code
	}
	size := a.Size * b.Size
	tensor := Algebra{Prime: a.Prime, Size: size, Form: tensorVector(a.Form, b.Form, size, b)}
	for i := range size {
		for j := range size {
			first := a.Table[i/b.Size][j/b.Size]
			second := b.Table[i%b.Size][j%b.Size]
			tensor.Table[i][j] = tensorVector(first, second, size, b)
		}
	}
	return tensor, ErrNone
}

// NamedAlgebra returns the algebra with a name for a prime p, and ErrNone. (ErrInvalid is not
// returned.) Errors: ErrRange if p is no prime; ErrNotFound, behind it, if there is none.
func NamedAlgebra(name string, p int64) (Algebra, int64) {
	if !isPrime(p) {
		return Algebra{}, ErrRange
	}
	switch name {
	case "field":
		return algebraOfPlaces(p, 1, Vector{1}, pairPlace), ErrNone
	case "dual":
		return algebraOfPlaces(p, 2, Vector{0, 1}, dualPlace), ErrNone
	case "pair":
		return algebraOfPlaces(p, 2, Vector{1, 1}, pairPlace), ErrNone
	case "cyclic3":
		return algebraOfPlaces(p, 3, Vector{1}, cyclicPlace), ErrNone
	case "symmetric":
		return algebraOfPlaces(p, 6, Vector{1}, permutationPlaces()), ErrNone
	case "matrix":
		return algebraOfPlaces(p, 4, Vector{1, 0, 0, 1}, squarePlaces()), ErrNone
	}
	return Algebra{}, ErrNotFound
}

// AlgebraNames returns the names, in order.
func AlgebraNames() []string {
	return []string{"field", "dual", "pair", "cyclic3", "symmetric", "matrix"}
}

// AlgebraText returns the text of a, and ErrNone.
func AlgebraText(a Algebra) (string, int64) {
	if !IsAlgebra(a) {
		return "", ErrInvalid
	}
	var products []string
	for i := range a.Size {
		for j := range a.Size {
			products = append(products, textOf(a, a.Table[i][j]))
		}
	}
	prime, size := strconv.FormatInt(a.Prime, 10), strconv.FormatInt(a.Size, 10)
	return prime + ":" + size + ":" + strings.Join(products, ",") + ":" + textOf(a, a.Form), ErrNone
}

// ParseAlgebra returns the algebra with a text, and ErrNone. Errors: ErrSyntax if there is none.
// (No other errors are returned.)
func ParseAlgebra(text string) (Algebra, int64) {
	fields := strings.Split(text, ":")
	if len(fields) != 4 {
		return Algebra{}, ErrSyntax
	}
	prime, isNumber := readNumber(fields[0])
	size, isSize := readNumber(fields[1])
	if !isNumber || !isSize || !isPrime(prime) || size < 1 || size > MaxSize {
		return Algebra{}, ErrSyntax
	}
	a := Algebra{Prime: prime, Size: size}
	products := strings.Split(fields[2], ",")
	if int64(len(products)) != size*size {
		return Algebra{}, ErrSyntax
	}
	read := true
	for at, word := range products {
		vector, isText := readVector(a, word)
		a.Table[int64(at)/size][int64(at)%size] = vector
		read = read && isText
	}
	vector, isText := readVector(a, fields[3])
	a.Form = vector
	if !read || !isText || !IsAlgebra(a) {
		return Algebra{}, ErrSyntax
	}
	return a, ErrNone
}

// VectorText returns the text of v, and ErrNone.
func VectorText(a Algebra, v Vector) (string, int64) {
	if !areVectors(a, v) {
		return "", ErrInvalid
	}
	return textOf(a, v), ErrNone
}

// ParseVector returns the vector of a with a text, and ErrNone. Errors: ErrSyntax if there is
// none.
func ParseVector(a Algebra, text string) (Vector, int64) {
	if !IsAlgebra(a) {
		return Vector{}, ErrInvalid
	}
	vector, isText := readVector(a, text)
	if !isText {
		return Vector{}, ErrSyntax
	}
	return vector, ErrNone
}

func isPrime(p int64) bool {
	switch p {
	case 2, 3, 5, 7, 11, 13:
		return true
	}
	return false
}

// isVector needs the Prime and the Size of a alone, so that tables can be looked at before it is
// known whether a is an algebra.
func isVector(a Algebra, v Vector) bool {
	for i, number := range v {
		if int64(number) >= a.Prime || int64(i) >= a.Size && number != 0 {
			return false
		}
	}
	return true
}

// areVectors reports whether a is an algebra, and all vectors are vectors of it.
func areVectors(a Algebra, vectors ...Vector) bool {
	for _, v := range vectors {
		if !isVector(a, v) {
			return false
		}
	}
	return IsAlgebra(a)
}

func hasTable(a Algebra) bool {
	for i, row := range a.Table {
		for j, entry := range row {
			inside := int64(i) < a.Size && int64(j) < a.Size
			if !inside && entry != (Vector{}) || !isVector(a, entry) {
				return false
			}
		}
	}
	return true
}

// isAssociative counts the middle factors that are in no loose triple: one such triple settles its
// middle factor, and basis vectors are enough because products are linear.
func isAssociative(a Algebra) bool {
	good := int64(0)
middles:
	for j := range a.Size {
		for i := range a.Size {
			for k := range a.Size {
				left := product(a, a.Table[i][j], basisVector(k))
				right := product(a, basisVector(i), a.Table[j][k])
				if left != right {
					continue middles
				}
			}
		}
		good++
	}
	return good == a.Size
}

// joinFault returns the code for a sum or a tensor product of a and b that would have this size,
// a number that is looked at only if both are algebras, so that it did not overflow.
func joinFault(a Algebra, b Algebra, size int64) int64 {
	switch {
	case !IsAlgebra(a) || !IsAlgebra(b):
		return ErrInvalid
	case a.Prime != b.Prime:
		return ErrRange
	case size > MaxSize:
		return ErrLimit
	}
	return ErrNone
}

func basisVector(i int64) Vector {
	var v Vector
	v[i] = 1
	return v
}

func transposed(table [6][6][6]byte) [6][6][6]byte {
	var turned [6][6][6]byte
	for i, row := range table {
		for j, entry := range row {
			turned[j][i] = entry
		}
	}
	return turned
}

func oppositeTo(a Algebra) Algebra {
	a.Table = transposed(a.Table)
	return a
}

// residue returns the number modulo p, also of a negative number.
func residue(number int64, p int64) byte {
	return byte((number%p + p) % p)
}

func inverseNumber(number byte, p int64) int64 {
	for candidate := range p {
		if residue(candidate*int64(number), p) == 1 {
			return candidate
		}
	}
	return 0
}

func product(a Algebra, v Vector, w Vector) Vector {
	var sums [MaxSize]int64
	for i := range a.Size {
		for j := range a.Size {
			factor := int64(v[i]) * int64(w[j])
			if factor == 0 {
				continue
			}
			for k, number := range a.Table[i][j] {
				sums[k] += factor * int64(number)
			}
		}
	}
	var result Vector
	for k, sum := range sums {
		result[k] = residue(sum, a.Prime)
	}
	return result
}

func power(a Algebra, v Vector, k int64) Vector {
	if k == 0 {
		unit, _ := findUnit(a)
		return unit
	}
	result := v
	for range k - 1 {
		result = product(a, result, v)
	}
	return result
}

func form(a Algebra, v Vector) int64 {
	sum := int64(0)
	for i, number := range v {
		sum += int64(number) * int64(a.Form[i])
	}
	return sum % a.Prime
}

// formRows returns the forms of the products of basis vectors, each row with 0 behind the Size.
func formRows(a Algebra) [][]byte {
	rows := make([][]byte, a.Size)
	for i := range rows {
		rows[i] = make([]byte, MaxSize)
		for j := range a.Size {
			rows[i][j] = byte(form(a, a.Table[i][j]))
		}
	}
	return rows
}

func hasFullForm(a Algebra) bool {
	return int64(len(reduceRows(formRows(a), a.Prime))) == a.Size
}

// equationsFor returns the equations for a vector x with x b = c and b x = c: rows with the factors
// of the numbers of x, and behind them the number that their sum has to be.
func equationsFor(a Algebra, b Vector, c Vector) [][]byte {
	rows := make([][]byte, 2*a.Size)
	for k := range rows {
		rows[k] = make([]byte, MaxSize+1)
		rows[k][MaxSize] = c[int64(k)%a.Size]
	}
	for i := range a.Size {
		left, right := product(a, basisVector(i), b), product(a, b, basisVector(i))
		for k := range a.Size {
			rows[k][i], rows[a.Size+k][i] = left[k], right[k]
		}
	}
	return rows
}

func findUnit(a Algebra) (Vector, bool) {
	var equations [][]byte
	for i := range a.Size {
		e := basisVector(i)
		equations = append(equations, equationsFor(a, e, e)...)
	}
	return solveRows(equations, a.Prime)
}

func findInverse(a Algebra, v Vector) (Vector, bool) {
	unit, _ := findUnit(a)
	return solveRows(equationsFor(a, v, unit), a.Prime)
}

// addRow adds factor times the row more to the row, in place.
func addRow(row []byte, more []byte, factor int64, p int64) {
	for i, number := range more {
		row[i] = residue(int64(row[i])+factor*int64(number), p)
	}
}

// leadingPlace returns the place of the first number other than 0, or the length if there is none.
func leadingPlace(row []byte) int {
	for place, number := range row {
		if number != 0 {
			return place
		}
	}
	return len(row)
}

// reduceRows changes the rows, which are to be the caller's own, and returns as a reduced list
// those that do not become 0.
func reduceRows(rows [][]byte, p int64) [][]byte {
	done := 0
	for done < len(rows) {
		next := done
		for at := done; at < len(rows); at++ {
			if leadingPlace(rows[at]) < leadingPlace(rows[next]) {
				next = at
			}
		}
		rows[done], rows[next] = rows[next], rows[done]
		pivot := rows[done]
		place := leadingPlace(pivot)
		if place == len(pivot) {
			break
		}
		addRow(pivot, pivot, inverseNumber(pivot[place], p)-1, p)
		for at, row := range rows {
			if at != done {
				addRow(row, pivot, -int64(row[place]), p)
			}
		}
		done++
	}
	return rows[:done]
}

// solveRows returns a vector that solves the equations, with 0 at places that they leave free, and
// false if there is none.
func solveRows(equations [][]byte, p int64) (Vector, bool) {
	numbers := make([]byte, MaxSize)
	for _, row := range reduceRows(equations, p) {
		place := leadingPlace(row)
		if place == MaxSize {
			return Vector{}, false
		}
		numbers[place] = row[MaxSize]
	}
	return Vector(numbers), true
}

// kernelOf returns the reduced list of the vectors of n numbers at which all the rows are 0.
func kernelOf(rows [][]byte, n int64, p int64) []Vector {
	reduced := reduceRows(rows, p)
	var leading [MaxSize]bool
	for _, row := range reduced {
		leading[leadingPlace(row)] = true
	}
	var solutions [][]byte
	for place := range n {
		if leading[place] {
			continue
		}
		numbers := make([]byte, MaxSize)
		numbers[place] = 1
		for _, row := range reduced {
			numbers[leadingPlace(row)] = residue(-int64(row[place]), p)
		}
		solutions = append(solutions, numbers)
	}
	return vectorsOf(reduceRows(solutions, p))
}

func vectorsOf(rows [][]byte) []Vector {
	var vectors []Vector
	for _, row := range rows {
		vectors = append(vectors, Vector(row))
	}
	return vectors
}

// tensorVector returns, of the size of the whole, what stands for v (x) w, w being one of b.
func tensorVector(v Vector, w Vector, size int64, b Algebra) Vector {
	var result Vector
	for k := range size {
		result[k] = residue(int64(v[k/b.Size])*int64(w[k%b.Size]), b.Prime)
	}
	return result
}

// algebraOfPlaces returns the algebra in which the product of basis vectors is the basis vector at
// a place that a function tells, or 0 at noPlace.
func algebraOfPlaces(p int64, n int64, values Vector, placeOf func(i int64, j int64) int64) Algebra {
	a := Algebra{Prime: p, Size: n, Form: values}
	for i := range n {
		for j := range n {
			place := placeOf(i, j)
			if place != noPlace {
				a.Table[i][j] = basisVector(place)
			}
		}
	}
	return a
}

func dualPlace(i int64, j int64) int64 {
	if i == 1 && j == 1 {
		return noPlace
	}
	return i + j
}

func pairPlace(i int64, j int64) int64 {
	if i != j {
		return noPlace
	}
	return i
}

func cyclicPlace(i int64, j int64) int64 {
	return (i + j) % 3
}

func permutationPlaces() func(i int64, j int64) int64 {
	basis := []permutation{{0, 1, 2}, {0, 2, 1}, {1, 0, 2}, {1, 2, 0}, {2, 0, 1}, {2, 1, 0}}
	places := map[permutation]int64{}
	for place, list := range basis {
		places[list] = int64(place)
	}
	return func(i int64, j int64) int64 {
		var composed permutation
		for at, number := range basis[j] {
			composed[at] = basis[i][number]
		}
		return places[composed]
	}
}

func squarePlaces() func(i int64, j int64) int64 {
	basis := []square{{{1, 0}, {0, 0}}, {{0, 1}, {0, 0}}, {{0, 0}, {1, 0}}, {{0, 0}, {0, 1}}}
	places := map[square]int64{{}: noPlace}
	for place, table := range basis {
		places[table] = int64(place)
	}
	return func(i int64, j int64) int64 {
		return places[multiplySquares(basis[i], basis[j])]
	}
}

func multiplySquares(v square, w square) square {
	var result square
	for row := range result {
		for column := range result[row] {
			result[row][column] = v[row][0]*w[0][column] + v[row][1]*w[1][column]
		}
	}
	return result
}

func textOf(a Algebra, v Vector) string {
	text := make([]byte, a.Size)
	for i := range text {
		text[i] = digits[v[i]]
	}
	return string(text)
}

// readVector needs the Prime and the Size of a alone, as its table may not be read yet.
func readVector(a Algebra, text string) (Vector, bool) {
	if int64(len(text)) != a.Size {
		return Vector{}, false
	}
	numbers := make([]byte, MaxSize)
	for i := range len(text) {
		number := strings.IndexByte(digits, text[i])
		if number < 0 || int64(number) >= a.Prime {
			return Vector{}, false
		}
		numbers[i] = byte(number)
	}
	return Vector(numbers), true
}

// readNumber writes the number again because ParseInt also reads signs and superfluous zeros.
func readNumber(text string) (int64, bool) {
	number, err := strconv.ParseInt(text, 10, 64)
	if err != nil || strconv.FormatInt(number, 10) != text {
		return 0, false
	}
	return number, true
}
