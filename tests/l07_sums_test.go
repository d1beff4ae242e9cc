package tests

import (
	"runtime"
	"slices"
	"strconv"
	"strings"
	"sync"
	"testing"
	"time"

	"loop.example/g01267/impl"
)

// surfaceNames has the names of surfaces in the order of the document.
var surfaceNames = []string{"sphere", "torus", "plane", "bottle", "double"}

// statesLimit is MaxStates as the document tells it.
const statesLimit = 300000

// namedSurface returns the surface with a name.
func namedSurface(t *testing.T, name string) [][]int64 {
	t.Helper()
	s, code := impl.NamedSurface(name)
	if code != impl.ErrNone {
		t.Fatalf("NamedSurface(%q): code %d", name, code)
	}
	return s
}

// edgeCount returns how many edges a surface with as many triangles has.
func edgeCount(s [][]int64) int64 {
	return 3 * int64(len(s)) / 2
}

func cloneRows(rows [][]int64) [][]int64 {
	var copied [][]int64
	for _, row := range rows {
		copied = append(copied, slices.Clone(row))
	}
	return copied
}

// isPlainSurface counts the sides of each edge.
func isPlainSurface(s [][]int64) bool {
	if len(s) < 2 || len(s) > 12 || len(s)%2 == 1 {
		return false
	}
	all := slices.Concat(s...)
	for k := int64(1); k <= edgeCount(s); k++ {
		count := 0
		for _, x := range all {
			if x == k || x == -k {
				count++
			}
		}
		if count != 2 {
			return false
		}
	}
	return !slices.ContainsFunc(s, func(row []int64) bool { return len(row) != 3 })
}

// endsOfSide returns the ends of edges from which and to which a side leads: place 0 for beginnings, and
// 1 for ends of edges.
func endsOfSide(x int64) (spot, spot) {
	from, to := spot{height: int(max(x, -x)), place: 0}, spot{height: int(max(x, -x)), place: 1}
	if x < 0 {
		return to, from
	}
	return from, to
}

// countLabels returns how many different labels there are.
func countLabels(labels map[spot]int) int64 {
	different := map[int]bool{}
	for _, label := range labels {
		different[label] = true
	}
	return int64(len(different))
}

func plainVertices(s [][]int64) int64 {
	var links [][2]spot
	for _, row := range s {
		for i := range row {
			_, to := endsOfSide(row[i])
			from, _ := endsOfSide(row[(i+1)%3])
			links = append(links, [2]spot{to, from})
		}
	}
	return countLabels(leastLabels(links))
}

// holds reports whether an edge is on a triangle.
func holds(row []int64, k int64) bool {
	return slices.Contains(row, k) || slices.Contains(row, -k)
}

// plainPieces returns the places of the triangles of each piece, ascending.
func plainPieces(s [][]int64) [][]int {
	var links [][2]spot
	for i, row := range s {
		for j, other := range s {
			if slices.ContainsFunc(row, func(x int64) bool { return holds(other, x) }) {
				links = append(links, [2]spot{{place: i}, {place: j}})
			}
		}
	}
	labels, pieces := leastLabels(links), map[int][]int{}
	var list [][]int
	for i := range s {
		label := labels[spot{place: i}]
		pieces[label] = append(pieces[label], i)
	}
	for i := range s {
		if piece := pieces[labels[spot{place: i}]]; piece[0] == i {
			list = append(list, piece)
		}
	}
	return list
}

func isPlainOriented(s [][]int64) bool {
	all := slices.Concat(s...)
	for k := int64(1); k <= edgeCount(s); k++ {
		if !slices.Contains(all, k) || !slices.Contains(all, -k) {
			return false
		}
	}
	return true
}

// overTurned returns a triangle turned over.
func overTurned(row []int64) []int64 {
	over := slices.Clone(row)
	slices.Reverse(over)
	for i := range over {
		over[i] = -over[i]
	}
	return over
}

// turnedAt turns over the triangles at which the binary digits of a number are 1.
func turnedAt(s [][]int64, number int) [][]int64 {
	over := cloneRows(s)
	for i, row := range s {
		if number>>i&1 == 1 {
			over[i] = overTurned(row)
		}
	}
	return over
}

// plainOrientations tries all choices of triangles that leave the first one of each piece.
func plainOrientations(s [][]int64) [][][]int64 {
	first := 0
	for _, piece := range plainPieces(s) {
		first |= 1 << piece[0]
	}
	var found [][][]int64
	for number := range 1 << len(s) {
		if number&first != 0 {
			continue
		}
		if over := turnedAt(s, number); isPlainOriented(over) {
			found = append(found, over)
		}
	}
	return found
}

// rowWith returns the place of the triangle with a side, and its sides from this one on.
func rowWith(s [][]int64, x int64) (int, []int64) {
	for i, row := range s {
		if at := slices.Index(row, x); at >= 0 {
			return i, slices.Concat(row[at:], row[:at])
		}
	}
	return -1, nil
}

// flippedAt flips the edge k of an oriented surface, which is on two different triangles.
func flippedAt(s [][]int64, k int64) [][]int64 {
	flipped := cloneRows(s)
	i, first := rowWith(s, k)
	j, other := rowWith(s, -k)
	a, b, c, d := first[1], first[2], other[1], other[2]
	flipped[i], flipped[j] = []int64{k, b, c}, []int64{-k, d, a}
	return flipped
}

func splitAt(s [][]int64, i int64) [][]int64 {
	a, b, c, m := s[i][0], s[i][1], s[i][2], edgeCount(s)
	split := append(cloneRows(s), []int64{b, m + 3, -m - 1}, []int64{c, m + 2, -m - 3})
	split[i] = []int64{a, m + 1, -m - 2}
	return split
}

// onTwo reports whether an edge is on two different triangles.
func onTwo(s [][]int64, k int64) bool {
	count := 0
	for _, row := range s {
		if holds(row, k) {
			count++
		}
	}
	return count == 2
}

// drawnOrder draws a list of the numbers 0 to count - 1, each once.
func drawnOrder(d *drawer, count int) []int {
	order := make([]int, count)
	for i := range order {
		at := d.upTo(i + 1)
		order[i] = order[at]
		order[at] = i
	}
	return order
}

// drawnSurface draws which sides of so many triangles are one edge, oriented or in any directions.
func drawnSurface(d *drawer, triangles int, oriented bool) [][]int64 {
	sides := make([]int64, 3*triangles)
	places := drawnOrder(d, len(sides))
	for edge := range len(sides) / 2 {
		first, other := places[2*edge], places[2*edge+1]
		sides[first], sides[other] = int64(edge+1), -int64(edge+1)
		if !oriented && d.upTo(3) == 0 {
			sides[other] = sides[first]
		}
		if d.upTo(2) == 0 {
			sides[first], sides[other] = -sides[first], -sides[other]
		}
	}
	var s [][]int64
	for row := range slices.Chunk(sides, 3) {
		s = append(s, slices.Clone(row))
	}
	return s
}

// reordered returns the triangles of s in another order.
func reordered(s [][]int64, order []int) [][]int64 {
	var again [][]int64
	for _, i := range order {
		again = append(again, slices.Clone(s[i]))
	}
	return again
}

// together returns two surfaces as one, the second one with further edges.
func together(s, u [][]int64) [][]int64 {
	whole, m := cloneRows(s), edgeCount(s)
	for _, row := range u {
		var shifted []int64
		for _, x := range row {
			if x > 0 {
				shifted = append(shifted, x+m)
			} else {
				shifted = append(shifted, x-m)
			}
		}
		whole = append(whole, shifted)
	}
	return whole
}

// drawnPieces draws a surface of several drawn ones, whose triangles are mixed.
func drawnPieces(d *drawer, oriented bool, triangles ...int) [][]int64 {
	whole := drawnSurface(d, triangles[0], oriented)
	for _, more := range triangles[1:] {
		whole = together(whole, drawnSurface(d, more, oriented))
	}
	return reordered(whole, drawnOrder(d, len(whole)))
}

// triangleParts has the numbers of triangles of the pieces that are drawn together.
var triangleParts = [][]int{{2, 2}, {2, 4}, {4, 2}, {2, 2, 2}, {4, 4}, {6, 2}, {2, 2, 2, 2}, {6, 4}, {6, 6}, {8, 4}, {10, 2}, {4, 4, 4}, {2, 2, 2, 2, 2, 2}, {4, 2, 4, 2}}

// orientedSurfaces returns oriented surfaces: those with names, drawn ones of all numbers of triangles, and
// some of several pieces.
func orientedSurfaces(t *testing.T) [][][]int64 {
	t.Helper()
	list := [][][]int64{namedSurface(t, "sphere"), namedSurface(t, "torus"), namedSurface(t, "double")}
	d := &drawer{17}
	for triangles := 2; triangles <= 12; triangles += 2 {
		for range 12 {
			list = append(list, drawnSurface(d, triangles, true))
		}
	}
	for _, parts := range triangleParts {
		for range 2 {
			list = append(list, drawnPieces(d, true, parts...))
		}
	}
	return list
}

// sampleSurfaces returns the oriented surfaces, those with some triangles turned over, and others, which
// are not orientable as a rule.
func sampleSurfaces(t *testing.T) [][][]int64 {
	t.Helper()
	list := [][][]int64{namedSurface(t, "plane"), namedSurface(t, "bottle")}
	d := &drawer{23}
	for _, s := range orientedSurfaces(t) {
		list = append(list, s, turnedAt(s, 1+d.upTo(1<<len(s)-1)), turnedAt(s, d.upTo(1<<len(s))))
	}
	for triangles := 2; triangles <= 12; triangles += 2 {
		for range 12 {
			list = append(list, drawnSurface(d, triangles, false))
		}
	}
	for _, parts := range triangleParts {
		list = append(list, drawnPieces(d, false, parts...))
	}
	return list
}

func TestSurfaceSamples(t *testing.T) {
	kinds := map[string]int{}
	for _, s := range sampleSurfaces(t) {
		if !isPlainSurface(s) {
			t.Errorf("%v is no surface", s)
		}
		pieces, oriented, orientable := plainPieces(s), isPlainOriented(s), len(plainOrientations(s))
		kinds[strconv.Itoa(len(s))+" triangles"]++
		kinds[strconv.Itoa(len(pieces))+" pieces"]++
		switch {
		case oriented:
			kinds["oriented"]++
		case orientable == 1:
			kinds["orientable"]++
		case orientable == 0:
			kinds["others"]++
		}
		if len(pieces) == 1 && oriented {
			genus := 1 - (plainVertices(s)-edgeCount(s)+int64(len(s)))/2
			kinds["genus "+strconv.FormatInt(genus, 10)]++
		}
	}
	for _, kind := range []string{"2 triangles", "4 triangles", "10 triangles", "12 triangles", "1 pieces", "2 pieces", "3 pieces", "4 pieces",
		"6 pieces", "oriented", "orientable", "others", "genus 0", "genus 1", "genus 2", "genus 3"} {
		if kinds[kind] < 2 {
			t.Errorf("there are %d samples with %s", kinds[kind], kind)
		}
	}
}

func TestNamedSurfaces(t *testing.T) {
	for name, want := range map[string][][]int64{
		"sphere": {{1, 2, 3}, {-3, -2, -1}},
		"torus":  {{1, 2, -3}, {3, -1, -2}},
		"plane":  {{1, 2, -3}, {3, 1, 2}},
		"bottle": {{1, 2, -3}, {3, 1, -2}},
		"double": {{1, 2, -5}, {5, -1, 6}, {-6, -2, 7}, {-7, 3, 8}, {-8, 4, 9}, {-9, -3, -4}},
	} {
		if s, code := impl.NamedSurface(name); !sameTables(s, want) || code != impl.ErrNone {
			t.Errorf("NamedSurface(%q) = %v, %d", name, s, code)
		}
	}
	if impl.MaxTriangles != 12 || impl.MaxStates != statesLimit {
		t.Errorf("the limits are %d, %d", impl.MaxTriangles, impl.MaxStates)
	}
}

// checkNoSurfaceName checks that there is no surface with a name.
func checkNoSurfaceName(t *testing.T, name string) {
	t.Helper()
	if s, code := impl.NamedSurface(name); len(s) != 0 || code != impl.ErrNotFound {
		t.Errorf("NamedSurface(%q) = %v, %d", name, s, code)
	}
}

func TestUnknownSurfaces(t *testing.T) {
	for _, name := range []string{"", " ", "klein", "disk", "triple", "field", "dual", "pair", "1", "spheres", "sphere torus", "sphere\x00", "\xff"} {
		checkNoSurfaceName(t, name)
	}
	for _, name := range surfaceNames {
		checkNoSurfaceName(t, strings.ToUpper(name))
		checkNoSurfaceName(t, strings.ToUpper(name[:1])+name[1:])
		checkNoSurfaceName(t, name[1:])
		checkNoSurfaceName(t, name[:len(name)-1])
		checkNoSurfaceName(t, name+name)
		for letter := range 256 {
			checkNoSurfaceName(t, name+string([]byte{byte(letter)}))
			checkNoSurfaceName(t, string([]byte{byte(letter)})+name)
		}
	}
}

// checkCounts checks what is counted of a surface, and its genus.
func checkCounts(t *testing.T, s [][]int64) {
	t.Helper()
	vertices, pieces := plainVertices(s), int64(len(plainPieces(s)))
	euler := vertices - edgeCount(s) + int64(len(s))
	if !impl.IsSurface(s) {
		t.Errorf("IsSurface(%v) is false", s)
	}
	if n, code := impl.CountVertices(s); n != vertices || code != impl.ErrNone {
		t.Errorf("CountVertices(%v) = %d, %d instead of %d", s, n, code, vertices)
	}
	if n, code := impl.EulerNumber(s); n != euler || code != impl.ErrNone {
		t.Errorf("EulerNumber(%v) = %d, %d instead of %d", s, n, code, euler)
	}
	if n, code := impl.CountSurfacePieces(s); n != pieces || code != impl.ErrNone {
		t.Errorf("CountSurfacePieces(%v) = %d, %d instead of %d", s, n, code, pieces)
	}
	genus, wantCode := (2-euler)/2, int64(impl.ErrNone)
	if !isPlainOriented(s) || pieces != 1 {
		genus, wantCode = 0, impl.ErrState
	}
	if n, code := impl.GenusOf(s); n != genus || code != wantCode {
		t.Errorf("GenusOf(%v) = %d, %d instead of %d, %d", s, n, code, genus, wantCode)
	}
}

// checkOrientations checks whether a surface is oriented, and what it is with triangles turned over.
func checkOrientations(t *testing.T, s [][]int64) {
	t.Helper()
	if yes, code := impl.IsOriented(s); yes != isPlainOriented(s) || code != impl.ErrNone {
		t.Errorf("IsOriented(%v) = %v, %d", s, yes, code)
	}
	over, code := impl.OrientSurface(s)
	found := plainOrientations(s)
	if len(found) == 0 {
		if len(over) != 0 || code != impl.ErrState {
			t.Errorf("OrientSurface(%v) = %v, %d", s, over, code)
		}
		return
	}
	if len(found) != 1 || !sameTables(over, found[0]) || code != impl.ErrNone {
		t.Errorf("OrientSurface(%v) = %v, %d instead of %v", s, over, code, found)
	}
}

// checkMoves checks the flips of all edges and the splits of all triangles.
func checkMoves(t *testing.T, s [][]int64) {
	t.Helper()
	for k := int64(1); k <= edgeCount(s); k++ {
		flipped, code := impl.FlipEdge(s, k)
		if !isPlainOriented(s) || !onTwo(s, k) {
			if len(flipped) != 0 || code != impl.ErrState {
				t.Errorf("FlipEdge(%v, %d) = %v, %d", s, k, flipped, code)
			}
			continue
		}
		if want := flippedAt(s, k); !sameTables(flipped, want) || code != impl.ErrNone {
			t.Errorf("FlipEdge(%v, %d) = %v, %d instead of %v", s, k, flipped, code, want)
		}
	}
	for i := range int64(len(s)) {
		split, code := impl.SplitTriangle(s, i)
		if len(s) == 12 {
			if len(split) != 0 || code != impl.ErrLimit {
				t.Errorf("SplitTriangle(%v, %d) = %v, %d", s, i, split, code)
			}
			continue
		}
		if want := splitAt(s, i); !sameTables(split, want) || code != impl.ErrNone {
			t.Errorf("SplitTriangle(%v, %d) = %v, %d instead of %v", s, i, split, code, want)
		}
	}
}

func TestSurfaces(t *testing.T) {
	for _, s := range sampleSurfaces(t) {
		checkCounts(t, s)
		checkOrientations(t, s)
		checkMoves(t, s)
	}
}

// TestSmallSurfaces looks at all lists of two triangles with sides from -4 to 4.
func TestSmallSurfaces(t *testing.T) {
	count, eulers := 0, map[int64]int{}
	for number := range plainCount(9, 6) {
		s := [][]int64{make([]int64, 3), make([]int64, 3)}
		for at := range int64(6) {
			s[at/3][at%3] = number/plainCount(9, at)%9 - 4
		}
		if !isPlainSurface(s) {
			if impl.IsSurface(s) {
				t.Errorf("IsSurface(%v) is true", s)
			}
			continue
		}
		checkCounts(t, s)
		checkOrientations(t, s)
		checkMoves(t, s)
		euler, _ := impl.EulerNumber(s)
		count, eulers[euler] = count+1, eulers[euler]+1
	}
	if count != 90*64 || len(eulers) != 3 || eulers[2] == 0 || eulers[1] == 0 || eulers[0] == 0 {
		t.Errorf("there are %d surfaces, with the Euler numbers %v", count, eulers)
	}
}

// TestSidesOnOneTriangle checks edges that are twice on one triangle, in opposite and in equal directions.
func TestSidesOnOneTriangle(t *testing.T) {
	folded := [][]int64{{1, -1, 2}, {-2, 3, -3}}
	crossed := [][]int64{{1, 1, 2}, {-2, 3, -3}}
	both := [][]int64{{1, 1, 2}, {3, 2, 3}}
	for _, look := range []struct {
		s               [][]int64
		vertices, euler int64
		oriented        bool
	}{{folded, 3, 2, true}, {crossed, 2, 1, false}, {both, 1, 0, false}} {
		checkCounts(t, look.s)
		if n, code := impl.CountVertices(look.s); n != look.vertices || code != impl.ErrNone {
			t.Errorf("CountVertices(%v) = %d, %d", look.s, n, code)
		}
		if n, code := impl.EulerNumber(look.s); n != look.euler || code != impl.ErrNone {
			t.Errorf("EulerNumber(%v) = %d, %d", look.s, n, code)
		}
		if yes, code := impl.IsOriented(look.s); yes != look.oriented || code != impl.ErrNone {
			t.Errorf("IsOriented(%v) = %v, %d", look.s, yes, code)
		}
		if over, code := impl.OrientSurface(look.s); (code == impl.ErrNone) != look.oriented || (len(over) == 2) != look.oriented {
			t.Errorf("OrientSurface(%v) = %v, %d", look.s, over, code)
		}
	}
	if n, code := impl.GenusOf(folded); n != 0 || code != impl.ErrNone {
		t.Errorf("GenusOf(%v) = %d, %d", folded, n, code)
	}
	for _, k := range []int64{1, 3} {
		if s, code := impl.FlipEdge(folded, k); len(s) != 0 || code != impl.ErrState {
			t.Errorf("FlipEdge(%v, %d) = %v, %d", folded, k, s, code)
		}
	}
	if s, code := impl.FlipEdge(folded, 2); !sameTables(s, [][]int64{{2, -1, 3}, {-2, -3, 1}}) || code != impl.ErrNone {
		t.Errorf("FlipEdge(%v, 2) = %v, %d", folded, s, code)
	}
}

// TestFirstAndLastEdges flips the edges 1 and 3 F / 2, and none behind them.
func TestFirstAndLastEdges(t *testing.T) {
	sphere, double := namedSurface(t, "sphere"), namedSurface(t, "double")
	if s, code := impl.FlipEdge(sphere, 1); !sameTables(s, [][]int64{{1, 3, -3}, {-1, -2, 2}}) || code != impl.ErrNone {
		t.Errorf("FlipEdge(sphere, 1) = %v, %d", s, code)
	}
	if s, code := impl.FlipEdge(sphere, 3); !sameTables(s, [][]int64{{3, 2, -2}, {-3, -1, 1}}) || code != impl.ErrNone {
		t.Errorf("FlipEdge(sphere, 3) = %v, %d", s, code)
	}
	want := [][]int64{{1, -5, 6}, {-1, 5, 2}, {-6, -2, 7}, {-7, 3, 8}, {-8, 4, 9}, {-9, -3, -4}}
	if s, code := impl.FlipEdge(double, 1); !sameTables(s, want) || code != impl.ErrNone {
		t.Errorf("FlipEdge(double, 1) = %v, %d", s, code)
	}
	want = [][]int64{{1, 2, -5}, {5, -1, 6}, {-6, -2, 7}, {-7, 3, 8}, {9, 4, -3}, {-9, -4, -8}}
	if s, code := impl.FlipEdge(double, 9); !sameTables(s, want) || code != impl.ErrNone {
		t.Errorf("FlipEdge(double, 9) = %v, %d", s, code)
	}
}

func TestSplits(t *testing.T) {
	sphere := namedSurface(t, "sphere")
	if s, code := impl.SplitTriangle(sphere, 0); !sameTables(s, [][]int64{{1, 4, -5}, {-3, -2, -1}, {2, 6, -4}, {3, 5, -6}}) || code != impl.ErrNone {
		t.Errorf("SplitTriangle(sphere, 0) = %v, %d", s, code)
	}
	if s, code := impl.SplitTriangle(sphere, 1); !sameTables(s, [][]int64{{1, 2, 3}, {-3, 4, -5}, {-2, 6, -4}, {-1, 5, -6}}) || code != impl.ErrNone {
		t.Errorf("SplitTriangle(sphere, 1) = %v, %d", s, code)
	}
	plane := namedSurface(t, "plane")
	if s, code := impl.SplitTriangle(plane, 1); !sameTables(s, [][]int64{{1, 2, -3}, {3, 4, -5}, {1, 6, -4}, {2, 5, -6}}) || code != impl.ErrNone {
		t.Errorf("SplitTriangle(plane, 1) = %v, %d", s, code)
	}
	// The fifth split leads to MaxTriangles triangles, and the sixth one would lead past them.
	for _, name := range surfaceNames {
		s := namedSurface(t, name)
		for len(s) < 12 {
			split, code := impl.SplitTriangle(s, int64(len(s)-1))
			if len(split) != len(s)+2 || !impl.IsSurface(split) || code != impl.ErrNone {
				t.Fatalf("SplitTriangle(%v, %d) = %v, %d", s, len(s)-1, split, code)
			}
			s = split
		}
		for i := range int64(12) {
			if split, code := impl.SplitTriangle(s, i); len(split) != 0 || code != impl.ErrLimit {
				t.Errorf("SplitTriangle(%v, %d) = %v, %d", s, i, split, code)
			}
		}
	}
}

// TestTurnedSurfaces checks that oriented surfaces with triangles turned over become oriented again: they
// come back, but for the pieces whose first triangles were turned over, which come back as a whole turned.
func TestTurnedSurfaces(t *testing.T) {
	d := &drawer{5}
	for _, s := range orientedSurfaces(t) {
		for range 4 {
			number := d.upTo(1 << len(s))
			want := 0
			for _, piece := range plainPieces(s) {
				for _, i := range piece {
					want |= (number >> piece[0] & 1) << i
				}
			}
			over := turnedAt(s, number)
			if again, code := impl.OrientSurface(over); !sameTables(again, turnedAt(s, want)) || code != impl.ErrNone {
				t.Errorf("OrientSurface(%v) = %v, %d instead of %v", over, again, code, turnedAt(s, want))
			}
		}
	}
}

// brokenSurfaces returns what is no surface, each for another reason.
func brokenSurfaces(t *testing.T) map[string][][]int64 {
	t.Helper()
	broken := map[string][][]int64{"nil": nil, "no triangle": {}, "one triangle": {{1, 2, 3}}, "one folded triangle": {{1, 1, 2}},
		"two nil ones": {nil, nil}, "two empty ones": {{}, {}}, "one nil one": {nil}, "twelve nil ones": make([][]int64, 12)}
	broken["two sides each"] = [][]int64{{1, 2}, {-1, -2}}
	broken["two and four sides"] = [][]int64{{1, 2}, {-1, -2, 3, -3}}
	broken["four and two sides"] = [][]int64{{1, 2, 3, -3}, {-2, -1}}
	broken["five and one"] = [][]int64{{1, 2, 3, -3, -2}, {-1}}
	broken["six and none"] = [][]int64{{1, 2, 3, -3, -2, -1}, {}}
	broken["six and nil"] = [][]int64{{1, 2, 3, -3, -2, -1}, nil}
	broken["none and six"] = [][]int64{nil, {1, 2, 3, -3, -2, -1}}
	broken["a side too many"] = [][]int64{{1, 2, 3}, {-3, -2, -1, 1}}
	broken["a side too few"] = [][]int64{{1, 2, 3}, {-3, -2}}
	broken["sides of four triangles"] = [][]int64{{1, 2, 3, 4, -4, -3}, {5, 6, -6, -5, -2, -1}}
	broken["three triangles"] = [][]int64{{1, 2, 3}, {-3, -2, -1}, {4, -4, 4}}
	broken["three triangles with four edges"] = [][]int64{{1, 2, 3}, {-3, -2, -1}, {4, -4, 1}}
	broken["an empty triangle more"] = append(namedSurface(t, "torus"), nil)
	broken["two empty triangles more"] = append(namedSurface(t, "torus"), nil, []int64{})
	d := &drawer{3}
	for _, triangles := range []int{1, 3, 5, 7, 9, 11, 13} {
		broken[strconv.Itoa(triangles)+" triangles"] = drawnSurface(d, triangles+1, true)[:triangles]
	}
	for _, triangles := range []int{14, 16, 18, 24, 256, 268} {
		broken[strconv.Itoa(triangles)+" triangles"] = drawnSurface(d, triangles, true)
	}
	broken["edge on one side"] = [][]int64{{1, 2, 3}, {-3, -2, 2}}
	broken["edge on three sides"] = [][]int64{{1, 2, 3}, {-3, -2, -3}}
	broken["edge on four sides"] = [][]int64{{1, 2, 2}, {-2, -2, -1}}
	broken["edge on six sides"] = [][]int64{{1, 1, 1}, {-1, -1, -1}}
	broken["edge on no side"] = [][]int64{{1, 1, 2}, {2, -1, -2}}
	broken["edges on sides of one and three"] = [][]int64{{1, 2, 3}, {1, 1, 2}}
	broken["edges 1, 2 and 4"] = [][]int64{{1, 2, 4}, {-4, -2, -1}}
	broken["edges 0, 1 and 2"] = [][]int64{{1, 2, 0}, {0, -2, -1}}
	broken["edges 2, 3 and 4"] = [][]int64{{4, 2, 3}, {-3, -2, -4}}
	return broken
}

// stateAlgebras returns an algebra of each kind: those that state sums take, one that is not symmetric, one
// that is not Frobenius, and one that is none.
func stateAlgebras(t *testing.T) []impl.Algebra {
	t.Helper()
	return []impl.Algebra{named(t, "field", 2), named(t, "pair", 5), named(t, "symmetric", 7), quantumPlane(t), parsed(t, "7:2:10,01,01,00:10"), {}}
}

// checkNoSurface checks that all functions tell that s is no surface, whatever the other arguments are.
func checkNoSurface(t *testing.T, why string, s [][]int64) {
	t.Helper()
	if impl.IsSurface(s) {
		t.Errorf("%s: IsSurface is true", why)
	}
	for name, count := range map[string]func([][]int64) (int64, int64){"CountVertices": impl.CountVertices, "EulerNumber": impl.EulerNumber,
		"CountSurfacePieces": impl.CountSurfacePieces, "GenusOf": impl.GenusOf} {
		if n, code := count(s); n != 0 || code != impl.ErrInvalid {
			t.Errorf("%s: %s = %d, %d", why, name, n, code)
		}
	}
	if yes, code := impl.IsOriented(s); yes || code != impl.ErrInvalid {
		t.Errorf("%s: IsOriented = %v, %d", why, yes, code)
	}
	if over, code := impl.OrientSurface(s); len(over) != 0 || code != impl.ErrInvalid {
		t.Errorf("%s: OrientSurface = %v, %d", why, over, code)
	}
	for _, number := range append([]int64{0, 1, 2, 3, 4, 18, 19, 21}, wildNumbers...) {
		if flipped, code := impl.FlipEdge(s, number); len(flipped) != 0 || code != impl.ErrInvalid {
			t.Errorf("%s: FlipEdge of %d = %v, %d", why, number, flipped, code)
		}
		if split, code := impl.SplitTriangle(s, number); len(split) != 0 || code != impl.ErrInvalid {
			t.Errorf("%s: SplitTriangle of %d = %v, %d", why, number, split, code)
		}
	}
	for _, a := range stateAlgebras(t) {
		checkNoSum(t, why, a, s, impl.ErrInvalid)
	}
}

// checkNoSum checks that there is a code instead of a state sum.
func checkNoSum(t *testing.T, why string, a impl.Algebra, s [][]int64, want int64) {
	t.Helper()
	if n, code := impl.StateSum(a, s); n != 0 || code != want {
		t.Errorf("%s: StateSum(%v, %v) = %d, %d instead of the code %d", why, a, s, n, code, want)
	}
}

func TestBrokenSurfaces(t *testing.T) {
	for why, s := range brokenSurfaces(t) {
		checkNoSurface(t, why, s)
	}
}

// TestChangedSides puts other numbers in the place of each side of surfaces.
func TestChangedSides(t *testing.T) {
	d := &drawer{9}
	for _, s := range [][][]int64{namedSurface(t, "sphere"), namedSurface(t, "bottle"), namedSurface(t, "double"), drawnSurface(d, 12, true)} {
		for i, row := range s {
			for at := range row {
				for _, x := range append([]int64{0, edgeCount(s) + 1, -edgeCount(s) - 1, 19, -19, 1<<32 + 1, row[at] + 1<<32, row[at] + 256, row[at] - 256}, wildNumbers...) {
					changed := cloneRows(s)
					changed[i][at] = x
					if isPlainSurface(changed) {
						continue
					}
					checkNoSurface(t, "side "+strconv.FormatInt(x, 10), changed)
				}
				for k := -edgeCount(s); k <= edgeCount(s); k++ {
					changed := cloneRows(s)
					changed[i][at] = k
					if impl.IsSurface(changed) != (k == row[at] || k == -row[at]) {
						t.Errorf("IsSurface(%v) is %v", changed, impl.IsSurface(changed))
					}
				}
			}
		}
	}
}

// TestMovesOutOfRange checks that numbers out of range are told before what is not oriented, and before
// the limit of triangles.
func TestMovesOutOfRange(t *testing.T) {
	for _, s := range sampleSurfaces(t) {
		for _, k := range append([]int64{0, edgeCount(s) + 1, edgeCount(s) + 2, 19, 1<<32 + 3}, wildNumbers...) {
			if k >= 1 && k <= edgeCount(s) {
				continue
			}
			if flipped, code := impl.FlipEdge(s, k); len(flipped) != 0 || code != impl.ErrRange {
				t.Errorf("FlipEdge(%v, %d) = %v, %d", s, k, flipped, code)
			}
		}
		for _, i := range append([]int64{int64(len(s)), int64(len(s)) + 1, 12, 13, 1<<32 + 1}, wildNumbers...) {
			if i >= 0 && i < int64(len(s)) {
				continue
			}
			if split, code := impl.SplitTriangle(s, i); len(split) != 0 || code != impl.ErrRange {
				t.Errorf("SplitTriangle(%v, %d) = %v, %d", s, i, split, code)
			}
		}
	}
}

// measures returns what flips and splits keep: the Euler number, the number of pieces, whether a surface is
// oriented, and the genus, or the code instead of it.
func measures(t *testing.T, s [][]int64) [5]int64 {
	t.Helper()
	euler, first := impl.EulerNumber(s)
	pieces, second := impl.CountSurfacePieces(s)
	oriented, third := impl.IsOriented(s)
	genus, code := impl.GenusOf(s)
	if first != impl.ErrNone || second != impl.ErrNone || third != impl.ErrNone {
		t.Fatalf("%v: codes %d, %d, %d", s, first, second, third)
	}
	kept := [5]int64{euler, pieces, 0, genus, code}
	if oriented {
		kept[2] = 1
	}
	return kept
}

// vertexCount returns the number of vertices.
func vertexCount(t *testing.T, s [][]int64) int64 {
	t.Helper()
	n, code := impl.CountVertices(s)
	if code != impl.ErrNone {
		t.Fatalf("CountVertices(%v): code %d", s, code)
	}
	return n
}

// flippableEdges returns the edges of an oriented surface that are on two different triangles.
func flippableEdges(s [][]int64) []int64 {
	var edges []int64
	for k := int64(1); k <= edgeCount(s); k++ {
		if onTwo(s, k) {
			edges = append(edges, k)
		}
	}
	return edges
}

// flipped returns s with the edge k flipped.
func flipped(t *testing.T, s [][]int64, k int64) [][]int64 {
	t.Helper()
	again, code := impl.FlipEdge(s, k)
	if code != impl.ErrNone {
		t.Fatalf("FlipEdge(%v, %d): code %d", s, k, code)
	}
	return again
}

// split returns s with the triangle i split.
func split(t *testing.T, s [][]int64, i int) [][]int64 {
	t.Helper()
	again, code := impl.SplitTriangle(s, int64(i))
	if code != impl.ErrNone {
		t.Fatalf("SplitTriangle(%v, %d): code %d", s, i, code)
	}
	return again
}

// Promise 7: flips and splits keep Euler numbers and orientations, again and again. Flips keep the number of
// vertices, and each split makes one more.
func TestFlipsAndSplitsKeep(t *testing.T) {
	d := &drawer{41}
	flips, splits := 0, 0
	for _, s := range orientedSurfaces(t) {
		kept, vertices := measures(t, s), vertexCount(t, s)
		for range 40 {
			edges := flippableEdges(s)
			if len(s) < 12 && (d.upTo(8) == 0 || len(edges) == 0) {
				s, vertices, splits = split(t, s, d.upTo(len(s))), vertices+1, splits+1
			} else if len(edges) > 0 {
				s, flips = flipped(t, s, edges[d.upTo(len(edges))]), flips+1
			}
			if !isPlainSurface(s) || measures(t, s) != kept || vertexCount(t, s) != vertices {
				t.Fatalf("%v has %v and %d vertices instead of %v and %d", s, measures(t, s), vertexCount(t, s), kept, vertices)
			}
		}
		checkCounts(t, s)
	}
	if flips < 2000 || splits < 100 {
		t.Errorf("only %d flips and %d splits", flips, splits)
	}
}

// TestSplitsKeepOthers checks splits of surfaces that are not oriented: those that are orientable remain so.
func TestSplitsKeepOthers(t *testing.T) {
	d := &drawer{43}
	for _, s := range sampleSurfaces(t) {
		kept, vertices := measures(t, s), vertexCount(t, s)
		_, code := impl.OrientSurface(s)
		for len(s) < 12 {
			s, vertices = split(t, s, d.upTo(len(s))), vertices+1
			_, again := impl.OrientSurface(s)
			if !isPlainSurface(s) || measures(t, s) != kept || vertexCount(t, s) != vertices || again != code {
				t.Fatalf("%v has %v, %d vertices and the code %d instead of %v, %d and %d", s, measures(t, s), vertexCount(t, s), again, kept, vertices, code)
			}
		}
	}
}

// TestFourFlips checks that four flips of an edge lead back, to triangles that begin with it.
func TestFourFlips(t *testing.T) {
	for _, s := range orientedSurfaces(t) {
		for _, k := range flippableEdges(s) {
			want := cloneRows(s)
			for _, x := range []int64{k, -k} {
				i, row := rowWith(s, x)
				want[i] = row
			}
			again := s
			for range 4 {
				again = flipped(t, again, k)
			}
			if !sameTables(again, want) {
				t.Errorf("four flips of %d lead from %v to %v", k, s, again)
			}
		}
	}
}

// TestGreatGenera checks the greatest genus of each number of triangles: with one vertex it is a quarter of
// the number of triangles, and a half more.
func TestGreatGenera(t *testing.T) {
	d := &drawer{7}
	for triangles := 2; triangles <= 12; triangles += 2 {
		most := int64(-1)
		for range 400 {
			s := drawnSurface(d, triangles, true)
			if genus, code := impl.GenusOf(s); code == impl.ErrNone {
				most = max(most, genus)
			}
		}
		if want := int64(triangles+2) / 4; most != want {
			t.Errorf("the greatest genus of %d triangles is %d instead of %d", triangles, most, want)
		}
	}
}

// isPlainSymmetric tells whether the form table is the same turned.
func isPlainSymmetric(a impl.Algebra) bool {
	table := plainFormTable(a)
	return sameTables(table, turned(table))
}

// symmetricSamples returns the samples that are Frobenius and symmetric, and some of them to other bases.
func symmetricSamples(t *testing.T) []impl.Algebra {
	t.Helper()
	samples := thatAre(isPlainSymmetric, frobeniusSamples(t))
	for i, a := range samples {
		if i%3 == 0 {
			b, _ := inBasis(a, otherBasis(a, i%7))
			samples = append(samples, b)
		}
	}
	return samples
}

func TestIsSymmetric(t *testing.T) {
	kinds := map[[2]bool]int{}
	for _, a := range append(formSamples(t), symmetricSamples(t)...) {
		want := isPlainSymmetric(a)
		if yes, code := impl.IsSymmetric(a); yes != want || code != impl.ErrNone {
			t.Errorf("IsSymmetric(%v) = %v, %d", a, yes, code)
		}
		kinds[[2]bool{want, isPlainFrobenius(a)}]++
	}
	// Both kinds of triangular matrices, which are not Frobenius: with equal forms on the diagonal, and 0
	// or 1 above it.
	for text, want := range map[string]bool{"3:3:100,010,000,000,000,010,000,000,001:101": true, "3:3:100,010,000,000,000,010,000,000,001:111": false} {
		a := parsed(t, text)
		if yes, code := impl.IsSymmetric(a); yes != want || isPlainFrobenius(a) || code != impl.ErrNone {
			t.Errorf("IsSymmetric(%v) = %v, %d", a, yes, code)
		}
		kinds[[2]bool{want, false}]++
	}
	for why, a := range brokenAlgebras(t) {
		if yes, code := impl.IsSymmetric(a); yes || code != impl.ErrInvalid {
			t.Errorf("%s: IsSymmetric = %v, %d", why, yes, code)
		}
	}
	if len(kinds) != 4 || kinds[[2]bool{true, true}] < 100 || kinds[[2]bool{false, true}] < 20 {
		t.Errorf("symmetric and Frobenius or not: %v", kinds)
	}
}

// TestIsSymmetricForVectors checks forms of products of all vectors of some algebras.
func TestIsSymmetricForVectors(t *testing.T) {
	for _, a := range append(formSamples(t), quantumPlane(t)) {
		want := true
		vectors := drawnVectors(a, 12)
		for i := range a.Size {
			vectors = append(vectors, basis(i))
		}
		for _, v := range vectors {
			for _, w := range vectors {
				want = want && plainForm(a, plainProduct(a, v, w)) == plainForm(a, plainProduct(a, w, v))
			}
		}
		if yes, code := impl.IsSymmetric(a); yes != want || code != impl.ErrNone {
			t.Errorf("IsSymmetric(%v) = %v, %d", a, yes, code)
		}
	}
}

// plainStates reports whether n^(k + 3) is greater than the limit for some triangle.
func plainStates(n int64, s [][]int64) bool {
	for i := range s {
		if plainCount(n, mostWaiting(s[:i])+3) > statesLimit {
			return true
		}
	}
	return false
}

// mostWaiting returns how many edges are on just one side of triangles.
func mostWaiting(rows [][]int64) int64 {
	count := int64(0)
	for _, row := range rows {
		for _, x := range row {
			uses := 0
			for _, y := range slices.Concat(rows...) {
				if x == y || x == -y {
					uses++
				}
			}
			if uses == 1 {
				count++
			}
		}
	}
	return count
}

// summer adds up a state sum straight from the definition. It leaves choices as soon as a factor is 0, and
// counts the triangles for which it has chosen numbers.
type summer struct {
	algebra   impl.Algebra
	triangles int
	closed    [][][2]int
	copairing [][]int64
	forms     map[[3]int64]int64
	steps     int
}

// mostSteps is how many steps a summer takes at most.
const mostSteps = 6000

func newSummer(t *testing.T, a impl.Algebra, s [][]int64) *summer {
	t.Helper()
	m := &summer{algebra: a, triangles: len(s), closed: make([][][2]int, len(s)), copairing: copairingOf(t, a), forms: map[[3]int64]int64{}}
	for _, x := range plainChoices(a.Size, 3) {
		value := plainForm(a, plainProduct(a, plainProduct(a, basis(x[0]), basis(x[1])), basis(x[2])))
		if value != 0 {
			m.forms[[3]int64(x)] = value
		}
	}
	all := slices.Concat(s...)
	for k := int64(1); k <= edgeCount(s); k++ {
		both := [2]int{slices.Index(all, k), slices.Index(all, -k)}
		last := max(both[0], both[1]) / 3
		m.closed[last] = append(m.closed[last], both)
	}
	return m
}

// sum adds up over the triangles behind those whose numbers are chosen.
func (m *summer) sum(numbers []int64) int64 {
	i := len(numbers) / 3
	if i == m.triangles {
		return 1
	}
	total := int64(0)
	for x, value := range m.forms {
		if m.steps++; m.steps > mostSteps {
			return 0
		}
		more := append(numbers[:3*i:3*i], x[:]...)
		for _, both := range m.closed[i] {
			value = value * m.copairing[more[both[0]]][more[both[1]]] % m.algebra.Prime
		}
		if value != 0 {
			total += value * m.sum(more)
		}
	}
	return total % m.algebra.Prime
}

// checkSum checks a state sum, or that it is beyond the limit, and reports whether it is not.
func checkSum(t *testing.T, why string, a impl.Algebra, s [][]int64, want int64) bool {
	t.Helper()
	wantCode := int64(impl.ErrNone)
	if plainStates(a.Size, s) {
		want, wantCode = 0, impl.ErrLimit
	}
	if n, code := impl.StateSum(a, s); n != want || code != wantCode {
		t.Errorf("%s: StateSum(%v, %v) = %d, %d instead of %d, %d", why, a, s, n, code, want, wantCode)
	}
	return wantCode == impl.ErrNone
}

// stateSum returns a state sum that is within the limit.
func stateSum(t *testing.T, a impl.Algebra, s [][]int64) int64 {
	t.Helper()
	n, code := impl.StateSum(a, s)
	if code != impl.ErrNone {
		t.Fatalf("StateSum(%v, %v): code %d", a, s, code)
	}
	return n
}

// TestStateSums checks the definition where it takes not too many steps.
func TestStateSums(t *testing.T) {
	surfaces := orientedSurfaces(t)
	checked := map[int]int{}
	for i, a := range symmetricSamples(t) {
		for step := range 16 {
			s := surfaces[(7*i+5*step)%len(surfaces)]
			m := newSummer(t, a, s)
			if want := m.sum(nil); m.steps <= mostSteps && checkSum(t, "definition", a, s, want) {
				checked[len(s)]++
			}
		}
	}
	for triangles := 2; triangles <= 12; triangles += 2 {
		if checked[triangles] < 50 {
			t.Errorf("there are only %d sums for %d triangles", checked[triangles], triangles)
		}
	}
}

// TestStateSumsOfSmallSurfaces checks the definition for all oriented surfaces of two triangles.
func TestStateSumsOfSmallSurfaces(t *testing.T) {
	matrices, _ := inBasis(named(t, "matrix", 5), otherBasis(named(t, "matrix", 5), 2))
	algebras := []impl.Algebra{named(t, "dual", 3), parsed(t, "11:1:2:a"), named(t, "matrix", 7), matrices, named(t, "symmetric", 11)}
	count := 0
	for _, order := range permutations(6) {
		s := [][]int64{make([]int64, 3), make([]int64, 3)}
		for at, place := range order {
			s[place/3][place%3] = []int64{1, -1, 2, -2, 3, -3}[at]
		}
		a := algebras[count%len(algebras)]
		m := newSummer(t, a, s)
		if want := m.sum(nil); m.steps <= mostSteps {
			checkSum(t, "small", a, s, want)
		} else {
			t.Errorf("%d steps are too few for %v", mostSteps, a)
		}
		count++
	}
	if count != 720 {
		t.Errorf("there are %d surfaces", count)
	}
}

// genusNumbers returns the product of the genus numbers of F / 2 + 1 of the pieces of a surface.
func genusNumbers(t *testing.T, a impl.Algebra, s [][]int64) int64 {
	t.Helper()
	whole := int64(1)
	for _, piece := range plainPieces(s) {
		n, code := impl.GenusNumber(a, int64(len(piece)/2+1))
		if code != impl.ErrNone {
			t.Fatalf("GenusNumber(%v): code %d", a, code)
		}
		whole = whole * n % a.Prime
	}
	return whole
}

// Promise 16: state sums of commutative algebras are genus numbers, those of F / 2 + 1 for one piece.
func TestStateSumsAreGenusNumbers(t *testing.T) {
	surfaces := orientedSurfaces(t)
	samples := thatAre(isPlainCommutative, symmetricSamples(t))
	within, others := 0, map[int64]int{}
	for i, a := range samples {
		for step := range 16 {
			s := surfaces[(11*i+7*step)%len(surfaces)]
			want := genusNumbers(t, a, s)
			if checkSum(t, "genus number", a, s, want) {
				within++
				others[min(want, 2)]++
			}
		}
	}
	if len(samples) < 100 || within < 1000 || others[0] < 100 || others[1] < 100 || others[2] < 100 {
		t.Errorf("of %d samples there are %d sums: %v", len(samples), within, others)
	}
}

// TestStateSumsOfSplits checks that splits of commutative algebras lead from a genus number to the next one.
func TestStateSumsOfSplits(t *testing.T) {
	d := &drawer{61}
	for i, a := range thatAre(isPlainCommutative, symmetricSamples(t)) {
		s := namedSurface(t, []string{"sphere", "torus", "double"}[i%3])
		for len(s) < 12 {
			checkSum(t, "split", a, s, genusNumbers(t, a, s))
			s = split(t, s, d.upTo(len(s)))
		}
		checkSum(t, "split", a, s, genusNumbers(t, a, s))
	}
}

// Promise 16: flips keep state sums, again and again, also of algebras that are not commutative.
func TestFlipsKeepStateSums(t *testing.T) {
	d := &drawer{59}
	surfaces := orientedSurfaces(t)
	flips, others := 0, 0
	for i, a := range symmetricSamples(t) {
		for step := range 4 {
			s := surfaces[(13*i+29*step)%len(surfaces)]
			want, code := impl.StateSum(a, s)
			if code != impl.ErrNone {
				continue
			}
			for range 6 {
				edges := flippableEdges(s)
				if len(edges) == 0 {
					break
				}
				s = flipped(t, s, edges[d.upTo(len(edges))])
				if !checkSum(t, "flip", a, s, want) {
					continue
				}
				flips++
				if !isPlainCommutative(a) {
					others++
				}
			}
		}
	}
	if flips < 1500 || others < 200 {
		t.Errorf("only %d flips, %d of them for algebras that are not commutative", flips, others)
	}
}

// TestFlipsOfOne checks that the flip of any edge keeps the state sum.
func TestFlipsOfOne(t *testing.T) {
	for _, p := range primes {
		for _, a := range []impl.Algebra{named(t, "pair", p), named(t, "matrix", p), sumOf(t, named(t, "matrix", p), named(t, "dual", p)), named(t, "symmetric", p)} {
			for _, name := range []string{"sphere", "torus", "double"} {
				s := namedSurface(t, name)
				want := stateSum(t, a, s)
				for _, k := range flippableEdges(s) {
					checkSum(t, name, a, flipped(t, s, k), want)
				}
			}
		}
	}
}

// TestStateSumsOfFields checks that a form of c alone makes c^(F - E).
func TestStateSumsOfFields(t *testing.T) {
	for _, p := range primes {
		for c := int64(1); c < p; c++ {
			a := named(t, "field", p)
			a.Form = impl.Vector{byte(c)}
			for _, s := range orientedSurfaces(t) {
				if !checkSum(t, "field", a, s, plainPower(p, plainInverse(p, c), int64(len(s)/2))) {
					t.Errorf("%v is beyond the limit for fields", s)
				}
			}
		}
	}
}

// TestStateSumsOfMatrices checks that matrices of two rows count the ways to give each vertex a row, divided
// by the power c^(F / 2) for the form with c on the diagonal.
func TestStateSumsOfMatrices(t *testing.T) {
	surfaces := orientedSurfaces(t)
	for at, p := range primes {
		for c := int64(1); c < p; c++ {
			a := named(t, "matrix", p)
			a.Form = impl.Vector{byte(c), 0, 0, byte(c)}
			b, _ := inBasis(a, otherBasis(a, int(c)))
			for i, s := range surfaces {
				if i%len(primes) != at {
					continue
				}
				want := plainPower(p, 2, plainVertices(s)) * plainPower(p, plainInverse(p, c), int64(len(s)/2)) % p
				checkSum(t, "matrix", a, s, want)
				checkSum(t, "matrix to another basis", b, s, want)
			}
		}
	}
}

// TestStateSumsOfGroups checks that group algebras count homomorphisms of surface groups, times the order
// for each vertex but one.
func TestStateSumsOfGroups(t *testing.T) {
	within := 0
	for i, s := range orientedSurfaces(t) {
		if len(plainPieces(s)) > 1 {
			continue
		}
		genus, code := impl.GenusOf(s)
		if code != impl.ErrNone {
			t.Fatalf("GenusOf(%v): code %d", s, code)
		}
		for _, name := range groupNames {
			g, p := knownGroup(t, name), primes[i%len(primes)]
			want := plainPower(p, g.Order, plainVertices(s)-1) * (surfaces(t, g, genus) % p) % p
			if checkSum(t, name, groupAlgebra(t, p, g), s, want) {
				within++
			}
		}
	}
	if within < 200 {
		t.Errorf("only %d sums are within the limit", within)
	}
}

// TestStateSumsOfTwisted checks algebras of v4 twisted by signs, which are matrices with half the form.
func TestStateSumsOfTwisted(t *testing.T) {
	g := knownGroup(t, "v4")
	for _, p := range primes[1:] {
		for _, sign := range []int64{1, p - 1} {
			a := twistedAlgebra(t, p, g, signTable(p, sign, sign, p-1))
			if isPlainCommutative(a) || !isPlainSymmetric(a) {
				t.Errorf("%v is commutative, or not symmetric", a)
			}
			for _, s := range orientedSurfaces(t) {
				checkSum(t, "twisted", a, s, plainPower(p, 2, plainVertices(s)+int64(len(s)/2)))
			}
		}
	}
}

// TestStateSumsOfSumsAndTensors checks that state sums of sums of algebras are sums, for one piece, and
// those of tensor products are products.
func TestStateSumsOfSumsAndTensors(t *testing.T) {
	surfaces := orientedSurfaces(t)
	for i, p := range primes {
		dual, pair, cyclic := named(t, "dual", p), named(t, "pair", p), named(t, "cyclic3", p)
		field, matrix := parsed(t, primeText(p)+":1:1:1"), named(t, "matrix", p)
		field.Form = impl.Vector{byte(p - 1)}
		for j, s := range surfaces {
			if j%3 != i%3 {
				continue
			}
			for _, both := range [][2]impl.Algebra{{dual, pair}, {pair, cyclic}, {field, matrix}, {matrix, pair}, {cyclic, dual}} {
				a, b := both[0], both[1]
				if plainStates(max(a.Size, b.Size), s) {
					continue
				}
				first, other := stateSum(t, a, s), stateSum(t, b, s)
				if len(plainPieces(s)) == 1 {
					checkSum(t, "sum", sumOf(t, a, b), s, (first+other)%p)
				}
				if a.Size*b.Size <= 6 {
					checkSum(t, "tensor product", tensorOf(t, a, b), s, first*other%p)
				}
			}
		}
	}
}

// renamedEdges gives the edges of a surface other numbers, and turns some of them around.
func renamedEdges(d *drawer, s [][]int64) [][]int64 {
	order, signs := drawnOrder(d, int(edgeCount(s))), d.upTo(1<<min(edgeCount(s), 15))
	again := cloneRows(s)
	for _, row := range again {
		for at, x := range row {
			k := max(x, -x) - 1
			row[at] = int64(order[k]+1) * (x / max(x, -x))
			if signs>>k&1 == 1 {
				row[at] = -row[at]
			}
		}
	}
	return again
}

// TestStateSumsOfEqualSurfaces checks that other orders of triangles, first sides, names and directions of
// edges do not change what is counted, nor state sums; and that surfaces turned over as a whole have the
// state sums for opposite algebras.
func TestStateSumsOfEqualSurfaces(t *testing.T) {
	d := &drawer{67}
	surfaces := orientedSurfaces(t)
	for i, a := range symmetricSamples(t) {
		s := surfaces[31*i%len(surfaces)]
		if plainStates(a.Size, s) {
			continue
		}
		want, again := stateSum(t, a, s), renamedEdges(d, s)
		for at, row := range again {
			first := d.upTo(3)
			again[at] = slices.Concat(row[first:], row[:first])
		}
		again = reordered(again, drawnOrder(d, len(s)))
		if measures(t, again) != measures(t, s) || vertexCount(t, again) != vertexCount(t, s) {
			t.Errorf("%v has %v, and %v has %v", s, measures(t, s), again, measures(t, again))
		}
		checkSum(t, "equal", a, again, want)
		checkSum(t, "turned over", oppositeOf(t, a), turnedAt(s, 1<<len(s)-1), want)
	}
}

// pieceAlone returns the triangles of a piece with the edges 1, 2, .. in the order in which they come.
func pieceAlone(s [][]int64, piece []int) [][]int64 {
	var alone [][]int64
	names := map[int64]int64{}
	for _, i := range piece {
		var row []int64
		for _, x := range s[i] {
			k := max(x, -x)
			if names[k] == 0 {
				names[k] = int64(len(names) + 1)
			}
			row = append(row, names[k]*(x/k))
		}
		alone = append(alone, row)
	}
	return alone
}

// TestStateSumsOfPieces checks that state sums are products of those of the pieces.
func TestStateSumsOfPieces(t *testing.T) {
	looked := 0
	samples := symmetricSamples(t)
	for i, s := range orientedSurfaces(t) {
		pieces := plainPieces(s)
		if len(pieces) == 1 {
			continue
		}
		for step := range 40 {
			a := samples[(17*i+7*step)%len(samples)]
			if plainStates(a.Size, s) {
				continue
			}
			want := int64(1)
			for _, piece := range pieces {
				want = want * stateSum(t, a, pieceAlone(s, piece)) % a.Prime
			}
			checkSum(t, "pieces", a, s, want)
			looked++
		}
	}
	if looked < 500 {
		t.Errorf("only %d sums are within the limit", looked)
	}
}

// TestStateLimits looks, for each size, for surfaces at which n^(k + 3) is as great as it may be, and for
// those at which it is too great by one more edge.
func TestStateLimits(t *testing.T) {
	for n, most := range []int64{0, 18, 15, 8, 6, 4, 4} {
		if n == 0 {
			continue
		}
		a := sizedAlgebras(t, primeAt(n))[n]
		found := map[int64]int{}
		d := &drawer{int64(70 + n)}
		for step := range 6000 {
			s := drawnSurface(d, 12-step%4*2, true)
			waiting := int64(0)
			for i := range s {
				waiting = max(waiting, mostWaiting(s[:i]))
			}
			if waiting < most || waiting > most+1 || found[waiting] >= 3 {
				continue
			}
			if plainStates(int64(n), s) != (waiting > most) {
				t.Errorf("%v has %d edges on one side", s, waiting)
			}
			found[waiting]++
			checkSum(t, "limit", a, s, commonSum(t, a, s))
		}
		if n > 1 && (found[most] != 3 || found[most+1] != 3) {
			t.Errorf("the size %d: %v surfaces", n, found)
		}
	}
}

// commonSum returns the state sum of a surface for an algebra with a name, or for the sum of dual and cyclic3.
func commonSum(t *testing.T, a impl.Algebra, s [][]int64) int64 {
	t.Helper()
	if isPlainCommutative(a) {
		return genusNumbers(t, a, s)
	}
	if a.Size == 4 {
		return plainPower(a.Prime, 2, plainVertices(s))
	}
	whole := int64(1)
	for _, piece := range plainPieces(s) {
		alone := pieceAlone(s, piece)
		genus := 1 - (plainVertices(alone)-edgeCount(alone)+int64(len(alone)))/2
		whole = whole * plainPower(a.Prime, 6, plainVertices(alone)-1) % a.Prime * (surfaces(t, knownGroup(t, "s3"), genus) % a.Prime) % a.Prime
	}
	return whole
}

// halves is a surface whose first six triangles have each of the 18 edges once.
func halves() [][]int64 {
	var s [][]int64
	for k := int64(1); k <= 18; k += 3 {
		s = append(s, []int64{k, k + 1, k + 2})
	}
	for k := int64(1); k <= 6; k++ {
		s = append(s, []int64{-k, -k - 6, -k - 12})
	}
	return s
}

// TestLimitsByOrder checks surfaces that are within the limit or beyond it by the order of their triangles
// alone.
func TestLimitsByOrder(t *testing.T) {
	sphere := namedSurface(t, "sphere")
	beside := together(sphere, sphere)
	mixed := reordered(beside, []int{0, 2, 1, 3})
	for n, a := range sizedAlgebras(t, 7) {
		if n == 0 {
			continue
		}
		number := stateSum(t, a, sphere)
		checkSum(t, "one sphere behind the other", a, beside, number*number%7)
		// The third triangle has six edges ahead of it.
		if within := checkSum(t, "mixed spheres", a, mixed, number*number%7); within != (n <= 4) {
			t.Errorf("the size %d: mixed spheres are within the limit: %v", n, within)
		}
		if within := checkSum(t, "halves", a, halves(), commonSum(t, a, halves())); within != (n == 1) {
			t.Errorf("the size %d: halves are within the limit: %v", n, within)
		}
	}
	folded := [][]int64{{1, -1, 2}, {3, -3, -2}, {4, -4, 5}, {6, -6, -5}, {7, -7, 8}, {9, -9, -8}}
	mixed = reordered(folded, []int{0, 2, 4, 1, 3, 5})
	six := named(t, "symmetric", 5)
	// Three edges are ahead of the fourth triangle, as those on both sides of triangles are not counted.
	if !checkSum(t, "folded", six, folded, commonSum(t, six, folded)) || !checkSum(t, "folded", six, mixed, commonSum(t, six, mixed)) {
		t.Errorf("%v or %v is beyond the limit", folded, mixed)
	}
}

// TestStateSumErrors checks the order of errors.
func TestStateSumErrors(t *testing.T) {
	plane, oriented, beyond := namedSurface(t, "plane"), namedSurface(t, "torus"), halves()
	turnedBeyond := turnedAt(beyond, 5)
	good, skew, flat := named(t, "symmetric", 5), quantumPlane(t), parsed(t, "7:2:10,01,01,00:10")
	for why, a := range brokenAlgebras(t) {
		for _, s := range [][][]int64{nil, {{1, 2, 3}}, plane, oriented, beyond, turnedBeyond} {
			checkNoSum(t, why, a, s, impl.ErrInvalid)
		}
	}
	for _, a := range []impl.Algebra{skew, flat, parsed(t, "11:1:1:0"), sumOf(t, skew, named(t, "dual", 5)), parsed(t, "3:3:100,010,000,000,000,010,000,000,001:101")} {
		checkNoSum(t, "no surface", a, nil, impl.ErrInvalid)
		for _, s := range [][][]int64{plane, oriented, beyond, turnedBeyond} {
			checkNoSum(t, "state of the algebra", a, s, impl.ErrState)
		}
	}
	for _, s := range [][][]int64{plane, turnedBeyond, namedSurface(t, "bottle"), {{1, 2, 3}, {1, 2, 3}}, turnedAt(oriented, 1)} {
		checkNoSum(t, "state of the surface", good, s, impl.ErrState)
		checkNoSum(t, "state of the surface", named(t, "field", 2), s, impl.ErrState)
	}
	checkNoSum(t, "limit", good, beyond, impl.ErrLimit)
	for _, a := range formSamples(t) {
		if !isPlainFrobenius(a) || !isPlainSymmetric(a) {
			checkNoSum(t, "state of the sample", a, oriented, impl.ErrState)
			checkNoSum(t, "state of the sample", a, beyond, impl.ErrState)
		}
	}
	for _, s := range sampleSurfaces(t) {
		if !isPlainOriented(s) {
			checkNoSum(t, "state of the sample", good, s, impl.ErrState)
		}
	}
}

// flatList returns the numbers of rows in one list.
func flatList(rows [][]int64, code int64) []int64 {
	return append(slices.Concat(rows...), code)
}

// checkSurfaceMemory checks that results are new memory, and that the rows of a surface and what is behind
// their ends remain as they are.
func checkSurfaceMemory(t *testing.T, s [][]int64) {
	t.Helper()
	table, all := spareRows(s)
	calls := map[string]func() ([][]int64, int64){
		"OrientSurface": func() ([][]int64, int64) { return impl.OrientSurface(table) },
		"FlipEdge":      func() ([][]int64, int64) { return impl.FlipEdge(table, edgeCount(s)) },
		"SplitTriangle": func() ([][]int64, int64) { return impl.SplitTriangle(table, int64(len(s)-1)) },
	}
	for why, call := range calls {
		checkMemory(t, why, func() []int64 { return flatList(call()) }, all...)
		if _, code := call(); code != impl.ErrNone {
			continue
		}
		rows := func() [][]int64 {
			result, _ := call()
			return result
		}
		checkRows(t, why, rows)
		checkMemory(t, why, func() []int64 { return rows()[0] }, all...)
		checkMemory(t, why, func() []int64 { return rows()[len(s)-1] }, all...)
	}
	checkMemory(t, "counts", func() []int64 {
		impl.IsSurface(table)
		kept := measures(t, table)
		sum, code := impl.StateSum(named(t, "dual", 5), table)
		return append(kept[:], vertexCount(t, table), sum, code)
	}, all...)
	if more := table[:len(table)+3]; !sameTables(table, s) || !sameTables(more[len(table):], [][]int64{{70, 71}, nil, nil}) {
		t.Errorf("%v and what is behind it became %v", s, more)
	}
}

func TestSurfaceMemory(t *testing.T) {
	for _, s := range sampleSurfaces(t) {
		checkSurfaceMemory(t, s)
	}
	for _, name := range surfaceNames {
		checkRows(t, name, func() [][]int64 { return namedSurface(t, name) })
	}
}

// TestSharedRows checks surfaces whose triangles are one piece of memory, or parts of one.
func TestSharedRows(t *testing.T) {
	row := []int64{1, 2, 3}
	twice := [][]int64{row, row}
	if s, code := impl.OrientSurface(twice); !sameTables(s, [][]int64{{1, 2, 3}, {-3, -2, -1}}) || code != impl.ErrNone {
		t.Errorf("OrientSurface(%v) = %v, %d", twice, s, code)
	}
	checkRows(t, "SplitTriangle", func() [][]int64 { return split(t, twice, 0) })
	checkRows(t, "OrientSurface", func() [][]int64 {
		s, _ := impl.OrientSurface(twice)
		return s
	})
	list := slices.Concat(namedSurface(t, "double")...)
	kept := slices.Clone(list)
	var parts [][]int64
	for at := 0; at < len(list); at += 3 {
		parts = append(parts, list[at:at+3])
	}
	for k := int64(1); k <= 9; k++ {
		if s := flipped(t, parts, k); !sameTables(s, flippedAt(parts, k)) || !slices.Equal(list, kept) {
			t.Errorf("FlipEdge(%v, %d) = %v", parts, k, s)
		}
		checkRows(t, "FlipEdge", func() [][]int64 { return flipped(t, parts, k) })
	}
	for i := range parts {
		if s := split(t, parts, i); !sameTables(s, splitAt(parts, int64(i))) || !slices.Equal(list, kept) {
			t.Errorf("SplitTriangle(%v, %d) = %v", parts, i, s)
		}
		checkRows(t, "SplitTriangle", func() [][]int64 { return split(t, parts, i) })
	}
	if !slices.Equal(row, []int64{1, 2, 3}) {
		t.Errorf("a row became %v", row)
	}
}

// checkNoneRemain checks that there are no more goroutines than before, or soon will be.
func checkNoneRemain(t *testing.T, before int) {
	t.Helper()
	for range 100 {
		if runtime.NumGoroutine() <= before {
			return
		}
		time.Sleep(10 * time.Millisecond)
	}
	t.Errorf("there are %d goroutines instead of %d", runtime.NumGoroutine(), before)
}

// TestCallsAtOnce checks that calls do not disturb each other, and that no goroutine remains behind them.
func TestCallsAtOnce(t *testing.T) {
	before := runtime.NumGoroutine()
	samples := thatAre(func(a impl.Algebra) bool { return a.Size <= 3 }, symmetricSamples(t))
	surfaces := orientedSurfaces(t)
	var group sync.WaitGroup
	for i, s := range surfaces {
		a := samples[i*5%len(samples)]
		want, code := impl.StateSum(a, s)
		pieces, _ := impl.CountSurfacePieces(s)
		for range 4 {
			group.Go(func() {
				if n, again := impl.StateSum(a, s); n != want || again != code {
					t.Errorf("StateSum(%v, %v) = %d, %d, and then %d, %d", a, s, want, code, n, again)
				}
				if n, again := impl.CountSurfacePieces(s); n != pieces || again != impl.ErrNone {
					t.Errorf("CountSurfacePieces(%v) = %d, and then %d, %d", s, pieces, n, again)
				}
			})
		}
	}
	group.Wait()
	checkNoneRemain(t, before)
}
