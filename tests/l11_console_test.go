package tests

import (
	"maps"
	"slices"
	"strconv"
	"strings"
	"sync"
	"testing"

	"loop.example/g01267/impl"
)

// lineForms tells for each command what stands behind it.
var lineForms = map[string]string{
	"algebra": "TEXT", "named": "NAME K", "group": "NAME K", "classes": "NAME K", "reform": "", "opposite": "",
	"first": "TEXT", "second": "TEXT", "unit": "", "swap": "", "times": "", "plus": "K", "power": "K",
	"inverse": "", "handle": "", "show": "", "left": "", "right": "", "word": "", "commutative": "",
	"frobenius": "", "form": "", "trace": "", "pair": "", "genus": "K", "write": "TEXT", "above": "TEXT",
	"beside": "TEXT", "flip": "", "legs": "", "euler": "", "parts": "", "alike": "TEXT", "closed": "",
	"surface": "NAME K", "squares": "NAME K", "reset": "",
}

// askers has the commands that change no desk.
var askers = []string{"show", "left", "right", "word", "commutative", "frobenius", "form", "trace", "pair", "genus",
	"legs", "euler", "parts", "alike", "closed", "surface", "squares"}

// algebraGivers has the commands that give a desk an algebra.
var algebraGivers = []string{"algebra", "named", "group", "classes", "reform", "opposite"}

// alwaysRight has the commands of one word that have no reason to fail.
var alwaysRight = []string{"opposite", "unit", "swap", "times", "show", "left", "right", "word", "commutative",
	"frobenius", "form", "trace", "pair", "flip", "legs", "euler", "parts", "reset"}

// commandNames returns all commands, in alphabetical order.
func commandNames() []string {
	return slices.Sorted(maps.Keys(lineForms))
}

// told has what stands behind a command.
type told struct {
	text   string
	name   string
	number int64
}

// plainNumber reads a number of a line.
func plainNumber(text string) (int64, bool) {
	if text == "" || len(text) > 9 || len(text) > 1 && text[0] == '0' {
		return 0, false
	}
	number := int64(0)
	for _, letter := range []byte(text) {
		if letter < '0' || letter > '9' {
			return 0, false
		}
		number = 10*number + int64(letter-'0')
	}
	return number, true
}

// plainTold reads the words behind a command.
func plainTold(form string, words []string) (told, bool) {
	switch {
	case form == "":
		return told{}, len(words) == 0
	case form == "TEXT":
		return told{text: strings.Join(words, " ")}, len(words) > 0
	case form == "K" && len(words) == 1, form == "NAME K" && len(words) == 2:
		number, isNumber := plainNumber(words[len(words)-1])
		return told{name: words[0], number: number}, isNumber
	}
	return told{}, false
}

// plainFresh is the fresh desk of an algebra.
func plainFresh(a impl.Algebra) impl.Desk {
	unit, _ := impl.UnitOf(a)
	return impl.Desk{Algebra: a, First: unit}
}

// plainNew is the new desk, told by its numbers.
func plainNew() impl.Desk {
	table := [6][6][6]byte{{{1, 0}, {0, 0}}, {{0, 0}, {0, 1}}}
	a := impl.Algebra{Prime: 5, Size: 2, Table: table, Form: impl.Vector{1, 1}}
	return impl.Desk{Algebra: a, First: impl.Vector{1, 1}}
}

// wordOr is a word as it is put out.
func wordOr(word string) string {
	if word == "" {
		return "-"
	}
	return word
}

// joined is a list as it is put out.
func joined(numbers ...int64) string {
	var texts []string
	for _, number := range numbers {
		texts = append(texts, strconv.FormatInt(number, 10))
	}
	return strings.Join(texts, " ")
}

// whoseGroup returns what a function makes of a known group and a number.
func whoseGroup[T any](x told, call func(g impl.Group, k int64) (T, int64)) (T, int64) {
	g, code := impl.KnownGroup(x.name)
	if code != impl.ErrNone {
		var none T
		return none, code
	}
	return call(g, x.number)
}

// algebraBy returns the algebra that a line gives a desk, a code, and whether its command is of this kind.
func algebraBy(d impl.Desk, command string, x told) (impl.Algebra, int64, bool) {
	a, code := impl.Algebra{}, int64(impl.ErrNone)
	switch command {
	case "algebra":
		a, code = impl.ParseAlgebra(x.text)
	case "named":
		a, code = impl.NamedAlgebra(x.name, x.number)
	case "group":
		a, code = whoseGroup(x, func(g impl.Group, p int64) (impl.Algebra, int64) { return impl.GroupAlgebra(p, g) })
	case "classes":
		a, code = whoseGroup(x, func(g impl.Group, p int64) (impl.Algebra, int64) { return impl.ClassAlgebra(p, g) })
	case "reform":
		a, code = impl.ChangeForm(d.Algebra, d.First)
	case "opposite":
		a, code = impl.OppositeAlgebra(d.Algebra)
	default:
		return a, code, false
	}
	return a, code, true
}

// vectorBy returns the vector that a line gives a desk as one of its two, in the same way.
func vectorBy(d impl.Desk, command string, x told) (impl.Vector, int64, bool) {
	v, code := impl.Vector{}, int64(impl.ErrNone)
	switch command {
	case "first", "second":
		v, code = impl.ParseVector(d.Algebra, x.text)
	case "unit":
		v, code = impl.UnitOf(d.Algebra)
	case "swap":
		v = d.Second
	case "times":
		v, code = impl.MultiplyVectors(d.Algebra, d.First, d.Second)
	case "plus":
		v, code = impl.AddVectors(d.Algebra, d.First, d.Second, x.number)
	case "power":
		v, code = impl.PowerVector(d.Algebra, d.First, x.number)
	case "inverse":
		v, code = impl.InverseVector(d.Algebra, d.First)
	case "handle":
		v, code = impl.HandleOf(d.Algebra)
	default:
		return v, code, false
	}
	return v, code, true
}

// wordBy returns the word that a line gives a desk, in the same way.
func wordBy(d impl.Desk, command string, x told) (string, int64, bool) {
	word, code := "", int64(impl.ErrNone)
	switch command {
	case "write":
		word = x.text
		if !impl.IsWord(word) {
			code = impl.ErrInvalid
		}
	case "above":
		word, code = impl.ComposeWords(d.Word, x.text)
	case "beside":
		word, code = impl.BesideWords(d.Word, x.text)
	case "flip":
		word, code = impl.FlipWord(d.Word)
	default:
		return word, code, false
	}
	return word, code, true
}

// numberBy returns the number that a line asks for, in the same way.
func numberBy(d impl.Desk, command string, x told) (int64, int64, bool) {
	number, code := int64(0), int64(impl.ErrNone)
	switch command {
	case "form":
		number, code = impl.FormOf(d.Algebra, d.First)
	case "trace":
		number, code = impl.TraceOf(d.Algebra, d.First)
	case "pair":
		number, code = impl.PairVectors(d.Algebra, d.First, d.Second)
	case "genus":
		number, code = impl.GenusNumber(d.Algebra, x.number)
	case "euler":
		number, code = impl.EulerOf(d.Word)
	case "closed":
		number, code = impl.ClosedNumber(d.Algebra, d.Word)
	case "surface":
		number, code = whoseGroup(x, impl.CountSurface)
	case "squares":
		number, code = whoseGroup(x, impl.CountSquares)
	default:
		return number, code, false
	}
	return number, code, true
}

// answerBy returns the answer that a line asks for, in the same way.
func answerBy(d impl.Desk, command string, x told) (bool, int64, bool) {
	answer, code := false, int64(impl.ErrNone)
	switch command {
	case "commutative":
		answer, code = impl.IsCommutative(d.Algebra)
	case "frobenius":
		answer, code = impl.IsFrobenius(d.Algebra)
	case "alike":
		answer, code = impl.AreAlike(d.Word, x.text)
	default:
		return answer, code, false
	}
	return answer, code, true
}

// textBy returns what is put out for the other commands that change nothing.
func textBy(d impl.Desk, command string) (string, int64) {
	switch command {
	case "show":
		return impl.AlgebraText(d.Algebra)
	case "left":
		return impl.VectorText(d.Algebra, d.First)
	case "right":
		return impl.VectorText(d.Algebra, d.Second)
	case "word":
		return wordOr(d.Word), impl.ErrNone
	case "legs":
		in, out, code := impl.LegsOf(d.Word)
		return joined(in, out), code
	}
	parts, code := impl.PartsOf(d.Word)
	if len(parts) == 0 {
		return "none", code
	}
	var genera []int64
	for _, part := range parts {
		genera = append(genera, part.Genus)
	}
	return joined(genera...), code
}

// plainCommand is a command straight from the table: the desk after it, the output, and a code.
func plainCommand(d impl.Desk, command string, x told) (impl.Desk, string, int64) {
	if a, code, isKind := algebraBy(d, command, x); isKind {
		text, _ := impl.AlgebraText(a)
		return plainFresh(a), text, code
	}
	if v, code, isKind := vectorBy(d, command, x); isKind {
		text, _ := impl.VectorText(d.Algebra, v)
		switch command {
		case "second":
			d.Second = v
		case "swap":
			d.First, d.Second = v, d.First
		default:
			d.First = v
		}
		return d, text, code
	}
	if word, code, isKind := wordBy(d, command, x); isKind {
		d.Word = word
		return d, wordOr(word), code
	}
	if number, code, isKind := numberBy(d, command, x); isKind {
		return d, strconv.FormatInt(number, 10), code
	}
	if answer, code, isKind := answerBy(d, command, x); isKind {
		return d, map[bool]string{true: "yes", false: "no"}[answer], code
	}
	if command == "reset" {
		return plainNew(), "ok", impl.ErrNone
	}
	text, code := textBy(d, command)
	return d, text, code
}

// plainLine is a line straight from the table.
func plainLine(d impl.Desk, line string) (impl.Desk, string) {
	words := strings.Split(line, " ")
	form, isCommand := lineForms[words[0]]
	x, isTold := plainTold(form, words[1:])
	if !isCommand || !isTold {
		return d, "error"
	}
	next, output, code := plainCommand(d, words[0], x)
	if code != impl.ErrNone {
		return d, "error"
	}
	return next, output
}

// deskText tells what is on a desk, for messages.
func deskText(d impl.Desk) string {
	algebra, _ := impl.AlgebraText(d.Algebra)
	first, _ := impl.VectorText(d.Algebra, d.First)
	second, _ := impl.VectorText(d.Algebra, d.Second)
	return "{" + algebra + " " + first + " " + second + " " + strconv.Quote(d.Word) + "}"
}

// checkLine checks a line on a desk against the table, and that it leads to a desk. It returns the desk after it
// and the output.
func checkLine(t *testing.T, d impl.Desk, line string) (impl.Desk, string) {
	t.Helper()
	want, wantOutput := plainLine(d, line)
	got, output := impl.RunLine(d, line)
	if got != want || output != wantOutput {
		t.Fatalf("RunLine(%s, %q) = %s, %q instead of %s, %q", deskText(d), line, deskText(got), output, deskText(want), wantOutput)
	}
	if !impl.IsDesk(got) {
		t.Fatalf("RunLine(%s, %q) leads to %v, which is no desk", deskText(d), line, got)
	}
	if output == "" || strings.Contains(output, "\n") {
		t.Fatalf("RunLine(%s, %q) puts out %q", deskText(d), line, output)
	}
	return got, output
}

// checkWrong checks that a line puts out error on a desk, and changes nothing.
func checkWrong(t *testing.T, d impl.Desk, line string) {
	t.Helper()
	if got, output := impl.RunLine(d, line); got != d || output != "error" {
		t.Fatalf("RunLine(%s, %q) = %s, %q", deskText(d), line, deskText(got), output)
	}
}

// deskBy returns the desk after lines on the new desk, none of which is wrong.
func deskBy(t *testing.T, lines ...string) impl.Desk {
	t.Helper()
	d := impl.NewDesk()
	for _, line := range lines {
		next, output := impl.RunLine(d, line)
		if output == "error" {
			t.Fatalf("RunLine(%s, %q) puts out error", deskText(d), line)
		}
		d = next
	}
	return d
}

// vectorText returns the text of a vector.
func vectorText(t *testing.T, a impl.Algebra, v impl.Vector) string {
	t.Helper()
	text, code := impl.VectorText(a, v)
	if code != impl.ErrNone {
		t.Fatalf("VectorText(%v, %v): code %d", a, v, code)
	}
	return text
}

// algebraText returns the text of an algebra.
func algebraText(t *testing.T, a impl.Algebra) string {
	t.Helper()
	text, code := impl.AlgebraText(a)
	if code != impl.ErrNone {
		t.Fatalf("AlgebraText(%v): code %d", a, code)
	}
	return text
}

// deskSamples returns desks of algebras of all kinds, with vectors and words of all kinds.
func deskSamples(t *testing.T) []impl.Desk {
	t.Helper()
	samples := []impl.Desk{plainNew()}
	words := sampleWords()
	algebras := formSamples(t)
	for _, p := range primes {
		algebras = append(algebras, classAlgebra(t, p, knownGroup(t, "s3")), groupAlgebra(t, p, knownGroup(t, "c4")),
			groupAlgebra(t, p, knownGroup(t, "c5")))
	}
	for at, a := range algebras {
		vectors := drawnVectors(a, 6)
		d := impl.Desk{Algebra: a, First: vectors[at%6], Second: vectors[(at+1+at/6)%6], Word: words[at*5%len(words)]}
		samples = append(samples, d)
		if at%3 == 0 {
			samples = append(samples, plainFresh(a))
		}
	}
	return samples
}

func TestDeskSamples(t *testing.T) {
	counts, numbers := map[string]int{}, map[int64]int{}
	for _, d := range deskSamples(t) {
		if !impl.IsDesk(d) {
			t.Errorf("%s is no desk", deskText(d))
		}
		in, out := plainEnds(d.Word)
		note := func(why string, holds bool) {
			if holds {
				counts[why]++
			}
		}
		note("the empty word", d.Word == "")
		note("closed words", d.Word != "" && in+out == 0)
		note("words with legs", in+out > 0)
		note("no Frobenius algebras", !isPlainFrobenius(d.Algebra))
		note("commutative ones", isPlainCommutative(d.Algebra))
		note("others", !isPlainCommutative(d.Algebra))
		note("invertible first vectors", isPlainInvertible(d.Algebra, d.First))
		note("other first vectors", !isPlainInvertible(d.Algebra, d.First))
		note("different vectors", d.First != d.Second && d.First != impl.Vector{} && d.Second != impl.Vector{})
		numbers[d.Algebra.Prime]++
		numbers[-d.Algebra.Size]++
	}
	for why, count := range counts {
		if count < 12 {
			t.Errorf("%s: %d", why, count)
		}
	}
	if len(counts) != 9 || len(numbers) != 12 {
		t.Errorf("there are %v, and the primes and sizes %v", counts, numbers)
	}
}

// numbersOfLines has what may stand for a number in a line, of which some are numbers.
var numbersOfLines = []string{"0", "1", "2", "3", "4", "5", "7", "8", "9", "11", "12", "13", "30", "31", "999", "1000", "1001",
	"999999999", "1000000000", "00", "01", "-1", "+1", "", "x"}

// linesFor returns lines of all commands for a desk, right ones and wrong ones.
func linesFor(t *testing.T, d impl.Desk, words []string) []string {
	t.Helper()
	texts := []string{algebraText(t, d.Algebra), "2:2:10,01,01,11:01", "3:3:100,010,000,000,000,010,000,000,001:101",
		"5:2:10,00,00,01:11", "5:2:10,00,00,01:15", "11:1:2:a", "", "5", "5:2:10,00,00,01", "5:2:10,00,00,01:11 "}
	vectors := []string{"", "1", "11", "12", "0a", "2b1", "1234", "012345", "1 ", " 1"}
	for _, v := range drawnVectors(d.Algebra, 4) {
		vectors = append(vectors, vectorText(t, d.Algebra, v), vectorText(t, d.Algebra, v)+"0")
	}
	in, out := plainEnds(d.Word)
	words = append(words, "", d.Word, plainFlip(d.Word), d.Word+"/", d.Word+" ", plainPartWord(1, out, 1), plainPartWord(2, in, out),
		"y", "u/", "/", " ", "u e")
	var lines []string
	for _, name := range commandNames() {
		switch lineForms[name] {
		case "":
			lines = append(lines, name)
		case "TEXT":
			list := map[string][]string{"algebra": texts, "first": vectors, "second": vectors}[name]
			if list == nil {
				list = words
			}
			for _, text := range list {
				lines = append(lines, name+" "+text)
			}
		case "K":
			for _, number := range append(numbersOfLines, joined(d.Algebra.Prime-1), joined(d.Algebra.Prime)) {
				lines = append(lines, name+" "+number)
			}
		}
	}
	return lines
}

// namedLines returns lines with names, which do the same on all desks.
func namedLines() []string {
	var lines []string
	names := slices.Concat(impl.AlgebraNames(), groupNames, []string{"", "c0", "C1", "pairs", "s3\n", "none", "5"})
	for _, command := range commandNames() {
		for _, name := range names {
			for _, number := range numbersOfLines {
				if lineForms[command] == "NAME K" {
					lines = append(lines, command+" "+name+" "+number)
				}
			}
		}
	}
	return lines
}

// commandOf returns the command of a line.
func commandOf(line string) string {
	command, _, _ := strings.Cut(line, " ")
	return command
}

// countOutputs counts for each command how often it was right, and how often it was wrong.
func countOutputs(right, wrong map[string]int, line, output string) {
	if output == "error" {
		wrong[commandOf(line)]++
		return
	}
	right[commandOf(line)]++
}

func TestLines(t *testing.T) {
	right, wrong := map[string]int{}, map[string]int{}
	words := sampleWords()
	for at, d := range deskSamples(t) {
		if at%2 > 0 {
			continue
		}
		first := at * 7 % (len(words) - 6)
		for _, line := range linesFor(t, d, slices.Clone(words[first:first+6])) {
			_, output := checkLine(t, d, line)
			countOutputs(right, wrong, line, output)
		}
	}
	for command, form := range lineForms {
		isUnusual := form == "NAME K" || slices.Contains(alwaysRight, command)
		if form != "NAME K" && right[command] < 60 || !isUnusual && wrong[command] < 8 {
			t.Errorf("%s is right for %d lines, and wrong for %d", command, right[command], wrong[command])
		}
	}
	for _, command := range alwaysRight {
		if wrong[command] > 0 {
			t.Errorf("%s is wrong for %d lines", command, wrong[command])
		}
	}
}

func TestLinesWithNames(t *testing.T) {
	right, wrong := map[string]int{}, map[string]int{}
	other := impl.Desk{Algebra: named(t, "matrix", 3), First: impl.Vector{1, 2}, Second: impl.Vector{0, 0, 2, 1}, Word: "s/m"}
	for _, line := range namedLines() {
		checkLine(t, other, line)
		_, output := checkLine(t, impl.NewDesk(), line)
		countOutputs(right, wrong, line, output)
	}
	// 6 names or 8 for 6 primes; 8 names for the numbers in 0..8 and 0..12 that are among those of the lines. The
	// surface counts of c6 for 8, and of no other group, are greater than their limit.
	want := map[string]int{"named": 36, "group": 48, "classes": 48, "surface": 8*8 - 1, "squares": 8 * 11}
	if !maps.Equal(right, want) {
		t.Errorf("right lines: %v instead of %v; wrong ones: %v", right, want, wrong)
	}
}

// session is a list of lines with what they put out, one after the other on the new desk.
type session struct {
	why   string
	lines [][2]string
}

// sessions returns lines with outputs that are found by hand.
func sessions() []session {
	matrix := "1000,0100,0000,0000,0000,0000,1000,0100,0010,0001,0000,0000,0000,0000,0010,0001:1001"
	turned := "1000,0000,0010,0000,0100,0000,0001,0000,0000,1000,0000,0010,0000,0100,0000,0001:1001"
	return []session{
		{"the new desk", [][2]string{
			{"show", "5:2:10,00,00,01:11"}, {"left", "11"}, {"right", "00"}, {"word", "-"}, {"commutative", "yes"},
			{"frobenius", "yes"}, {"form", "2"}, {"trace", "2"}, {"pair", "0"}, {"genus 0", "2"}, {"genus 1", "2"},
			{"genus 3", "2"}, {"genus 30", "2"}, {"genus 31", "error"}, {"legs", "0 0"}, {"euler", "0"},
			{"parts", "none"}, {"closed", "1"}}},
		{"vectors", [][2]string{
			{"first 23", "23"}, {"form", "0"}, {"trace", "0"}, {"pair", "0"}, {"second 14", "14"}, {"left", "23"},
			{"pair", "4"}, {"times", "22"}, {"plus 3", "04"}, {"inverse", "error"}, {"left", "04"}, {"unit", "11"},
			{"plus 4", "02"}, {"plus 5", "error"}, {"plus 0", "02"}, {"power 0", "11"}, {"first 23", "23"},
			{"power 2", "44"}, {"power 1001", "error"}, {"power 1000", "11"}, {"swap", "14"}, {"right", "11"},
			{"inverse", "14"}, {"handle", "11"}, {"swap", "11"}, {"first 32", "32"}, {"swap", "11"}, {"left", "11"},
			{"right", "32"}, {"first 5", "error"}, {"first 55", "error"}, {"first 111", "error"}, {"second 1", "error"},
			{"second a1", "error"}, {"first 1 1", "error"}, {"left", "11"}, {"right", "32"}, {"first 01", "01"},
			{"power 1", "01"}, {"trace", "1"}, {"second 00", "00"}, {"times", "00"}, {"power 0", "11"}}},
		{"changes of form", [][2]string{
			{"first 23", "23"}, {"second 14", "14"}, {"write u/s/m/e", "u/s/m/e"}, {"closed", "2"},
			{"reform", "5:2:10,00,00,01:23"}, {"left", "11"}, {"right", "00"}, {"word", "-"}, {"handle", "32"},
			{"genus 0", "0"}, {"genus 1", "2"}, {"genus 2", "0"}, {"form", "2"}, {"write u/e", "u/e"}, {"closed", "0"},
			{"first 10", "10"}, {"reform", "error"}, {"left", "10"}, {"word", "u/e"}, {"unit", "11"}, {"second 21", "21"},
			{"reform", "5:2:10,00,00,01:23"}, {"right", "00"}, {"word", "-"}, {"first 22", "22"},
			{"opposite", "5:2:10,00,00,01:23"}, {"left", "11"}, {"reset", "ok"}, {"show", "5:2:10,00,00,01:11"}}},
		{"words", [][2]string{
			{"write u/s/m/e", "u/s/m/e"}, {"closed", "2"}, {"euler", "0"}, {"parts", "1"}, {"legs", "0 0"},
			{"flip", "u/s/m/e"}, {"alike u/s/m/e", "yes"}, {"alike u/e", "no"}, {"alike u/s/x/m/e", "yes"}, {"alike y", "error"},
			{"beside u/e", "uu/se/m/e"}, {"parts", "0 1"}, {"closed", "4"}, {"above u/e", "uu/se/m/e/u/e"}, {"parts", "0 0 1"},
			{"closed", "3"}, {"euler", "4"}, {"write s", "s"}, {"legs", "1 2"}, {"closed", "error"}, {"above e", "error"},
			{"above m", "s/m"}, {"above s", "s/m/s"}, {"parts", "1"}, {"euler", "-3"}, {"flip", "m/s/m"}, {"legs", "2 1"},
			{"word", "m/s/m"}, {"beside x", "mx/sii/mii"}, {"legs", "4 3"}, {"parts", "1 0 0"}, {"beside iiii", "error"},
			{"write mm", "mm"}, {"beside xm", "error"}, {"beside xi", "error"}, {"beside ue", "mmue"}, {"legs", "5 3"}, {"parts", "0 0 0 0"},
			{"write u/u", "error"}, {"write ", "-"}, {"word", "-"}, {"parts", "none"}, {"alike ", "yes"}, {"alike i", "no"},
			{"flip", "-"}, {"above ", "-"}, {"beside ", "-"}, {"above i", "error"}, {"beside i", "i"}, {"above ", "error"},
			{"beside ", "i"}, {"above i", "i/i"}, {"alike i", "yes"}, {"parts", "0"}, {"reset", "ok"}, {"word", "-"}}},
		{"matrices", [][2]string{
			{"write u/e", "u/e"}, {"named matrix 3", "3:4:" + matrix}, {"word", "-"}, {"commutative", "no"}, {"frobenius", "yes"},
			{"left", "1001"}, {"right", "0000"}, {"form", "2"}, {"trace", "1"}, {"handle", "2002"}, {"genus 1", "error"},
			{"first 1201", "1201"}, {"second 1011", "1011"}, {"times", "0211"}, {"swap", "1011"}, {"times", "0210"}, {"pair", "1"},
			{"first 1201", "1201"}, {"inverse", "1101"}, {"power 2", "1201"}, {"power 3", "1001"}, {"closed", "1"},
			{"write u/s/m/e", "u/s/m/e"}, {"closed", "1"}, {"write uu/me", "error"}, {"write uu/m", "uu/m"}, {"closed", "error"}, {"legs", "0 1"},
			{"opposite", "3:4:" + turned}, {"left", "1001"}, {"first 1201", "1201"}, {"second 1011", "1011"}, {"times", "1210"},
			{"opposite", "3:4:" + matrix}}},
		{"algebras", [][2]string{
			{"algebra 2:2:10,01,01,11:01", "2:2:10,01,01,11:01"}, {"left", "10"}, {"first 01", "01"}, {"inverse", "11"},
			{"second 01", "01"}, {"times", "10"}, {"first 11", "11"}, {"trace", "1"}, {"form", "1"}, {"genus 1", "0"},
			{"algebra 13:2:00,10,10,01:c5", "13:2:00,10,10,01:c5"}, {"left", "01"}, {"form", "5"}, {"first c0", "c0"},
			{"form", "1"}, {"trace", "0"}, {"algebra 4:1:1:1", "error"}, {"algebra 5:1:1", "error"}, {"algebra ", "error"}, {"left", "c0"},
			{"algebra 2:2:10,01,01,00:10", "2:2:10,01,01,00:10"}, {"frobenius", "no"}, {"commutative", "yes"}, {"handle", "error"},
			{"genus 0", "error"}, {"reform", "error"}, {"closed", "error"}, {"trace", "0"}, {"form", "1"}, {"inverse", "10"}}},
		{"names", [][2]string{
			{"named dual 7", "7:2:10,01,01,00:01"}, {"handle", "02"}, {"genus 0", "0"}, {"genus 1", "2"}, {"genus 2", "0"},
			{"inverse", "error"}, {"first 12", "12"}, {"inverse", "15"}, {"named field 13", "13:1:1:1"}, {"first c", "c"}, {"power 2", "1"},
			{"second b", "b"}, {"plus 12", "3"}, {"plus 13", "error"}, {"named cyclic3 2", "2:3:100,010,001,010,001,100,001,100,010:100"},
			{"first 010", "010"}, {"inverse", "001"}, {"power 3", "100"}, {"handle", "100"}, {"named pair 4", "error"},
			{"named pairs 5", "error"}, {"named pair 5", "5:2:10,00,00,01:11"}, {"named c2 5", "error"}}},
		{"groups", [][2]string{
			{"group c2 3", "3:2:10,01,01,10:10"}, {"left", "10"}, {"handle", "20"}, {"genus 2", "1"}, {"group s3 5",
				"5:6:100000,010000,001000,000100,000010,000001,010000,001000,100000,000010,000001,000100,001000,100000,010000," +
					"000001,000100,000010,000100,000001,000010,100000,001000,010000,000010,000100,000001,010000,100000,001000," +
					"000001,000010,000100,001000,010000,100000:100000"},
			{"commutative", "no"}, {"first 010000", "010000"}, {"second 000100", "000100"}, {"times", "000010"}, {"inverse", "000010"},
			{"classes s3 7", "7:3:100,010,001,010,210,002,001,002,330:100"}, {"left", "100"}, {"right", "000"}, {"frobenius", "yes"},
			{"commutative", "yes"}, {"genus 1", "3"}, {"classes s3 3", "3:3:100,010,001,010,210,002,001,002,000:100"},
			{"frobenius", "no"}, {"handle", "error"}, {"genus 0", "error"}, {"closed", "error"}, {"group c7 3", "error"},
			{"group s3 6", "error"}, {"classes matrix 3", "error"}, {"group pair 5", "error"}, {"classes c1 2", "2:1:1:1"}}},
		{"counts", [][2]string{
			{"surface s3 0", "1"}, {"surface s3 1", "18"}, {"surface s3 2", "486"}, {"surface s3 9", "error"}, {"surface c1 8", "1"},
			{"surface c6 7", "78364164096"}, {"surface c6 8", "error"}, {"surface c2 8", "65536"}, {"surface pair 1", "error"},
			{"squares s3 0", "1"}, {"squares s3 1", "4"}, {"squares s3 2", "18"}, {"squares c2 1", "2"}, {"squares v4 12", "16777216"},
			{"squares v4 13", "error"}, {"squares c5 2", "5"}, {"squares dual 1", "error"}, {"left", "11"}}},
	}
}

func TestSessions(t *testing.T) {
	commands := map[string]bool{}
	for _, x := range sessions() {
		d := impl.NewDesk()
		for _, line := range x.lines {
			next, output := checkLine(t, d, line[0])
			if output != line[1] {
				t.Errorf("%s: RunLine(%s, %q) puts out %q instead of %q", x.why, deskText(d), line[0], output, line[1])
			}
			if output == "error" && next != d {
				t.Errorf("%s: RunLine(%s, %q) leads to %s", x.why, deskText(d), line[0], deskText(next))
			}
			d = next
			commands[commandOf(line[0])] = true
		}
	}
	if len(commands) != len(lineForms) {
		t.Errorf("the sessions have the commands %v", slices.Sorted(maps.Keys(commands)))
	}
}

func TestNewDesk(t *testing.T) {
	d := impl.NewDesk()
	if d != plainNew() || d.Algebra != named(t, "pair", 5) || d.First != unitOf(t, d.Algebra) || !impl.IsDesk(d) {
		t.Errorf("NewDesk() = %s", deskText(d))
	}
	if again := impl.NewDesk(); again != d {
		t.Errorf("NewDesk() = %s, and before it %s", deskText(again), deskText(d))
	}
	if impl.MaxConsole != 4000 || impl.MaxLines != 40 {
		t.Errorf("MaxConsole is %d, and MaxLines %d", impl.MaxConsole, impl.MaxLines)
	}
}

// badWords returns texts that are no words, also ones of bytes that are no letters.
func badWords() []string {
	return []string{"y", "/", "u/", "/u", "u//e", "u/u", "m/m", "i/", "u e", " ", "u ", " u", "-", "I", "U/E", "u\n", "u\x00", "\xff",
		"\u0456", "u/\xffe", "iiiiiii", "mmmm", "ssss", "uuu/sss/ssss", longWord(301), longWord(302), strings.Repeat("i", 5000)}
}

// noDesks returns what is no desk, each one for one reason.
func noDesks(t *testing.T) map[string]impl.Desk {
	t.Helper()
	list := map[string]impl.Desk{"the zero value": {}}
	for why, a := range brokenAlgebras(t) {
		list["the algebra: "+why] = impl.Desk{Algebra: a}
		list["the algebra, with a unit and a word: "+why] = impl.Desk{Algebra: a, First: impl.Vector{1}, Word: "u/e"}
	}
	good := impl.Desk{Algebra: named(t, "dual", 5), First: impl.Vector{1, 2}, Second: impl.Vector{3, 4}, Word: "s/m"}
	largest := impl.Desk{Algebra: named(t, "symmetric", 13), First: impl.Vector{12, 12, 12, 12, 12, 12}, Second: impl.Vector{5: 12}}
	for at, v := range badVectors() {
		first, second := good, good
		first.First, second.Second = v, v
		list["the first vector, "+strconv.Itoa(at)], list["the second vector, "+strconv.Itoa(at)] = first, second
	}
	for place := range 6 {
		first, second := largest, largest
		first.First[place], second.Second[place] = 13, 13
		list["a 13 in the first vector, at "+strconv.Itoa(place)] = first
		list["a 13 in the second vector, at "+strconv.Itoa(place)] = second
	}
	for _, word := range badWords() {
		bad := good
		bad.Word = word
		list["the word "+strconv.Quote(word)] = bad
	}
	return list
}

func TestDesks(t *testing.T) {
	for _, d := range deskSamples(t) {
		if !impl.IsDesk(d) || !impl.IsDesk(plainFresh(d.Algebra)) {
			t.Errorf("IsDesk(%s) is false, or that of the fresh desk", deskText(d))
		}
	}
	d := plainNew()
	for _, word := range append(sampleWords(), longWord(299), longWord(300)) {
		d.Word = word
		if !impl.IsDesk(d) {
			t.Errorf("IsDesk(%s) is false", deskText(d))
		}
	}
	for at := range int64(25) {
		d.First, d.Second = vectorAt(d.Algebra, at), vectorAt(d.Algebra, 24-at)
		if !impl.IsDesk(d) {
			t.Errorf("IsDesk(%s) is false", deskText(d))
		}
	}
}

func TestNoDesks(t *testing.T) {
	lines := []string{"", " ", "fly", "fly 5", "genus 31", "first 99", "named pair 4"}
	for _, command := range commandNames() {
		lines = append(lines, command, command+" ", command+" 1", command+" u/e", command+" pair 5", command+" c2 1")
	}
	lines = append(lines, "algebra 5:2:10,00,00,01:11", "first 11", "second 11")
	for why, d := range noDesks(t) {
		if impl.IsDesk(d) {
			t.Errorf("%s: IsDesk is true", why)
		}
		for _, line := range lines {
			if next, output := impl.RunLine(d, line); next != (impl.Desk{}) || output != "" {
				t.Errorf("%s: RunLine(.., %q) = %v, %q", why, line, next, output)
			}
		}
	}
}

// fullDesk returns a desk that is nowhere fresh, and whose lines of one word are all right.
func fullDesk(t *testing.T) impl.Desk {
	t.Helper()
	return deskBy(t, "named dual 7", "first 34", "second 05", "write u/e/u/s/m/e")
}

// rightLines returns lines with all commands that are right for this desk.
func rightLines() []string {
	return []string{"algebra 2:2:10,01,01,11:01", "named matrix 3", "group s3 5", "classes s3 3", "reform", "opposite", "first 60",
		"second 16", "unit", "swap", "times", "plus 6", "power 1000", "inverse", "handle", "show", "left", "right", "word",
		"commutative", "frobenius", "form", "trace", "pair", "genus 30", "write s/m", "above u/e", "beside x/x", "flip", "legs",
		"euler", "parts", "alike u/e", "closed", "surface s3 2", "squares v4 12", "reset"}
}

func TestRightLines(t *testing.T) {
	d := fullDesk(t)
	seen := map[string]bool{}
	for _, line := range rightLines() {
		next, output := checkLine(t, d, line)
		seen[commandOf(line)] = true
		if output == "error" {
			t.Errorf("RunLine(%s, %q) puts out error", deskText(d), line)
		}
		isAsked := slices.Contains(askers, commandOf(line))
		if (next == d) != isAsked {
			t.Errorf("RunLine(%s, %q) leads to %s", deskText(d), line, deskText(next))
		}
	}
	if len(seen) != len(lineForms) {
		t.Errorf("there are right lines with %d commands", len(seen))
	}
}

// strangeEnds has what makes of a right line a wrong one, behind it, or ahead of it.
var strangeEnds = []string{" ", "  ", " 1", " u", " x", "1 ", "\n", "\r", "\t", "\x00", "\xff", "\u00a0", "\v", ";", "-", ":", ","}

func TestWordsTooMany(t *testing.T) {
	d := fullDesk(t)
	for _, line := range rightLines() {
		for _, end := range strangeEnds {
			checkWrong(t, d, line+end)
			checkWrong(t, d, end+line)
		}
		for at := range len(line) {
			if line[at] == ' ' {
				checkWrong(t, d, line[:at]+" "+line[at:])
				checkWrong(t, d, line[:at]+line[at+1:])
				checkWrong(t, d, line[:at]+"\t"+line[at+1:])
				checkWrong(t, d, line[:at]+"\u00a0"+line[at+1:])
			}
		}
	}
}

func TestWordsMissing(t *testing.T) {
	d := fullDesk(t)
	for command, form := range lineForms {
		if form != "" {
			checkWrong(t, d, command)
		}
		for _, line := range []string{command + "  ", command + "   ", " " + command, command + " \n", "  "} {
			checkWrong(t, d, line)
		}
		if form == "NAME K" {
			for _, rest := range []string{"c2", "c2 ", "pair", "pair ", "5", " 5", "2", " 2", "5 pair", "2 c2", "c2  2", "pair  5", "c2 2 ", "pair 5 ",
				"c2 2 2", "pair 5 5", " c2 2", " pair 5", "c2 pair 5", "c2,2", "pair\n5"} {
				checkWrong(t, d, command+" "+rest)
			}
		}
		if form == "K" {
			for _, rest := range []string{"", " ", " 1", "1 ", "1 1", "1 x", "x 1", "1,1", "1\n", "\n1"} {
				checkWrong(t, d, command+" "+rest)
			}
		}
	}
}

// notNumbers has words that are no numbers of lines, but nearly, as 3 and others with signs, zeros, bytes that only
// look like digits, more digits than nine, and numbers that are small again in 32 or 64 bits.
var notNumbers = []string{"-1", "-0", "+0", "+1", "+3", "00", "01", "03", "007", "0000000003", "3.0", "3.", ".3", "3e0", "0x3", "0b1", "0o3",
	"1_0", "3,0", "three", "x", "\u0663", "\uff13", "\u00b3", "3\x00", "\xff", "3\xff", "3\t", "3\r", "a", "c", "1000000000", "1000000003",
	"4294967297", "4294967299", "9999999999", "9223372036854775807", "9223372036854775808", "18446744073709551617",
	"18446744073709551619", "-18446744073709551613", "1" + strings.Repeat("0", 300), strings.Repeat("0", 300) + "3"}

// numberLines returns the beginnings of lines that end with a number, each of which is right with 2 and 3.
var numberLines = []string{"plus ", "power ", "genus ", "named pair ", "group c2 ", "classes c2 ", "surface s3 ", "squares s3 "}

func TestNumbersOfLines(t *testing.T) {
	d := fullDesk(t)
	for _, line := range numberLines {
		for _, number := range notNumbers {
			checkWrong(t, d, line+number)
		}
		for _, number := range []string{"999999999", "100000000", "123456789", "10000", "1001"} {
			checkWrong(t, d, line+number)
		}
		for _, number := range []string{"2", "3"} {
			if _, output := checkLine(t, d, line+number); output == "error" {
				t.Errorf("RunLine(%s, %q) puts out error", deskText(d), line+number)
			}
		}
	}
	limits := map[string][2]int64{"plus": {0, 6}, "power": {0, 1000}, "genus": {0, 30}, "surface c2": {0, 8}, "squares c2": {0, 12}}
	for line, limit := range limits {
		for number := range limit[1] + 1 {
			if _, output := checkLine(t, d, line+" "+joined(number)); output == "error" {
				t.Errorf("RunLine(%s, %q) puts out error", deskText(d), line+" "+joined(number))
			}
		}
		for number := limit[1] + 1; number < limit[1]+30; number++ {
			checkWrong(t, d, line+" "+joined(number))
		}
	}
}

func TestNoCommands(t *testing.T) {
	d := fullDesk(t)
	lines := []string{"", " ", "  ", "   ", "\n", "\t", "\x00", "\xff", "\xff\xfe\xfd", "\u00a0", "fly", "help", "error", "none", "-", "yes", "0", "5",
		"u/e", "11", "Algebra", "NEW", "new", "second", "word word", "unit\xff", "\u0455how", "\uff53how", strings.Repeat("x", 100000)}
	for command, form := range lineForms {
		rest := map[string]string{"TEXT": " u/e", "K": " 1", "NAME K": " c2 2"}[form]
		for _, name := range []string{strings.ToUpper(command), strings.ToUpper(command[:1]) + command[1:], command + "s", "x" + command,
			command[:len(command)-1], command[1:], "." + command, command + ".", command + ":", command + "\x00", command + "\xff"} {
			if _, isCommand := lineForms[name]; !isCommand {
				lines = append(lines, name+rest, name)
			}
		}
	}
	for _, line := range lines {
		checkWrong(t, d, line)
		checkWrong(t, impl.NewDesk(), line)
	}
}

func TestNamesOfLines(t *testing.T) {
	d := fullDesk(t)
	for _, command := range []string{"group", "classes", "surface", "squares"} {
		for _, name := range append(slices.Clone(badNames), impl.AlgebraNames()...) {
			checkWrong(t, d, command+" "+name+" 3")
		}
		for _, name := range groupNames {
			if _, output := checkLine(t, d, command+" "+name+" 3"); output == "error" {
				t.Errorf("%s %s 3 puts out error", command, name)
			}
		}
	}
	for _, name := range append(slices.Clone(groupNames), "", "Pair", "PAIR", "pai", "pairs", "cyclic", "cyclic2", "5", "pair\x00", "\xff", "p\u0430ir") {
		checkWrong(t, d, "named "+name+" 3")
	}
	for _, number := range notPrimes {
		checkWrong(t, d, "named pair "+joined(number))
		checkWrong(t, d, "group c2 "+joined(number))
		checkWrong(t, d, "classes c2 "+joined(number))
	}
}

func TestTextsOfLines(t *testing.T) {
	d := fullDesk(t)
	for _, word := range badWords() {
		for _, command := range []string{"write", "above", "beside", "alike"} {
			checkWrong(t, d, command+" "+word)
		}
	}
	for _, text := range []string{"", "7", "7:2", "7:2:10,01,01,00", "7:2:10,01,01,00:01 ", " 7:2:10,01,01,00:01", "7:2:10,01,01,00:07", "7:2:10,01,01,10,01",
		"07:2:10,01,01,00:01", "7:2:10, 01,01,00:01", "7:2:00,00,00,00:01", "8:1:1:1", "7:7:1:1", "7:2:10,01,01,00:01\n", "\xff"} {
		checkWrong(t, d, "algebra "+text)
	}
	for _, text := range []string{"", "1", "111", "70", "07", "1 1", "11 ", " 11", "1,1", "-1", "a0", "A0", "\xff\xff", "11\n", "\u0661", "1\x00"} {
		checkWrong(t, d, "first "+text)
		checkWrong(t, d, "second "+text)
	}
}

// TestEmptyTexts has a line with an empty TEXT, which is the empty word.
func TestEmptyTexts(t *testing.T) {
	empty := impl.NewDesk()
	for _, command := range []string{"write ", "above ", "beside "} {
		for _, word := range []string{"", "u/e", "u/s/m/e", "e/u", "i", "s"} {
			d := empty
			d.Word = word
			next, output := checkLine(t, d, command)
			_, out := plainEnds(word)
			switch {
			case command == "write ":
				d.Word = ""
			case command == "above " && out > 0:
				checkWrong(t, d, command)
				continue
			}
			if next != d || output != wordOr(d.Word) {
				t.Errorf("%q on %s leads to %s with %q", command, word, deskText(next), output)
			}
		}
	}
	for word, want := range map[string]string{"": "yes", "u/e": "no", "i": "no"} {
		d := empty
		d.Word = word
		if _, output := checkLine(t, d, "alike "); output != want {
			t.Errorf("the word %q is alike the empty one: %s", word, output)
		}
	}
}

// TestLongWords has words of as many bytes, and as many legs, as a word may have.
func TestLongWords(t *testing.T) {
	d := impl.NewDesk()
	for _, bytes := range []int{297, 298, 299, 300} {
		word := longWord(bytes)
		long, output := checkLine(t, d, "write "+word)
		if long.Word != word || output != word {
			t.Errorf("the word of %d bytes is not written", bytes)
		}
		// A piece without legs above is beside the first layer alone, and any other one beside all of them.
		for line, most := range map[string]int{"above x": 298, "beside e": 299, "beside u": 0, "beside i": 0} {
			next, output := checkLine(t, long, line)
			if (output != "error") != (bytes <= most) {
				t.Errorf("%q on a word of %d bytes leads to %d bytes with %q", line, bytes, len(next.Word), output)
			}
		}
		if flipped, _ := checkLine(t, long, "flip"); len(flipped.Word) != bytes {
			t.Errorf("a word of %d bytes has %d upside down", bytes, len(flipped.Word))
		}
	}
	d.Word = "iii"
	for _, word := range []string{"iii", "x", "xi", "uuu", "ms"} {
		if _, output := checkLine(t, d, "beside "+word); output != "iii"+word {
			t.Errorf("iii beside %s is %s", word, output)
		}
	}
	for _, word := range []string{"iiii", "xx", "uuuu", "eeee", "ss", "mm"} {
		checkWrong(t, d, "beside "+word)
	}
}

func TestFreshDesks(t *testing.T) {
	d := fullDesk(t)
	lines := []string{"algebra " + algebraText(t, d.Algebra), "named dual 7", "reform", "opposite"}
	for _, p := range primes {
		for _, name := range impl.AlgebraNames() {
			lines = append(lines, "named "+name+" "+joined(p), "algebra "+algebraText(t, named(t, name, p)))
		}
		for _, name := range groupNames {
			lines = append(lines, "group "+name+" "+joined(p), "classes "+name+" "+joined(p))
		}
	}
	for _, line := range lines {
		next, output := checkLine(t, d, line)
		if next.First != unitOf(t, next.Algebra) || next.Second != (impl.Vector{}) || next.Word != "" || output != algebraText(t, next.Algebra) {
			t.Errorf("%q leads to %s with %q", line, deskText(next), output)
		}
		isSame := line == lines[0] || line == "named dual 7" || line == "opposite"
		if isSame && next != plainFresh(d.Algebra) {
			t.Errorf("%q leads to %s", line, deskText(next))
		}
	}
	for _, a := range formSamples(t) {
		next, output := checkLine(t, d, "algebra "+algebraText(t, a))
		if next != plainFresh(a) || output != algebraText(t, a) {
			t.Errorf("the algebra %s comes back as %s with %q", algebraText(t, a), deskText(next), output)
		}
	}
}

// TestOwnPartsOfDesks has lines that leave alone what they do not speak of.
func TestOwnPartsOfDesks(t *testing.T) {
	for at, d := range deskSamples(t) {
		if at%3 > 0 {
			continue
		}
		for _, command := range commandNames() {
			for _, rest := range []string{"", " 1", " c2 1", " u/e", " " + vectorText(t, d.Algebra, d.Second)} {
				next, output := impl.RunLine(d, command+rest)
				isWhole := slices.Contains(algebraGivers, command) || command == "reset"
				switch {
				case output == "error" || slices.Contains(askers, command):
				case isWhole:
					continue
				case command == "second":
					next.Second = d.Second
				case command == "swap":
					next.First, next.Second = next.Second, next.First
				case lineForms[command] == "TEXT" && command != "first" || command == "flip":
					next.Word = d.Word
				default:
					next.First = d.First
				}
				if next != d {
					t.Errorf("%q leads from %s to %s", command+rest, deskText(d), deskText(next))
				}
			}
		}
	}
}

// TestLinesThatUndo has lines that lead back, or to what is known of products, forms and words.
func TestLinesThatUndo(t *testing.T) {
	for _, d := range deskSamples(t) {
		a, size := d.Algebra, joined(d.Algebra.Size%d.Algebra.Prime)
		for _, lines := range [][]string{{"swap", "swap"}, {"inverse", "inverse"}, {"flip", "flip"}, {"plus 1", "plus " + joined(a.Prime-1)},
			{"power 1"}, {"write " + d.Word}, {"first " + vectorText(t, a, d.First)}, {"second " + vectorText(t, a, d.Second)},
			{"beside "}, {"fly"}, {"reform 1"}} {
			after := d
			for _, line := range lines {
				after, _ = checkLine(t, after, line)
			}
			if after != d {
				t.Errorf("%q leads from %s to %s", lines, deskText(d), deskText(after))
			}
		}
		opposite, _ := checkLine(t, d, "opposite")
		if again, _ := checkLine(t, opposite, "opposite"); again != plainFresh(a) {
			t.Errorf("the opposite of the opposite of %s is %s", deskText(d), deskText(again))
		}
		if _, output := checkLine(t, d, "genus 1"); output != size && output != "error" {
			t.Errorf("the genus number of 1 on %s is %s", deskText(d), output)
		}
		if _, output := checkLine(t, d, "alike "+plainFlip(plainFlip(d.Word))); output != "yes" {
			t.Errorf("the word of %s is alike itself: %s", deskText(d), output)
		}
		inverted, output := checkLine(t, d, "inverse")
		product, _ := checkLine(t, impl.Desk{Algebra: a, First: d.First, Second: inverted.First}, "times")
		if output != "error" && product.First != unitOf(t, a) {
			t.Errorf("the inverse on %s is %s", deskText(d), output)
		}
	}
}

// drawnRest draws what may stand behind a command.
func drawnRest(s *drawer, d impl.Desk, form string, words []string) string {
	number := numbersOfLines[s.upTo(len(numbersOfLines)-12)]
	switch form {
	case "":
		return ""
	case "K":
		return " " + number
	case "NAME K":
		names := slices.Concat(impl.AlgebraNames(), groupNames)
		return " " + names[s.upTo(len(names))] + " " + number
	}
	var vector []byte
	for range d.Algebra.Size {
		vector = append(vector, "0123456789abc"[s.upTo(int(d.Algebra.Prime))])
	}
	in, out := plainEnds(d.Word)
	texts := []string{"2:2:10,01,01,11:01", "3:3:100,010,000,000,000,010,000,000,001:101", "5:2:10,00,00,01:23",
		string(vector), string(vector), string(vector), plainPartWord(s.upTo(3), out, s.upTo(4)), plainPartWord(s.upTo(2), in, out),
		d.Word, words[s.upTo(len(words))], ""}
	return " " + texts[s.upTo(len(texts))]
}

// drawnLine draws a line for a desk, now and then a wrong one.
func drawnLine(s *drawer, d impl.Desk, words []string) string {
	names := commandNames()
	command := names[s.upTo(len(names))]
	if slices.Contains(algebraGivers, command) && s.upTo(3) > 0 || command == "reset" && s.upTo(6) > 0 {
		command = "above"
	}
	line := command + drawnRest(s, d, lineForms[command], words)
	switch s.upTo(40) {
	case 0:
		return line + " "
	case 1:
		return " " + line
	case 2:
		return strings.ReplaceAll(line, " ", "  ")
	case 3:
		return strings.ToUpper(line[:1]) + line[1:]
	}
	return line
}

// TestLongWays leads from desk to desk by many lines.
func TestLongWays(t *testing.T) {
	right, wrong := map[string]int{}, map[string]int{}
	words, longest := sampleWords(), 0
	for seed := range 40 {
		s := &drawer{int64(seed)*104729 + 11}
		d := impl.NewDesk()
		for range 250 {
			line := drawnLine(s, d, words)
			next, output := checkLine(t, d, line)
			countOutputs(right, wrong, line, output)
			d = next
			longest = max(longest, len(d.Word))
		}
	}
	for command := range lineForms {
		if right[command] < 10 {
			t.Errorf("%s is right for %d lines, and wrong for %d", command, right[command], wrong[command])
		}
	}
	if longest < 100 {
		t.Errorf("the longest word has %d bytes", longest)
	}
}

// linesOf splits a text into its lines at each newline, the last of which may be missing.
func linesOf(text string) []string {
	var lines []string
	line, isOpen := "", false
	for _, letter := range []byte(text) {
		line, isOpen = line+string([]byte{letter}), true
		if letter == 10 {
			lines = append(lines, line[:len(line)-1])
			line, isOpen = "", false
		}
	}
	if isOpen {
		lines = append(lines, line)
	}
	return lines
}

// plainRun runs the lines of a text, one after the other, without any limits.
func plainRun(text string) (impl.Desk, []string) {
	d, outputs := plainNew(), []string(nil)
	for _, line := range linesOf(text) {
		if line != "" {
			next, output := impl.RunLine(d, line)
			d, outputs = next, append(outputs, output)
		}
	}
	return d, outputs
}

// checkConsole checks what the console makes of a text within its limits.
func checkConsole(t *testing.T, text string) {
	t.Helper()
	want, outputs := plainRun(text)
	wantText := ""
	for _, output := range outputs {
		wantText += output + "\n"
	}
	if got := impl.Console(text); got != wantText {
		t.Fatalf("Console(%q) = %q instead of %q", text, got, wantText)
	}
	if d, ok := impl.DeskAfter(text); d != want || !ok || !impl.IsDesk(d) {
		t.Fatalf("DeskAfter(%q) = %s, %v instead of %s", text, deskText(d), ok, deskText(want))
	}
}

// checkRefused checks that the console refuses a text.
func checkRefused(t *testing.T, why, text string) {
	t.Helper()
	if got := impl.Console(text); got != "" {
		t.Fatalf("%s: Console puts out %q", why, got)
	}
	if d, ok := impl.DeskAfter(text); d != (impl.Desk{}) || ok {
		t.Fatalf("%s: DeskAfter = %s, %v", why, deskText(d), ok)
	}
}

func TestConsoleExamples(t *testing.T) {
	for text, want := range map[string]string{
		"": "", "\n": "", "\n\n\n": "", "genus 3": "2\n", "genus 3\n": "2\n", "\ngenus 3": "2\n", "\n\ngenus 3\n\n": "2\n",
		"left\nright": "11\n00\n", "left\n\n\nright\n": "11\n00\n", "first 23\nswap\nleft\nright": "23\n00\n00\n23\n",
		"first 23\nreset\nleft": "23\nok\n11\n", "fly\nleft": "error\n11\n", " \nleft": "error\n11\n", "left\n \n": "11\nerror\n",
		"left \nleft": "error\n11\n", "left\r\nleft": "error\n11\n", "left\rleft": "error\n", "write \nword": "-\n-\n", "write\nword": "error\n-\n",
		"write u/e\nabove u\nlegs\nparts": "u/e\nu/e/u\n0 1\n0 0\n", "named matrix 2\nhandle\nform": "2:4:1000,0100,0000,0000,0000,0000,1000,0100,0010," +
			"0001,0000,0000,0000,0000,0010,0001:1001\n0000\n0\n", "first\n23\nleft": "error\nerror\n11\n",
		"\xff\nleft": "error\n11\n", "\x00": "error\n", "fly": "error\n",
	} {
		checkConsole(t, text)
		if got := impl.Console(text); got != want {
			t.Errorf("Console(%q) = %q instead of %q", text, got, want)
		}
	}
	for _, x := range sessions() {
		text, want := "", ""
		for _, line := range x.lines[:min(impl.MaxLines, len(x.lines))] {
			text, want = text+line[0]+"\n", want+line[1]+"\n"
		}
		checkConsole(t, text)
		if got := impl.Console(text); got != want {
			t.Errorf("%s: Console(%q) = %q instead of %q", x.why, text, got, want)
		}
	}
}

func TestDesksAfterTexts(t *testing.T) {
	pair, dual := named(t, "pair", 5), named(t, "dual", 7)
	for text, want := range map[string]impl.Desk{
		"": plainNew(), "\n": plainNew(), "fly": plainNew(), "left\n": plainNew(), "first 23\nreset": plainNew(),
		"first 23\nfirst 55":                     {Algebra: pair, First: impl.Vector{2, 3}},
		"second 23\nwrite s/m\nswap":             {Algebra: pair, First: impl.Vector{2, 3}, Second: impl.Vector{1, 1}, Word: "s/m"},
		"write s/m\nnamed dual 7\nsecond 06":     {Algebra: dual, First: impl.Vector{1}, Second: impl.Vector{0, 6}},
		"named dual 7\nhandle\n\nnamed dual 8\n": {Algebra: dual, First: impl.Vector{0, 2}},
		"write u\n\nabove i\nbeside u\n":         {Algebra: pair, First: impl.Vector{1, 1}, Word: "uu/ii"},
	} {
		checkConsole(t, text)
		if got, ok := impl.DeskAfter(text); got != want || !ok {
			t.Errorf("DeskAfter(%q) = %s, %v instead of %s", text, deskText(got), ok, deskText(want))
		}
	}
}

// drawnText draws a text of at most some lines within the limit of bytes, and with empty lines among them.
func drawnText(s *drawer, words []string, lines int) string {
	text, d := "", impl.NewDesk()
	for range lines {
		line := drawnLine(s, d, words)
		if s.upTo(6) == 0 {
			line = ""
		}
		if len(text)+len(line)+1 > impl.MaxConsole {
			break
		}
		text += line + "\n"
		if line != "" {
			d, _ = impl.RunLine(d, line)
		}
	}
	return text
}

func TestDrawnTexts(t *testing.T) {
	words := sampleWords()
	full := 0
	for seed := range 60 {
		s := &drawer{int64(seed)*15485863 + 7}
		text := drawnText(s, words, 1+s.upTo(2*impl.MaxLines)%impl.MaxLines)
		checkConsole(t, text)
		checkConsole(t, strings.TrimSuffix(text, "\n"))
		checkConsole(t, "\n"+text[:len(text)/2])
		whole := impl.Console(text)
		lines := linesOf(text)
		for count := range len(lines) + 1 {
			begin := strings.Join(lines[:count], "\n")
			if got := impl.Console(begin); !strings.HasPrefix(whole, got) {
				t.Errorf("Console(%q) = %q, and that of the whole text is %q", begin, got, whole)
			}
		}
		if strings.Count(whole, "\n") > 25 {
			full++
		}
	}
	if full < 10 {
		t.Errorf("there are %d texts with many outputs", full)
	}
}

func TestLinesTogether(t *testing.T) {
	words := sampleWords()
	for seed := range 40 {
		s := &drawer{int64(seed)*32452843 + 3}
		first, second := drawnText(s, words, 15), drawnText(s, words, 15)
		d, _ := impl.DeskAfter(first)
		outputs := impl.Console(first)
		for _, line := range linesOf(second) {
			if line == "" {
				continue
			}
			next, output := impl.RunLine(d, line)
			d = next
			outputs += output + "\n"
		}
		if len(first)+len(second) > impl.MaxConsole {
			continue
		}
		if got := impl.Console(first + second); got != outputs {
			t.Errorf("Console(%q) = %q instead of %q", first+second, got, outputs)
		}
		if got, ok := impl.DeskAfter(first + second); got != d || !ok {
			t.Errorf("DeskAfter(%q) = %s, %v instead of %s", first+second, deskText(got), ok, deskText(d))
		}
		if got := impl.Console("first 11\n" + first + "reset\n"); got != "11\n"+outputsOf(first, "first 11")+"ok\n" {
			t.Errorf("Console of a reset behind %q puts out %q", first, got)
		}
		if got, _ := impl.DeskAfter(first + "reset"); got != plainNew() {
			t.Errorf("a reset behind %q leads to %s", first, deskText(got))
		}
	}
}

// outputsOf returns the outputs of a text behind a line.
func outputsOf(text, line string) string {
	d, _ := impl.RunLine(impl.NewDesk(), line)
	outputs := ""
	for _, line := range linesOf(text) {
		if line != "" {
			next, output := impl.RunLine(d, line)
			d, outputs = next, outputs+output+"\n"
		}
	}
	return outputs
}

func TestLineLimits(t *testing.T) {
	for _, line := range []string{"", "left", "first 23", "fly", " "} {
		for lines := range impl.MaxLines + 1 {
			text := strings.Repeat(line+"\n", lines)
			checkConsole(t, text)
			checkConsole(t, strings.TrimSuffix(text, "\n"))
		}
		for lines := impl.MaxLines + 1; lines < impl.MaxLines+60; lines++ {
			checkRefused(t, joined(int64(lines))+" lines "+line, strings.Repeat(line+"\n", lines))
		}
	}
	empty := strings.Repeat("\n", impl.MaxLines-1)
	checkConsole(t, empty+"left")
	checkConsole(t, empty+"left\n")
	checkConsole(t, "left\n"+empty)
	checkRefused(t, "40 newlines and a line", empty+"\nleft")
	checkRefused(t, "40 newlines and a blank", empty+"\n ")
	checkRefused(t, "a line and 40 empty ones", "left\n"+empty+"\n")
	checkRefused(t, "39 empty lines and two others", empty+"left\nleft")
	checkRefused(t, "39 empty lines, another one, and an empty one", empty+"left\n\n")
	for at := range impl.MaxLines {
		checkRefused(t, "an empty line among 40 others", strings.Repeat("left\n", at)+"\n"+strings.Repeat("left\n", impl.MaxLines-at))
		checkConsole(t, strings.Repeat("left\n", at)+"\n"+strings.Repeat("left\n", impl.MaxLines-at-1))
	}
}

// paddedText returns a text of as many bytes and lines, whose first line is told, and the others are of one letter again
// and again.
func paddedText(first string, letter string, bytes, lines int) string {
	rest := bytes - len(first) - lines
	text := first
	for at := range lines {
		length := rest / lines
		if at == 0 {
			length = rest - (lines-1)*length
		}
		text += "\n" + strings.Repeat(letter, length)
	}
	return text
}

func TestByteLimits(t *testing.T) {
	for _, letter := range []string{"x", " ", "u", "\xff", "\x00"} {
		for _, lines := range []int{1, 2, 7, impl.MaxLines - 1} {
			for _, bytes := range []int{impl.MaxConsole - 1, impl.MaxConsole} {
				text := paddedText("first 23", letter, bytes, lines)
				if len(text) != bytes {
					t.Fatalf("there are %d bytes instead of %d", len(text), bytes)
				}
				checkConsole(t, text)
				checkConsole(t, text[:bytes-1]+"\n")
			}
			for _, bytes := range []int{impl.MaxConsole + 1, impl.MaxConsole + 2, 2 * impl.MaxConsole, 300000} {
				text := paddedText("first 23", letter, bytes, lines)
				checkRefused(t, joined(int64(bytes))+" bytes", text)
				checkRefused(t, joined(int64(bytes))+" bytes", text[:bytes-1]+"\n")
			}
		}
	}
	checkConsole(t, strings.Repeat("x", impl.MaxConsole))
	checkConsole(t, strings.Repeat("x", impl.MaxConsole-1)+"\n")
	checkRefused(t, "a newline too many", strings.Repeat("x", impl.MaxConsole)+"\n")
	checkRefused(t, "one long line", strings.Repeat("x", impl.MaxConsole+1))
	checkRefused(t, "newlines alone", strings.Repeat("\n", impl.MaxConsole))
	checkRefused(t, "too many newlines", strings.Repeat("\n", impl.MaxConsole+1))
	long := strings.Repeat("left\n", impl.MaxLines-1)
	checkConsole(t, long+"write "+strings.Repeat("i", impl.MaxConsole-len(long)-6))
	checkRefused(t, "a long word", long+"write "+strings.Repeat("i", impl.MaxConsole-len(long)-5))
	// 2000 letters of two bytes each are 4000 bytes.
	checkConsole(t, strings.Repeat("\u00e9", impl.MaxConsole/2))
	checkRefused(t, "letters of two bytes", strings.Repeat("\u00e9", impl.MaxConsole/2)+"x")
}

// TestAllBytes puts each byte into right lines, and texts.
func TestAllBytes(t *testing.T) {
	d := fullDesk(t)
	for letter := range 256 {
		text := string([]byte{byte(letter)})
		for _, line := range []string{"left", "first 60", "genus 3", "named dual 7", "write u/e", "alike u/e"} {
			for at := range len(line) + 1 {
				checkLine(t, d, line[:at]+text+line[at:])
			}
			for at := range len(line) {
				checkLine(t, d, line[:at]+text+line[at+1:])
			}
			checkConsole(t, "left\n"+line+text+"right\n"+text)
		}
		checkLine(t, d, text)
	}
}

// TestDrawnBytes has lines and texts of drawn bytes.
func TestDrawnBytes(t *testing.T) {
	s := &drawer{2}
	letters := []byte("algebra named first 0123456789 :,/uesmix\n\n\x00\xff\xc3\xa9\t\r-+ ")
	for range 2000 {
		text := make([]byte, s.upTo(60))
		for at := range text {
			text[at] = letters[s.upTo(len(letters))]
		}
		checkLine(t, impl.NewDesk(), string(text))
		if len(linesOf(string(text))) <= impl.MaxLines {
			checkConsole(t, string(text))
		}
	}
}

// TestNoStateIsKept runs lines and texts again, with others between them.
func TestNoStateIsKept(t *testing.T) {
	d := fullDesk(t)
	before := d
	for _, line := range rightLines() {
		next, output := impl.RunLine(d, line)
		impl.Console("named matrix 3\nfirst 1201\nwrite s/m")
		impl.RunLine(impl.Desk{}, line)
		again, outputAgain := impl.RunLine(d, line)
		if again != next || outputAgain != output || d != before {
			t.Errorf("RunLine(%s, %q) = %s, %q, and before it %s, %q", deskText(d), line, deskText(again), outputAgain, deskText(next), output)
		}
	}
	if impl.NewDesk() != plainNew() {
		t.Errorf("NewDesk() = %s", deskText(impl.NewDesk()))
	}
}

// TestConsolesAtOnce runs texts at the same time.
func TestConsolesAtOnce(t *testing.T) {
	words := sampleWords()
	var group sync.WaitGroup
	for seed := range 8 {
		text := drawnText(&drawer{int64(seed) + 40}, words, 20)
		want := impl.Console(text)
		for range 4 {
			group.Go(func() {
				if got := impl.Console(text); got != want {
					t.Errorf("Console(%q) = %q instead of %q", text, got, want)
				}
			})
		}
	}
	group.Wait()
}
