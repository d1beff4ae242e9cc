package tests

import (
	"math"
	"slices"
	"strconv"
	"strings"
	"testing"

	"loop.example/g01267/impl"
)

// pieceLegs has the numbers of legs of the pieces below and above.
var pieceLegs = map[byte][2]int{'i': {1, 1}, 'x': {2, 2}, 'm': {2, 1}, 's': {1, 2}, 'u': {0, 1}, 'e': {1, 0}}

// layerLegs returns the numbers of legs of a layer, and false if it has none or other letters.
func layerLegs(text string) (int, int, bool) {
	in, out := 0, 0
	for _, letter := range []byte(text) {
		legs, isPiece := pieceLegs[letter]
		if !isPiece {
			return 0, 0, false
		}
		in, out = in+legs[0], out+legs[1]
	}
	return in, out, text != ""
}

// plainLayers returns the layers of a text, and tells whether it is a word.
func plainLayers(text string) ([]string, bool) {
	if text == "" {
		return nil, true
	}
	layers, last := strings.Split(text, "/"), -1
	for _, layer := range layers {
		in, out, isLayer := layerLegs(layer)
		if !isLayer || in > 6 || out > 6 || last >= 0 && in != last {
			return nil, false
		}
		last = out
	}
	return layers, len(text) <= 300
}

// plainEnds returns the numbers of legs of a word below and above.
func plainEnds(word string) (int, int) {
	layers, _ := plainLayers(word)
	if len(layers) == 0 {
		return 0, 0
	}
	in, _, _ := layerLegs(layers[0])
	_, out, _ := layerLegs(layers[len(layers)-1])
	return in, out
}

func plainEuler(word string) int64 {
	count := func(letter string) int64 { return int64(strings.Count(word, letter)) }
	return count("u") + count("e") - count("m") - count("s")
}

// spot is a leg of some height, or a piece of the layer of this height.
type spot struct {
	height, place int
	isPiece       bool
}

// plainLabels gives each leg and each piece the least number of what it hangs together with, and
// returns the Euler numbers of the pieces as well. The strands of x are no pieces here.
func plainLabels(layers []string) (map[spot]int, map[spot]int) {
	var links [][2]spot
	eulers := map[spot]int{}
	for height, text := range layers {
		below, above := 0, 0
		for place, letter := range []byte(text) {
			legs := pieceLegs[letter]
			if letter == 'x' {
				links = append(links, [2]spot{{height, below, false}, {height + 1, above + 1, false}},
					[2]spot{{height, below + 1, false}, {height + 1, above, false}})
			} else {
				piece := spot{height, place, true}
				eulers[piece] = 2 - legs[0] - legs[1]
				for k := range legs[0] {
					links = append(links, [2]spot{{height, below + k, false}, piece})
				}
				for k := range legs[1] {
					links = append(links, [2]spot{{height + 1, above + k, false}, piece})
				}
			}
			below, above = below+legs[0], above+legs[1]
		}
	}
	return leastLabels(links), eulers
}

func leastLabels(links [][2]spot) map[spot]int {
	labels := map[spot]int{}
	for number, link := range links {
		for end, s := range link {
			if _, known := labels[s]; !known {
				labels[s] = 2*number + end
			}
		}
	}
	for changed := true; changed; {
		changed = false
		for _, link := range links {
			least := min(labels[link[0]], labels[link[1]])
			if labels[link[0]] != least || labels[link[1]] != least {
				labels[link[0]], labels[link[1]], changed = least, least, true
			}
		}
	}
	return labels
}

// plainParts looks for the parts of a word label by label.
func plainParts(word string) []impl.Part {
	layers, _ := plainLayers(word)
	labels, eulers := plainLabels(layers)
	in, out := plainEnds(word)
	byLabel := map[int]impl.Part{}
	var order []int
	note := func(s spot) int {
		if !slices.Contains(order, labels[s]) {
			order = append(order, labels[s])
		}
		return labels[s]
	}
	for k := range in {
		label := note(spot{0, k, false})
		part := byLabel[label]
		part.Ins = append(part.Ins, int64(k))
		byLabel[label] = part
	}
	for k := range out {
		label := note(spot{len(layers), k, false})
		part := byLabel[label]
		part.Outs = append(part.Outs, int64(k))
		byLabel[label] = part
	}
	legged := len(order)
	totals := map[int]int{}
	for piece, euler := range eulers {
		totals[note(piece)] += euler
	}
	var parts []impl.Part
	for _, label := range order {
		part := byLabel[label]
		part.Genus = int64(2-totals[label]-len(part.Ins)-len(part.Outs)) / 2
		if 2-2*part.Genus-int64(len(part.Ins)+len(part.Outs)) != int64(totals[label]) {
			panic("there is no genus")
		}
		parts = append(parts, part)
	}
	slices.SortFunc(parts[legged:], func(a, b impl.Part) int { return int(a.Genus - b.Genus) })
	return parts
}

func sameParts(a, b []impl.Part) bool {
	return slices.EqualFunc(a, b, func(x, y impl.Part) bool {
		return x.Genus == y.Genus && slices.Equal(x.Ins, y.Ins) && slices.Equal(x.Outs, y.Outs)
	})
}

// drawer draws numbers one after the other.
type drawer struct {
	state int64
}

// upTo draws a number in 0..most - 1.
func (d *drawer) upTo(most int) int {
	d.state = (d.state*1103515245 + 12345) % (1 << 31)
	return int(d.state/65536) % most
}

// drawnLayer draws a layer with in legs below, and at most most above.
func drawnLayer(d *drawer, in, most int) string {
	text, out := "", 0
	for in > 0 || text == "" || d.upTo(6) == 0 {
		letter := "iixmmssue"[d.upTo(9)]
		legs := pieceLegs[letter]
		if legs[0] <= in && out+legs[1] <= most {
			text, in, out = text+string(letter), in-legs[0], out+legs[1]
		}
	}
	return text
}

// drawnWord draws a word with in legs below, and at most most above each layer.
func drawnWord(seed, in, height, most int) string {
	d := &drawer{int64(seed)*7919 + int64(in)*31 + int64(height)*101 + int64(most)}
	var layers []string
	for range height {
		layer := drawnLayer(d, in, most)
		_, in, _ = layerLegs(layer)
		layers = append(layers, layer)
	}
	return strings.Join(layers, "/")
}

// closedWord draws a word without legs.
func closedWord(seed, height, most int) string {
	word := drawnWord(seed, 0, height, most)
	_, out := plainEnds(word)
	if out > 0 {
		word += "/" + strings.Repeat("e", out)
	}
	return word
}

// sampleWords returns words of all kinds.
func sampleWords() []string {
	words := []string{"", "i", "x", "m", "s", "u", "e", "u/e", "u/s/m/e", "u/e/u/e", "u/s/m/e/u/e", "u/e/u/s/m/e",
		"u/s/m/e/u/s/m/s/m/e/u/e", "e/u", "ee/uu", "x/x", "xi/ix/xi", "ix/xi/ix", "xi/im", "iiiiii", "xxx/ixxi/xxx",
		"sss/mmm", "uuuuuu/eeeeee", "uuuuuu/mmm/mi/m/e", "s/si/sii/siii/siiii", "eu", "ue", "ieu/uei",
		"uu/ss/ixi/mm/ee", "uu/ss/mm/ee", "s/x/m", "s/x/x/m", "u/e/u", "mumsu"}
	for seed := range 150 {
		words = append(words, drawnWord(seed, seed%7, 1+seed%9, 6))
	}
	for seed := range 40 {
		words = append(words, closedWord(seed, 1+seed%8, 3+seed%4))
	}
	return words
}

func TestSampleWords(t *testing.T) {
	ends, most := map[[2]int]bool{}, 0
	for _, word := range sampleWords() {
		if _, isWord := plainLayers(word); !isWord {
			t.Errorf("%q is no word", word)
		}
		in, out := plainEnds(word)
		ends[[2]int{in, out}] = true
		most = max(most, len(plainParts(word)))
	}
	if len(ends) < 35 || most < 6 {
		t.Errorf("there are %d pairs of ends, and at most %d parts", len(ends), most)
	}
}

// checkWord checks what the text alone tells of a word.
func checkWord(t *testing.T, word string) {
	t.Helper()
	if !impl.IsWord(word) {
		t.Errorf("IsWord(%q) is false", word)
	}
	in, out := plainEnds(word)
	if below, above, code := impl.LegsOf(word); below != int64(in) || above != int64(out) || code != impl.ErrNone {
		t.Errorf("LegsOf(%q) = %d, %d, %d", word, below, above, code)
	}
	if euler, code := impl.EulerOf(word); euler != plainEuler(word) || code != impl.ErrNone {
		t.Errorf("EulerOf(%q) = %d, %d", word, euler, code)
	}
	var want []int64
	for _, letter := range "ixmsue" {
		want = append(want, int64(strings.Count(word, string(letter))))
	}
	if counts, code := impl.CountPieces(word); !slices.Equal(counts, want) || code != impl.ErrNone {
		t.Errorf("CountPieces(%q) = %v, %d instead of %v", word, counts, code, want)
	}
	if parts, code := impl.PartsOf(word); !sameParts(parts, plainParts(word)) || code != impl.ErrNone {
		t.Errorf("PartsOf(%q) = %v, %d instead of %v", word, parts, code, plainParts(word))
	}
	checkFlip(t, word)
}

// plainFlip turns a word upside down layer by layer.
func plainFlip(word string) string {
	exchanged := map[rune]string{'i': "i", 'x': "x", 'm': "s", 's': "m", 'u': "e", 'e': "u"}
	layers, _ := plainLayers(word)
	var flipped []string
	for _, layer := range layers {
		text := ""
		for _, letter := range layer {
			text += exchanged[letter]
		}
		flipped = append([]string{text}, flipped...)
	}
	return strings.Join(flipped, "/")
}

// checkFlip checks, for promise 4, that a word upside down twice is the word.
func checkFlip(t *testing.T, word string) {
	t.Helper()
	flipped, code := impl.FlipWord(word)
	if flipped != plainFlip(word) || code != impl.ErrNone || !impl.IsWord(flipped) {
		t.Errorf("FlipWord(%q) = %q, %d instead of %q", word, flipped, code, plainFlip(word))
	}
	if again, code := impl.FlipWord(flipped); again != word || code != impl.ErrNone {
		t.Errorf("FlipWord(%q) = %q, %d instead of %q", flipped, again, code, word)
	}
}

// checkNoWord checks all functions with a text that is no word; also with words and algebras beside
// it of which other errors are to be told, as ErrInvalid comes first.
func checkNoWord(t *testing.T, text string, algebras ...impl.Algebra) {
	t.Helper()
	if impl.IsWord(text) {
		t.Errorf("IsWord(%q) is true", text)
	}
	if in, out, code := impl.LegsOf(text); in != 0 || out != 0 || code != impl.ErrInvalid {
		t.Errorf("LegsOf(%q) = %d, %d, %d", text, in, out, code)
	}
	if euler, code := impl.EulerOf(text); euler != 0 || code != impl.ErrInvalid {
		t.Errorf("EulerOf(%q) = %d, %d", text, euler, code)
	}
	if parts, code := impl.PartsOf(text); len(parts) != 0 || code != impl.ErrInvalid {
		t.Errorf("PartsOf(%q) = %v, %d", text, parts, code)
	}
	if counts, code := impl.CountPieces(text); len(counts) != 0 || code != impl.ErrInvalid {
		t.Errorf("CountPieces(%q) = %v, %d", text, counts, code)
	}
	if flipped, code := impl.FlipWord(text); flipped != "" || code != impl.ErrInvalid {
		t.Errorf("FlipWord(%q) = %q, %d", text, flipped, code)
	}
	for _, other := range []string{"", "i", "m", "xxx", text, longWord(300)} {
		for _, two := range [][2]string{{text, other}, {other, text}} {
			if word, code := impl.ComposeWords(two[0], two[1]); word != "" || code != impl.ErrInvalid {
				t.Errorf("ComposeWords(%q) = %q, %d", two, word, code)
			}
			if word, code := impl.BesideWords(two[0], two[1]); word != "" || code != impl.ErrInvalid {
				t.Errorf("BesideWords(%q) = %q, %d", two, word, code)
			}
			if yes, code := impl.AreAlike(two[0], two[1]); yes || code != impl.ErrInvalid {
				t.Errorf("AreAlike(%q) = %v, %d", two, yes, code)
			}
		}
	}
	for _, a := range algebras {
		checkNoValueOf(t, a, text, impl.ErrInvalid, impl.ErrInvalid)
	}
}

// checkNoValueOf checks that a text has no value, and no closed number, with these codes.
func checkNoValueOf(t *testing.T, a impl.Algebra, text string, code, closed int64) {
	t.Helper()
	u, got := impl.ValueOfWord(a, text)
	checkNoTensor(t, "ValueOfWord of "+text, u, got, code)
	if number, got := impl.ClosedNumber(a, text); number != 0 || got != closed {
		t.Errorf("ClosedNumber(%v, %q) = %d, %d instead of code %d", a, text, number, got, closed)
	}
}

// longWord returns a text of this many bytes, at least 10, that is a word if there are not too many;
// it has 2 legs on each side of each layer.
func longWord(bytes int) string {
	text := "mu"
	if bytes%2 == 1 {
		text = "ii/mu"
	}
	return text + strings.Repeat("/x", (bytes-len(text))/2)
}

func TestWordLimits(t *testing.T) {
	if impl.MaxWord != 300 || impl.MaxLegs != 6 {
		t.Errorf("MaxWord is %d, and MaxLegs %d", impl.MaxWord, impl.MaxLegs)
	}
	for bytes := 10; bytes <= 300; bytes++ {
		if len(longWord(bytes)) != bytes {
			t.Fatalf("the word of %d bytes has %d", bytes, len(longWord(bytes)))
		}
		checkWord(t, longWord(bytes))
	}
	checkWord(t, strings.Repeat("i/", 149)+"i")
	checkWord(t, strings.Repeat("u/e/", 74)+"u/e")
	for _, bytes := range []int{301, 302, 303, 600, 1 << 20} {
		checkNoWord(t, longWord(bytes), named(t, "pair", 5))
	}
	for _, text := range []string{strings.Repeat("i/", 150) + "i", strings.Repeat("i", 300), strings.Repeat("i", 301),
		strings.Repeat("u", 1<<20), strings.Repeat("/", 300), strings.Repeat("/", 301), longWord(299) + "/"} {
		checkNoWord(t, text, named(t, "pair", 5))
	}
}

// TestLegLimits checks layers with exactly MaxLegs legs on a side, and with one more.
func TestLegLimits(t *testing.T) {
	for _, word := range []string{"iiiiii", "xxx", "mmm", "sss", "uuuuuu", "eeeeee", "iixii", "siiii", "miiii", "uuuuuueeeeee",
		"eueueueueueu", "ssm", "mms", "mmiiuu", "uuuuu/iiiiiu/eeeeee", "s/ss/ssii/mmmuuu/xxx/eeeeee"} {
		checkWord(t, word)
	}
	for _, text := range []string{"iiiiiii", "xxxi", "ixxx", "mmmi", "immm", "mmmm", "mmme", "sssi", "isss", "sssu", "ssss", "uuuuuuu",
		"eeeeeee", "eeeeeeeu", "uuuuuuue", "siiiiii", "siiiii", "miiiiii", "miiiii", "uuuuuu/iiiiiiu", "iiiiii/iiiiiiu/eeeeeee",
		"uuuuuu/siiiii/miiiiii/eeeeee", "iiiiiii/miiiii", "eeeeeee/u", "u/e/uuuuuuu/eeeeeee", "uuuuuuueeeeeee"} {
		checkNoWord(t, text, named(t, "field", 2))
	}
}

func TestBadWords(t *testing.T) {
	dual, flat := named(t, "dual", 5), named(t, "dual", 5)
	flat.Form = impl.Vector{1}
	for _, text := range []string{"/", "//", "i/", "/i", "i//i", "u/e/", "/u/e", "u//e", "u/e//u/e", " ", "i ", " i", "i i", "I", "a", "j",
		"mi/s", "m/m", "i/x", "x/i", "u/u", "e/e", "u/ee", "uu/e", "s/i", "i/m", "u/e/e", "u/e/i", "e/i", "i/u", "s/mi", "ii/xi",
		"ia", "ai", "i/a", "a/i", "i/a/i", "i\n", "i/\n", "i\x00", "\x00", "\xff", "i/\xff", "\u00ef", "i/\u00e9", "u\u0435", "i\\i",
		"i,i", "i|i", "0", "-", "U/E", "M", "S", "X", "E", "iI", "u/s/m/e ", "u/s/m/e\n", "t", "h", "w", "y", ".", "u/s/mi/e", "ux/e"} {
		checkNoWord(t, text, dual, flat, impl.Algebra{})
	}
	for letter := range 256 {
		text := string([]byte{byte(letter)})
		_, isPiece := pieceLegs[byte(letter)]
		if impl.IsWord(text) != isPiece {
			t.Errorf("IsWord(%q) is %v", text, !isPiece)
		}
		for _, longer := range []string{"i" + text, text + "i", "i/i" + text, "ii/" + text, text + "/i"} {
			if _, isWord := plainLayers(longer); impl.IsWord(longer) != isWord {
				t.Errorf("IsWord(%q) is %v", longer, !isWord)
			}
		}
	}
}

// TestShortTexts checks all texts of at most five letters of pieces, `/`, and another one.
func TestShortTexts(t *testing.T) {
	texts, words := []string{""}, 0
	for length := range 6 {
		var longer []string
		for _, text := range texts {
			if _, isWord := plainLayers(text); isWord {
				checkWord(t, text)
				words++
			} else if impl.IsWord(text) {
				t.Errorf("IsWord(%q) is true", text)
			} else if length < 4 {
				checkNoWord(t, text)
			}
			for _, letter := range "ixmsue/a" {
				longer = append(longer, text+string(letter))
			}
		}
		texts = longer
	}
	if words < 5000 {
		t.Errorf("there are %d short words", words)
	}
}

func TestWords(t *testing.T) {
	for _, word := range sampleWords() {
		checkWord(t, word)
	}
}

func TestLegsAndEulerNumbers(t *testing.T) {
	for word, want := range map[string][3]int64{"": {0, 0, 0}, "i": {1, 1, 0}, "x": {2, 2, 0}, "m": {2, 1, -1}, "s": {1, 2, -1},
		"u": {0, 1, 1}, "e": {1, 0, 1}, "u/s/m/e": {0, 0, 0}, "u/e": {0, 0, 2}, "xi/im": {3, 2, -1}, "mi/m/s/si": {3, 3, -4},
		"eu": {1, 1, 2}, "u/e/u/e": {0, 0, 4}, "e/u": {1, 1, 2}, "sss/mmm": {3, 3, -6}, "uuuuuu/eeeeee": {0, 0, 12}} {
		if in, out, code := impl.LegsOf(word); in != want[0] || out != want[1] || code != impl.ErrNone {
			t.Errorf("LegsOf(%q) = %d, %d, %d", word, in, out, code)
		}
		if euler, code := impl.EulerOf(word); euler != want[2] || code != impl.ErrNone {
			t.Errorf("EulerOf(%q) = %d, %d", word, euler, code)
		}
	}
	for word, want := range map[string][]int64{"": {0, 0, 0, 0, 0, 0}, "u/s/m/e": {0, 0, 1, 1, 1, 1}, "iix/imi/xs/mee": {4, 2, 2, 1, 0, 2},
		"uuuuu/xmi/eese": {1, 1, 1, 1, 5, 3}} {
		if counts, code := impl.CountPieces(word); !slices.Equal(counts, want) || code != impl.ErrNone {
			t.Errorf("CountPieces(%q) = %v, %d", word, counts, code)
		}
	}
}

// part returns a part with these legs.
func part(genus int64, ins, outs []int64) impl.Part {
	return impl.Part{Genus: genus, Ins: ins, Outs: outs}
}

func TestParts(t *testing.T) {
	none := []int64{}
	for word, want := range map[string][]impl.Part{
		"":                    {},
		"i":                   {part(0, []int64{0}, []int64{0})},
		"i/i/i":               {part(0, []int64{0}, []int64{0})},
		"x":                   {part(0, []int64{0}, []int64{1}), part(0, []int64{1}, []int64{0})},
		"x/x":                 {part(0, []int64{0}, []int64{0}), part(0, []int64{1}, []int64{1})},
		"xi/ix":               {part(0, []int64{0}, []int64{2}), part(0, []int64{1}, []int64{0}), part(0, []int64{2}, []int64{1})},
		"u/e":                 {part(0, none, none)},
		"u/s/m/e":             {part(1, none, none)},
		"u/s/x/m/e":           {part(1, none, none)},
		"u/s/m/e/u/e":         {part(0, none, none), part(1, none, none)},
		"u/e/u/s/m/e/u/e":     {part(0, none, none), part(0, none, none), part(1, none, none)},
		"u/s/m/s/m/e/u/s/m/e": {part(1, none, none), part(2, none, none)},
		"m/s":                 {part(0, []int64{0, 1}, []int64{0, 1})},
		"m/s/m/s":             {part(1, []int64{0, 1}, []int64{0, 1})},
		"si/im":               {part(0, []int64{0, 1}, []int64{0, 1})},
		"ss/ixi/mm":           {part(1, []int64{0, 1}, []int64{0, 1})},
		"xi/im":               {part(0, []int64{0, 2}, []int64{1}), part(0, []int64{1}, []int64{0})},
		"e/u":                 {part(0, []int64{0}, none), part(0, none, []int64{0})},
		"ue":                  {part(0, []int64{0}, none), part(0, none, []int64{0})},
		"u/s":                 {part(0, none, []int64{0, 1})},
		"m/e":                 {part(0, []int64{0, 1}, none)},
		"uu/ss/ixi":           {part(0, none, []int64{0, 2}), part(0, none, []int64{1, 3})},
		"uu/ss/iix/ixi":       {part(0, none, []int64{0, 2}), part(0, none, []int64{1, 3})},
		"ixi/mm/ee":           {part(0, []int64{0, 2}, none), part(0, []int64{1, 3}, none)},
		"iu/x/es/ee/u/s/m/e":  {part(0, []int64{0}, none), part(0, none, none), part(1, none, none)},
	} {
		if parts, code := impl.PartsOf(word); !sameParts(parts, want) || code != impl.ErrNone {
			t.Errorf("PartsOf(%q) = %v, %d instead of %v", word, parts, code, want)
		}
	}
}

// plainRank returns the lists by which parts are ordered.
func plainRank(p impl.Part) []int64 {
	if len(p.Ins) > 0 {
		return []int64{0, p.Ins[0]}
	}
	if len(p.Outs) > 0 {
		return []int64{1, p.Outs[0]}
	}
	return []int64{2, p.Genus}
}

// isEachOnce tells whether a list has the numbers 0 to count - 1, each once.
func isEachOnce(list []int64, count int) bool {
	sorted := slices.Sorted(slices.Values(list))
	for number := range count {
		if number >= len(sorted) || sorted[number] != int64(number) {
			return false
		}
	}
	return len(list) == count
}

// TestPartsHaveAllLegs checks, for promise 4, that each leg is in one part, and the order of the
// parts and their Euler numbers.
func TestPartsHaveAllLegs(t *testing.T) {
	for _, word := range append(sampleWords(), longWord(299), longWord(300)) {
		parts, code := impl.PartsOf(word)
		var ins, outs []int64
		euler := int64(0)
		for i, p := range parts {
			if !slices.IsSorted(p.Ins) || !slices.IsSorted(p.Outs) || p.Genus < 0 {
				t.Errorf("%q has the part %v", word, p)
			}
			if i > 0 && slices.Compare(plainRank(parts[i-1]), plainRank(p)) > 0 {
				t.Errorf("%q has parts out of order: %v", word, parts)
			}
			ins, outs = append(ins, p.Ins...), append(outs, p.Outs...)
			euler += 2 - 2*p.Genus - int64(len(p.Ins)+len(p.Outs))
		}
		in, out := plainEnds(word)
		if !isEachOnce(ins, in) || !isEachOnce(outs, out) || euler != plainEuler(word) || code != impl.ErrNone {
			t.Errorf("PartsOf(%q) = %v, %d", word, parts, code)
		}
	}
}

// TestPartsUpsideDown checks that upside down the legs of each part change sides.
func TestPartsUpsideDown(t *testing.T) {
	for _, word := range sampleWords() {
		var want []impl.Part
		for _, p := range plainParts(word) {
			want = append(want, part(p.Genus, p.Outs, p.Ins))
		}
		slices.SortFunc(want, func(a, b impl.Part) int { return slices.Compare(plainRank(a), plainRank(b)) })
		flipped, _ := impl.FlipWord(word)
		if parts, code := impl.PartsOf(flipped); !sameParts(parts, want) || code != impl.ErrNone {
			t.Errorf("PartsOf(%q) = %v, %d instead of %v", flipped, parts, code, want)
		}
	}
}

// plainPartWord takes the layers of a part word from lists.
func plainPartWord(g, a, b int) string {
	below := []string{"u/", "", "m/", "mi/m/", "mii/mi/m/", "miii/mii/mi/m/", "miiii/miii/mii/mi/m/"}[a]
	above := []string{"e/", "", "s/", "s/si/", "s/si/sii/", "s/si/sii/siii/", "s/si/sii/siii/siiii/"}[b]
	word := strings.TrimSuffix(below+strings.Repeat("s/m/", g)+above, "/")
	if word == "" {
		return "i"
	}
	return word
}

// counted returns the numbers 0 to count - 1.
func counted(count int) []int64 {
	var list []int64
	for number := range count {
		list = append(list, int64(number))
	}
	return list
}

func TestPartWords(t *testing.T) {
	for g := range 21 {
		for a := range 7 {
			for b := range 7 {
				word, code := impl.WordOfPart(int64(g), int64(a), int64(b))
				if word != plainPartWord(g, a, b) || code != impl.ErrNone {
					t.Errorf("WordOfPart(%d, %d, %d) = %q, %d", g, a, b, word, code)
				}
				checkWord(t, word)
				parts, code := impl.PartsOf(word)
				if !sameParts(parts, []impl.Part{part(int64(g), counted(a), counted(b))}) || code != impl.ErrNone {
					t.Errorf("PartsOf(%q) = %v, %d", word, parts, code)
				}
			}
		}
	}
	for want, numbers := range map[string][3]int64{"i": {0, 1, 1}, "u/e": {0, 0, 0}, "u": {0, 0, 1}, "e": {0, 1, 0}, "m": {0, 2, 1},
		"s": {0, 1, 2}, "s/m": {1, 1, 1}, "m/s/m": {1, 2, 1}, "mi/m/s/m/s/m/s/si": {2, 3, 3}, "u/s/m/e": {1, 0, 0}, "m/e": {0, 2, 0}, "u/s": {0, 0, 2}} {
		if word, code := impl.WordOfPart(numbers[0], numbers[1], numbers[2]); word != want || code != impl.ErrNone {
			t.Errorf("WordOfPart(%v) = %q, %d", numbers, word, code)
		}
	}
}

func TestPartWordRanges(t *testing.T) {
	bads := []int64{-1, -2, 22, 30, 256, 1 << 32, math.MaxInt64, math.MinInt64}
	for _, good := range [][3]int64{{0, 0, 0}, {20, 6, 6}, {3, 1, 2}} {
		for place, first := range []int64{21, 7, 7} {
			for _, bad := range append(bads, first) {
				numbers := good
				numbers[place] = bad
				if word, code := impl.WordOfPart(numbers[0], numbers[1], numbers[2]); word != "" || code != impl.ErrRange {
					t.Errorf("WordOfPart(%v) = %q, %d", numbers, word, code)
				}
			}
		}
	}
	for _, bad := range bads {
		if word, code := impl.WordOfPart(bad, bad, bad); word != "" || code != impl.ErrRange {
			t.Errorf("WordOfPart(%d, %d, %d) = %q, %d", bad, bad, bad, word, code)
		}
	}
}

// checkComposed checks a composition, or that there is none with a code.
func checkComposed(t *testing.T, v, w, want string, wantCode int64) {
	t.Helper()
	if word, code := impl.ComposeWords(v, w); word != want || code != wantCode {
		t.Errorf("ComposeWords(%q, %q) = %q, %d instead of %q, %d", v, w, word, code, want, wantCode)
	}
}

func TestComposedWords(t *testing.T) {
	words := sampleWords()
	for _, v := range words {
		for _, w := range words {
			_, above := plainEnds(v)
			below, _ := plainEnds(w)
			switch {
			case above != below:
				checkComposed(t, v, w, "", impl.ErrState)
			case v == "" || w == "":
				checkComposed(t, v, w, v+w, impl.ErrNone)
			default:
				checkComposed(t, v, w, v+"/"+w, impl.ErrNone)
			}
		}
	}
	for _, three := range [][3]string{{"s", "m", "s/m"}, {"", "", ""}, {"", "u", "u"}, {"e", "", "e"}, {"", "u/e", "u/e"},
		{"u/e", "", "u/e"}, {"u/e", "u", "u/e/u"}, {"e", "u", "e/u"}, {"xi/im", "x", "xi/im/x"}} {
		checkComposed(t, three[0], three[1], three[2], impl.ErrNone)
	}
	for _, two := range [][2]string{{"", "m"}, {"", "i"}, {"i", ""}, {"u", ""}, {"m", "m"}, {"s", "s"}, {"u", "u"}, {"e", "e"}} {
		checkComposed(t, two[0], two[1], "", impl.ErrState)
	}
}

// TestLongCompositions checks compositions of exactly MaxWord bytes and one more, and that ErrState
// is told before ErrLimit.
func TestLongCompositions(t *testing.T) {
	for bytes := 250; bytes <= 300; bytes++ {
		v := longWord(bytes)
		for _, w := range []string{"x", "ii", "mu", "x/x", "x/ii", longWord(40), longWord(24)} {
			for _, two := range [][2]string{{v, w}, {w, v}} {
				want, code := two[0]+"/"+two[1], int64(impl.ErrNone)
				if len(want) > 300 {
					want, code = "", impl.ErrLimit
				}
				checkComposed(t, two[0], two[1], want, code)
			}
		}
		for _, w := range []string{"", "i", "sss", "u/e"} {
			checkComposed(t, v, w, "", impl.ErrState)
			checkComposed(t, w, v, "", impl.ErrState)
		}
	}
	checkComposed(t, longWord(150), longWord(149), longWord(150)+"/"+longWord(149), impl.ErrNone)
	checkComposed(t, longWord(150), longWord(150), "", impl.ErrLimit)
	full := "uu/" + longWord(294) + "/ee"
	checkWord(t, full)
	checkComposed(t, full, "", full, impl.ErrNone)
	checkComposed(t, "", full, full, impl.ErrNone)
	for _, two := range [][2]string{{full, "u"}, {"e", full}, {full, full}, {"u/e", full}} {
		checkComposed(t, two[0], two[1], "", impl.ErrLimit)
	}
}

// plainBeside makes both words equally high before it puts them side by side.
func plainBeside(v, w string) string {
	first, _ := plainLayers(v)
	second, _ := plainLayers(w)
	_, left := plainEnds(v)
	_, right := plainEnds(w)
	for len(first) < len(second) {
		first = append(first, strings.Repeat("i", left))
	}
	for len(second) < len(first) {
		second = append(second, strings.Repeat("i", right))
	}
	var layers []string
	for k := range first {
		layers = append(layers, first[k]+second[k])
	}
	return strings.Join(layers, "/")
}

// checkBeside checks words side by side, or that there are none with a code.
func checkBeside(t *testing.T, v, w, want string, wantCode int64) {
	t.Helper()
	if word, code := impl.BesideWords(v, w); word != want || code != wantCode {
		t.Errorf("BesideWords(%q, %q) = %q, %d instead of %q, %d", v, w, word, code, want, wantCode)
	}
}

func TestWordsBeside(t *testing.T) {
	for _, three := range [][3]string{{"s", "i/i", "si/iii"}, {"i/i", "s", "is/iii"}, {"", "", ""}, {"", "m/s", "m/s"}, {"m/s", "", "m/s"},
		{"u/e", "i/i/i", "ui/ei/i"}, {"i/i/i", "u/e", "iu/ie/i"}, {"u/e", "u/s/m/e", "uu/es/m/e"}, {"u/s/m/e", "u/e", "uu/se/m/e"},
		{"u/e", "u/e", "uu/ee"}, {"e", "u", "eu"}, {"u", "e", "ue"}, {"e", "i/s/si", "ei/s/si"}, {"u/e/u/e", "i", "ui/ei/ui/ei"},
		{"u/e", "", "u/e"}, {"", "u/e/u", "u/e/u"}, {"m/e/u", "s", "ms/eii/uii"}, {"x", "m", "xm"}, {"u", "u/s/si/sii", "uu/is/isi/isii"}} {
		checkBeside(t, three[0], three[1], three[2], impl.ErrNone)
	}
	words, fits := sampleWords(), 0
	for _, v := range words {
		for _, w := range words {
			want := plainBeside(v, w)
			if _, isWord := plainLayers(want); isWord {
				checkBeside(t, v, w, want, impl.ErrNone)
				fits++
			} else {
				checkBeside(t, v, w, "", impl.ErrLimit)
			}
		}
	}
	if fits < 3000 || fits > len(words)*len(words)-3000 {
		t.Errorf("%d pairs of words fit", fits)
	}
}

// TestPartsBeside checks that words side by side have the parts of both.
func TestPartsBeside(t *testing.T) {
	words := sampleWords()
	for i, v := range words {
		for k := i % 9; k < len(words); k += 9 {
			w := words[k]
			word, code := impl.BesideWords(v, w)
			if code != impl.ErrNone {
				continue
			}
			in, out := plainEnds(v)
			want := plainParts(v)
			for _, p := range plainParts(w) {
				for k := range p.Ins {
					p.Ins[k] += int64(in)
				}
				for k := range p.Outs {
					p.Outs[k] += int64(out)
				}
				want = append(want, p)
			}
			slices.SortFunc(want, func(a, b impl.Part) int { return slices.Compare(plainRank(a), plainRank(b)) })
			if parts, code := impl.PartsOf(word); !sameParts(parts, want) || code != impl.ErrNone {
				t.Errorf("PartsOf(%q) = %v, %d instead of %v", word, parts, code, want)
			}
		}
	}
}

// TestLegLimitsBeside checks exactly MaxLegs legs side by side, and one more.
func TestLegLimitsBeside(t *testing.T) {
	for _, two := range [][2]string{{"iii", "iii"}, {"", "iiiiii"}, {"xxx", ""}, {"mm", "m"}, {"ss", "s"}, {"uuuuu", "u/e"},
		{"u/e/u/e", "siii"}, {"s", "i/s/si/sii"}, {"eeee", "ee"}, {"ee/uuu", "iii/xi"}} {
		checkBeside(t, two[0], two[1], plainBeside(two[0], two[1]), impl.ErrNone)
		checkBeside(t, two[1], two[0], plainBeside(two[1], two[0]), impl.ErrNone)
	}
	for _, two := range [][2]string{{"iii", "iiii"}, {"i", "iiiiii"}, {"u", "xxx"}, {"e", "iiiiii"}, {"mm", "mi"}, {"ss", "ss"}, {"sss", "u"},
		{"u/e", "siiii"}, {"i", "u/s/si/sii/siii/siiii/eeeeee"}, {"s", "i/s/si/sii/siii"}, {"uuuuu", "u/s"}, {"u/e", "uuuuuu/eeeeee"},
		{"ii/mu/x", "iiiii/eeeee"}, {"i", "ee/uuuuuu/eeeeee"}, {"iiiiii", "iiiiii"}} {
		checkBeside(t, two[0], two[1], "", impl.ErrLimit)
		checkBeside(t, two[1], two[0], "", impl.ErrLimit)
	}
}

// TestByteLimitsBeside checks exactly MaxWord bytes side by side, and one more.
func TestByteLimitsBeside(t *testing.T) {
	lengths := map[int]bool{}
	for bytes := 190; bytes <= 300; bytes++ {
		v := longWord(bytes)
		for _, w := range []string{"", "i", "u", "u/e", "i/i/i", "u/s/m/e", strings.Repeat("i/", 99) + "i", longWord(20), longWord(200)} {
			for _, two := range [][2]string{{v, w}, {w, v}} {
				want, code := plainBeside(two[0], two[1]), int64(impl.ErrNone)
				lengths[len(want)] = true
				if len(want) > 300 {
					want, code = "", impl.ErrLimit
				}
				checkBeside(t, two[0], two[1], want, code)
			}
		}
	}
	if !lengths[300] || !lengths[301] {
		t.Errorf("there are no words of 300 or of 301 bytes: %v", lengths)
	}
}

// checkAlike checks whether words are alike, in both orders.
func checkAlike(t *testing.T, v, w string, want bool) {
	t.Helper()
	if yes, code := impl.AreAlike(v, w); yes != want || code != impl.ErrNone {
		t.Errorf("AreAlike(%q, %q) = %v, %d", v, w, yes, code)
	}
	if yes, code := impl.AreAlike(w, v); yes != want || code != impl.ErrNone {
		t.Errorf("AreAlike(%q, %q) = %v, %d", w, v, yes, code)
	}
}

// equalWords returns pairs of words that have the same value for each Frobenius algebra.
func equalWords() [][2]string {
	return [][2]string{{"mi/m", "im/m"}, {"ui/m", "i"}, {"iu/m", "i"}, {"s/si", "s/is"}, {"s/ei", "i"}, {"s/ie", "i"}, {"si/im", "m/s"},
		{"is/mi", "m/s"}, {"x/x", "ii"}, {"xi/ix/xi", "ix/xi/ix"}, {"xi/ix/mi", "im/x"}, {"ix/xi/im", "mi/x"}, {"x/si", "is/xi/ix"},
		{"x/is", "si/ix/xi"}, {"ui/x", "iu"}, {"iu/x", "ui"}, {"x/ei", "ie"}, {"x/ie", "ei"}}
}

// swappedWords returns pairs of words that have the same value for each commutative Frobenius
// algebra, but not for all others.
func swappedWords() [][2]string {
	return [][2]string{{"x/m", "m"}, {"s/x", "s"}, {"xi/mi/m", "mi/m"}, {"ss/ixi/mm", "m/s/m/s"}, {"s/x/m", "s/m"}, {"is/mi/x", "m/s"},
		{"uu/ss/ixi/mm/m/e", "u/s/m/s/m/e"}, {"u/e/u/s/m/e", "u/s/m/e/u/e"}}
}

func TestAlikeWords(t *testing.T) {
	for _, two := range append(equalWords(), swappedWords()...) {
		checkAlike(t, two[0], two[1], true)
	}
	for _, two := range [][2]string{{"x", "ii"}, {"m", "m/s/m"}, {"", "u/e"}, {"", "i"}, {"u/e", "u/s/m/e"}, {"u/e", "u/e/u/e"}, {"i", "e/u"},
		{"xi/im", "im"}, {"ii", "m/s"}, {"xi", "ix"}, {"si/ix", "si"}, {"i", "ii"}, {"u/s", "uu"}, {"ee", "m/e"}, {"u", "e"}, {"m", "s"},
		{"e/u/s/m", "s/m/e/u"}, {"i", "s/m"}, {"ix/mi", "mi"}, {"u/e/u/e", "u/s/m/e/u/e"}} {
		checkAlike(t, two[0], two[1], false)
	}
	words := sampleWords()
	for i, v := range words {
		for k := i % 7; k < len(words); k += 7 {
			checkAlike(t, v, words[k], sameParts(plainParts(v), plainParts(words[k])))
		}
		checkAlike(t, v, v, true)
	}
}

// plainMachine tells what layers make of choices of numbers, which are texts of digits.
type plainMachine struct {
	a         impl.Algebra
	copairing [][]int64
	unit      impl.Vector
	known     map[[2]string]map[string]int64
}

func machineFor(t *testing.T, a impl.Algebra) *plainMachine {
	t.Helper()
	return &plainMachine{a, copairingOf(t, a), unitOf(t, a), map[[2]string]map[string]int64{}}
}

// digit returns the text of a number of a leg.
func digit(number int64) string {
	return string([]byte{byte('0' + number)})
}

// piece returns what a piece makes of numbers, straight from the definition.
func (m *plainMachine) piece(letter byte, below string) map[string]int64 {
	image, e := map[string]int64{}, func(at int) impl.Vector { return basis(int64(below[at] - '0')) }
	note := func(v impl.Vector) {
		for k := range m.a.Size {
			image[digit(k)] = int64(v[k])
		}
	}
	switch letter {
	case 'i':
		image[below] = 1
	case 'x':
		image[below[1:]+below[:1]] = 1
	case 'm':
		note(plainProduct(m.a, e(0), e(1)))
	case 's':
		for i, row := range plainCoproduct(m.a, m.copairing, e(0)) {
			for j, number := range row {
				image[digit(int64(i))+digit(int64(j))] = number
			}
		}
	case 'u':
		note(m.unit)
	case 'e':
		image[""] = plainForm(m.a, e(0))
	}
	return image
}

// layer returns what a layer makes of numbers: what its first piece makes of the first ones, times
// what the others make of the others.
func (m *plainMachine) layer(text, below string) map[string]int64 {
	if text == "" {
		return map[string]int64{"": 1}
	}
	key := [2]string{text, below}
	if image, known := m.known[key]; known {
		return image
	}
	in, image := pieceLegs[text[0]][0], map[string]int64{}
	rest := m.layer(text[1:], below[in:])
	for left, factor := range m.piece(text[0], below[:in]) {
		for right, number := range rest {
			if product := factor * number % m.a.Prime; product != 0 {
				image[left+right] = product
			}
		}
	}
	m.known[key] = image
	return image
}

// value returns the value of a word, each choice of numbers below on its own.
func (m *plainMachine) value(word string) impl.Tensor {
	layers, _ := plainLayers(word)
	in, out := plainEnds(word)
	u := impl.Tensor{Prime: m.a.Prime, Size: m.a.Size, In: int64(in), Out: int64(out)}
	text := func(numbers []int64) string {
		joined := ""
		for _, number := range numbers {
			joined += digit(number)
		}
		return joined
	}
	aboves := plainChoices(m.a.Size, int64(out))
	for _, below := range plainChoices(m.a.Size, int64(in)) {
		terms := map[string]int64{text(below): 1}
		for _, layer := range layers {
			next := map[string]int64{}
			for numbers, factor := range terms {
				for image, number := range m.layer(layer, numbers) {
					next[image] = (next[image] + factor*number) % m.a.Prime
				}
			}
			terms = next
		}
		for _, above := range aboves {
			u.Numbers = append(u.Numbers, terms[text(above)])
		}
	}
	return u
}

// hasValue tells whether the tensors of a word are within the limits for a size.
func hasValue(n int64, word string) bool {
	layers, _ := plainLayers(word)
	in, _ := plainEnds(word)
	fits := isPlainWithin(n, int64(in), int64(in))
	for _, layer := range layers {
		_, out, _ := layerLegs(layer)
		fits = fits && isPlainWithin(n, int64(in), int64(out))
	}
	return fits
}

// mostLegs has, for each size, how many legs tensors have, below and above together.
var mostLegs = []int{0, 12, 10, 6, 5, 4, 4}

// valueWords returns words that have a value for algebras of a size.
func valueWords(n int64) []string {
	words := []string{"", "i", "x", "m", "s", "u", "e", "u/e", "u/s/m/e", "e/u", "s/x/m", "u/e/u/s/m/e", "uu/x/ee"}
	most := mostLegs[n]
	for seed := range 24 {
		in := seed % (min(most/2, 6) + 1)
		words = append(words, drawnWord(seed, in, 1+seed%7, min(most-in, 6)))
	}
	return words
}

// valueOf returns the value of a word.
func valueOf(t *testing.T, a impl.Algebra, word string) impl.Tensor {
	t.Helper()
	u, code := impl.ValueOfWord(a, word)
	if code != impl.ErrNone || !impl.IsTensor(u) {
		t.Fatalf("ValueOfWord(%v, %q) = %v, %d", a, word, u, code)
	}
	return u
}

func TestValuesOfWords(t *testing.T) {
	for _, a := range frobeniusSamples(t) {
		m := machineFor(t, a)
		for _, word := range valueWords(a.Size) {
			if !hasValue(a.Size, word) {
				t.Errorf("%q has no value for the size %d", word, a.Size)
			}
			u, code := impl.ValueOfWord(a, word)
			checkTensor(t, "ValueOfWord of "+word, u, code, m.value(word))
		}
	}
}

func TestValuesOfPieces(t *testing.T) {
	for _, a := range frobeniusSamples(t) {
		checkTensor(t, "no word", valueOf(t, a, ""), impl.ErrNone, identity(t, a.Prime, a.Size, 0))
		checkTensor(t, "i", valueOf(t, a, "i"), impl.ErrNone, identity(t, a.Prime, a.Size, 1))
		checkTensor(t, "ii", valueOf(t, a, "ii"), impl.ErrNone, identity(t, a.Prime, a.Size, 2))
		checkTensor(t, "x", valueOf(t, a, "x"), impl.ErrNone, swapOf(t, a.Prime, a.Size))
		checkTensor(t, "m", valueOf(t, a, "m"), impl.ErrNone, tensorBy(t, impl.ProductTensor, a))
		checkTensor(t, "s", valueOf(t, a, "s"), impl.ErrNone, tensorBy(t, impl.CoproductTensor, a))
		checkTensor(t, "u", valueOf(t, a, "u"), impl.ErrNone, tensorBy(t, impl.UnitTensor, a))
		checkTensor(t, "e", valueOf(t, a, "e"), impl.ErrNone, tensorBy(t, impl.FormTensor, a))
	}
}

// TestValuesOfJoinedWords checks that values of composed words are compositions, and those of words
// side by side are side by side.
func TestValuesOfJoinedWords(t *testing.T) {
	composed, sides := 0, 0
	for number, a := range frobeniusSamples(t) {
		words := valueWords(a.Size)
		for i, v := range words {
			for k := (i + number) % 37; k < len(words); k += 37 {
				first, second := valueOf(t, a, v), valueOf(t, a, words[k])
				word, code := impl.ComposeWords(v, words[k])
				if code == impl.ErrNone && hasValue(a.Size, word) {
					checkTensor(t, word, valueOf(t, a, word), impl.ErrNone, plainCompose(first, second))
					composed++
				}
				word, code = impl.BesideWords(v, words[k])
				if code == impl.ErrNone && hasValue(a.Size, word) {
					checkTensor(t, word, valueOf(t, a, word), impl.ErrNone, plainSide(first, second))
					sides++
				}
			}
		}
	}
	if composed < 800 || sides < 800 {
		t.Errorf("%d words are composed, and %d side by side", composed, sides)
	}
}

// checkEqualValues checks that words have the same value, if they have one, and returns whether they
// have.
func checkEqualValues(t *testing.T, a impl.Algebra, v, w string) bool {
	t.Helper()
	if !hasValue(a.Size, v) || !hasValue(a.Size, w) {
		return false
	}
	checkTensor(t, v+" as "+w, valueOf(t, a, v), impl.ErrNone, valueOf(t, a, w))
	return true
}

func TestEqualWords(t *testing.T) {
	checked := 0
	for _, a := range frobeniusSamples(t) {
		for _, two := range equalWords() {
			if checkEqualValues(t, a, two[0], two[1]) {
				checked++
			}
		}
	}
	if checked < 1000 {
		t.Errorf("%d pairs of words were checked", checked)
	}
	for _, p := range primes {
		matrix := named(t, "matrix", p)
		for _, two := range [][2]string{{"x/m", "m"}, {"s/x", "s"}} {
			if sameTensors(valueOf(t, matrix, two[0]), valueOf(t, matrix, two[1])) {
				t.Errorf("%q have the same value for matrices", two)
			}
		}
	}
}

// TestValuesOfAlikeWords checks promise 4: alike words have the same value for commutative algebras.
// The words are all those of at most five bytes, and drawn ones.
func TestValuesOfAlikeWords(t *testing.T) {
	texts, words := []string{""}, append(sampleWords(), valueWords(2)...)
	for range 5 {
		var longer []string
		for _, text := range texts {
			for _, letter := range "ixmsue/" {
				longer = append(longer, text+string(letter))
			}
		}
		texts = longer
		for _, text := range texts {
			if _, isWord := plainLayers(text); isWord {
				words = append(words, text)
			}
		}
	}
	counting := countingSamples(t)
	firsts, alike := map[string]string{}, 0
	for number, word := range words {
		key := ""
		for _, p := range plainParts(word) {
			key += strconv.FormatInt(p.Genus, 10) + ":"
			for _, leg := range append(append(slices.Clone(p.Ins), -1), p.Outs...) {
				key += strconv.FormatInt(leg, 10)
			}
		}
		first, known := firsts[key]
		if !known {
			firsts[key] = word
			continue
		}
		checkAlike(t, first, word, true)
		for k := range 5 {
			if checkEqualValues(t, counting[(number*5+k*37)%len(counting)], first, word) {
				alike++
			}
		}
	}
	if alike < 2000 {
		t.Errorf("%d pairs of alike words were checked", alike)
	}
	for _, a := range counting {
		for _, two := range swappedWords() {
			checkEqualValues(t, a, two[0], two[1])
		}
	}
}

// legNumbers returns the numbers that some legs have.
func legNumbers(legs, numbers []int64) []int64 {
	var list []int64
	for _, leg := range legs {
		list = append(list, numbers[leg])
	}
	return list
}

// TestValuesByParts checks that values depend on the surface alone, for commutative algebras: they
// are products of the values of the part words of the parts.
func TestValuesByParts(t *testing.T) {
	for _, a := range countingSamples(t) {
		for _, word := range valueWords(a.Size) {
			parts, code := impl.PartsOf(word)
			var values []impl.Tensor
			for _, p := range parts {
				partWord, _ := impl.WordOfPart(p.Genus, int64(len(p.Ins)), int64(len(p.Outs)))
				values = append(values, valueOf(t, a, partWord))
			}
			in, out := plainEnds(word)
			want := plainTensor(a.Prime, a.Size, int64(in), int64(out), func(below, above []int64) int64 {
				product := int64(1)
				for i, p := range parts {
					product = product * numberAt(values[i], legNumbers(p.Ins, below), legNumbers(p.Outs, above)) % a.Prime
				}
				return product
			})
			checkTensor(t, word, valueOf(t, a, word), code, want)
		}
	}
}

// closedWords returns words without legs that have a value for algebras of a size.
func closedWords(n int64) []string {
	words := []string{"", "u/e", "u/s/m/e", "u/s/x/m/e", "uu/ee", "u/e/u/e", "u/e/u/s/m/e", "u/s/m/e/u/e", "uu/ss/ixi/mm/m/e", "uu/ss/ixi/mm/ee",
		"u/s/m/e/u/s/m/s/m/e/u/e/u/e"}
	for seed := range 12 {
		words = append(words, closedWord(seed, 1+seed%9, min(mostLegs[n], 6)))
	}
	return words
}

// handleForm returns the form of the power g of the handle element.
func handleForm(t *testing.T, a impl.Algebra, g int64) int64 {
	t.Helper()
	power, _ := impl.PowerVector(a, handleOf(t, a), g)
	return plainForm(a, power)
}

// TestClosedNumbers checks promise 13: closed numbers are products of genus numbers of the parts.
func TestClosedNumbers(t *testing.T) {
	for _, a := range countingSamples(t) {
		for _, word := range closedWords(a.Size) {
			product := int64(1)
			parts, code := impl.PartsOf(word)
			for _, p := range parts {
				number, fault := impl.GenusNumber(a, p.Genus)
				if fault != impl.ErrNone {
					t.Errorf("%q has the part %v", word, p)
				}
				product = product * number % a.Prime
			}
			if number, more := impl.ClosedNumber(a, word); number != product || code != impl.ErrNone || more != impl.ErrNone {
				t.Errorf("ClosedNumber(%v, %q) = %d, %d instead of %d", a, word, number, more, product)
			}
		}
	}
}

// TestClosedNumbersOfGenera checks words of one part up to the greatest genus that fits in.
func TestClosedNumbersOfGenera(t *testing.T) {
	for i, a := range countingSamples(t) {
		for g := int64(i % 3); g <= 74; g += 3 {
			word := "u" + strings.Repeat("/s/m", int(g)) + "/e"
			want := handleForm(t, a, g)
			if number, code := impl.ClosedNumber(a, word); number != want || code != impl.ErrNone {
				t.Errorf("ClosedNumber(%v, %q) = %d, %d instead of %d", a, word, number, code, want)
			}
			if number, code := impl.GenusNumber(a, g); g <= 30 && (number != want || code != impl.ErrNone) {
				t.Errorf("GenusNumber(%v, %d) = %d, %d instead of %d", a, g, number, code, want)
			}
			if word, code := impl.WordOfPart(g, 0, 0); g <= 20 {
				if number, more := impl.ClosedNumber(a, word); number != want || code != impl.ErrNone || more != impl.ErrNone {
					t.Errorf("ClosedNumber(%v, %q) = %d, %d instead of %d", a, word, number, more, want)
				}
			}
		}
	}
}

// TestClosedNumbersOfAll checks closed numbers of algebras that need not be commutative.
func TestClosedNumbersOfAll(t *testing.T) {
	for _, a := range frobeniusSamples(t) {
		m := machineFor(t, a)
		for _, word := range closedWords(a.Size) {
			if number, code := impl.ClosedNumber(a, word); number != m.value(word).Numbers[0] || code != impl.ErrNone {
				t.Errorf("ClosedNumber(%v, %q) = %d, %d", a, word, number, code)
			}
			if u := valueOf(t, a, word); u.In != 0 || u.Out != 0 || len(u.Numbers) != 1 {
				t.Errorf("ValueOfWord(%v, %q) = %v", a, word, u)
			}
		}
	}
}

// TestHandlesByWords checks promise 12 by words: handle elements are products of coproducts of the
// unit, and traces of commutative algebras are forms with them.
func TestHandlesByWords(t *testing.T) {
	for _, a := range frobeniusSamples(t) {
		handle := handleOf(t, a)
		if u := valueOf(t, a, "u/s/m"); !slices.Equal(u.Numbers, numbersOf(a, handle)) {
			t.Errorf("%v: u/s/m is %v, and the handle element %v", a, u, handle)
		}
		if number, code := impl.ClosedNumber(a, "u/s/m/e"); number != plainForm(a, handle) || code != impl.ErrNone {
			t.Errorf("%v: u/s/m/e is %d, %d", a, number, code)
		}
	}
	for _, a := range countingSamples(t) {
		if number, code := impl.ClosedNumber(a, "u/s/m/e"); number != a.Size%a.Prime || code != impl.ErrNone {
			t.Errorf("%v: u/s/m/e is %d, %d", a, number, code)
		}
		u := valueOf(t, a, "s/m/e")
		for _, v := range drawnVectors(a, 4) {
			value, _ := impl.ValueAt(u, []impl.Vector{v})
			if trace, code := impl.TraceOf(a, v); !slices.Equal(value, []int64{trace}) || code != impl.ErrNone {
				t.Errorf("%v: s/m/e is %v at %v, and the trace %d", a, value, v, trace)
			}
		}
	}
}

// sizedAlgebras returns a Frobenius algebra of each size, with the sizes as indexes.
func sizedAlgebras(t *testing.T, p int64) []impl.Algebra {
	t.Helper()
	dual, cyclic := named(t, "dual", p), named(t, "cyclic3", p)
	return []impl.Algebra{{}, named(t, "field", p), dual, cyclic, named(t, "matrix", p), sumOf(t, dual, cyclic), named(t, "symmetric", p)}
}

// TestValueLimits checks tensors with exactly MaxNumbers numbers, and with more, below, behind a
// layer in the middle, and above. The words stand with the greatest size for which they have a value.
func TestValueLimits(t *testing.T) {
	for word, most := range map[string]int64{"": 6, "ii": 6, "iii": 3, "iiii": 2, "iiiii": 2, "iiiiii": 1, "x": 6, "ix": 3, "xx": 2, "xxx": 1,
		"m/s": 6, "mi": 3, "mm": 2, "mi/m/e": 3, "mm/m/e": 2, "ee": 6, "eee": 3, "eeee": 2, "iiiiii/eeeeee": 1, "ee/uu": 6, "eee/uuu": 3,
		"ee/uuu": 4, "ee/uuuu": 3, "ee/uuu/eee": 4, "e/u": 6, "e/uuu": 6, "e/uuu/eee": 6, "e/uuuu": 4, "e/uuuu/eeee": 4, "e/uuuuu": 3,
		"e/uuuuuu": 2, "e/uuuuuu/eeeeee": 2, "s/si": 6, "s/si/sii": 4, "s/si/sii/mii/mi/m": 4, "s/si/mi/m": 6, "s/si/sm/mi/m": 6,
		"si": 4, "si/im": 4, "ss": 3, "ss/mm": 3, "uuuu": 6, "uuuuu": 4, "uuuuuu": 3, "uuuu/eeee": 6, "uuuuu/eeeee": 4, "uuuuuu/eeeeee": 3,
		"uuuu/eeeeuuuu/eeee": 6, "uuuu/uuuueeee/eeee": 6, "uu/ss/siii": 4, "uu/ss/smi/eeee": 6, "uu/ss/mm/m/e": 6, "uuu/ssi/mmi/mi/m/e": 4,
		"uuu/sss/mmm/mi/m/e": 3, "iu/ei": 6, "u/s/si/sii": 6, "u/s/si/sii/siii/siiii/eeeeee": 3} {
		_, out := plainEnds(word)
		for n, a := range sizedAlgebras(t, primeAt(len(word)+out)) {
			if n == 0 {
				continue
			}
			if hasValue(int64(n), word) != (int64(n) <= most) {
				t.Errorf("%q: hasValue for the size %d is %v", word, n, int64(n) > most)
			}
			checkValueWithin(t, a, word, int64(n) <= most)
		}
	}
}

// checkValueWithin checks the value of a word, or that there is none because of the limits.
func checkValueWithin(t *testing.T, a impl.Algebra, word string, within bool) {
	t.Helper()
	in, out := plainEnds(word)
	isClosed := in == 0 && out == 0
	switch {
	case within:
		want := machineFor(t, a).value(word)
		checkTensor(t, "ValueOfWord of "+word, valueOf(t, a, word), impl.ErrNone, want)
		if number, code := impl.ClosedNumber(a, word); isClosed && (number != want.Numbers[0] || code != impl.ErrNone) {
			t.Errorf("ClosedNumber(%v, %q) = %d, %d", a, word, number, code)
		}
	case isClosed:
		checkNoValueOf(t, a, word, impl.ErrLimit, impl.ErrLimit)
	default:
		checkNoValueOf(t, a, word, impl.ErrLimit, impl.ErrRange)
	}
}

// TestWordsWithLegsAreNotClosed checks words that have legs on one side alone, and on both.
func TestWordsWithLegsAreNotClosed(t *testing.T) {
	for _, a := range frobeniusSamples(t) {
		for _, word := range []string{"i", "x", "m", "s", "u", "e", "e/u", "ue", "m/e", "u/s", "u/e/u", "e/u/e", "u/s/m", "s/m/e"} {
			if number, code := impl.ClosedNumber(a, word); number != 0 || code != impl.ErrRange {
				t.Errorf("ClosedNumber(%v, %q) = %d, %d", a, word, number, code)
			}
		}
	}
}

func TestWordsOfBrokenAlgebras(t *testing.T) {
	for _, a := range brokenAlgebras(t) {
		for _, text := range []string{"", "i", "u/e", "u/s/m/e", "iiiiii", "uuuuuu/eeeeee", "i/", "m/m", "iiiiiii"} {
			checkNoValueOf(t, a, text, impl.ErrInvalid, impl.ErrInvalid)
		}
	}
}

// TestWordsOfFlatAlgebras checks algebras that are not Frobenius: ErrState comes behind ErrInvalid and
// ErrRange, and before ErrLimit.
func TestWordsOfFlatAlgebras(t *testing.T) {
	flats := thatAre(func(a impl.Algebra) bool { return !isPlainFrobenius(a) }, formSamples(t))
	for _, p := range primes {
		for _, a := range sizedAlgebras(t, p)[1:] {
			a.Form = impl.Vector{}
			flats = append(flats, a)
		}
	}
	for _, a := range flats {
		for _, word := range []string{"", "u/e", "u/s/m/e", "uu/ee", "uuuuuu/eeeeee"} {
			checkNoValueOf(t, a, word, impl.ErrState, impl.ErrState)
		}
		for _, word := range []string{"i", "m", "u", "e", "ii", "iiiiii", "uuuuuu", "eeeeee", "iiiiii/eeeeee"} {
			checkNoValueOf(t, a, word, impl.ErrState, impl.ErrRange)
		}
		for _, text := range []string{"i/", "/", "m/m", "u/e/", "iiiiiii", longWord(301)} {
			checkNoValueOf(t, a, text, impl.ErrInvalid, impl.ErrInvalid)
		}
	}
}

// TestLongValues checks the values of words of many layers.
func TestLongValues(t *testing.T) {
	for _, p := range primes {
		for n, a := range sizedAlgebras(t, p) {
			if n == 0 {
				continue
			}
			m := machineFor(t, a)
			words := []string{strings.Repeat("i/", 149) + "i", "uu/" + longWord(294) + "/ee", "uu/" + longWord(293) + "/ee", strings.Repeat("u/e/", 74) + "u/e"}
			for _, word := range words {
				checkTensor(t, word, valueOf(t, a, word), impl.ErrNone, m.value(word))
			}
		}
	}
}

// TestWordMemory checks that results are new memory, and that their slices share none.
func TestWordMemory(t *testing.T) {
	for _, word := range sampleWords() {
		parts, _ := impl.PartsOf(word)
		var lists [][]int64
		for _, p := range parts {
			lists = append(lists, p.Ins[:cap(p.Ins)], p.Outs[:cap(p.Outs)])
		}
		for number, list := range lists {
			for i := range list {
				list[i] = int64(100 + number)
			}
		}
		for number, list := range lists {
			if slices.ContainsFunc(list, func(value int64) bool { return value != int64(100+number) }) {
				t.Errorf("%q has parts that share memory: %v", word, lists)
			}
		}
		if again, _ := impl.PartsOf(word); !sameParts(again, plainParts(word)) {
			t.Errorf("the parts of %q come from kept memory: %v", word, again)
		}
		checkMemory(t, "CountPieces", func() []int64 {
			counts, _ := impl.CountPieces(word)
			return counts
		})
	}
	plane := quantumPlane(t)
	for _, word := range []string{"", "i", "ii", "x", "m", "s", "u", "e", "u/e", "u/s/m/e", "i/i", "m/s"} {
		checkMemory(t, "ValueOfWord of "+word, func() []int64 { return numbersBy(impl.ValueOfWord(plane, word)) })
	}
}
