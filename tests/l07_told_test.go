package tests

import (
	"fmt"
	"slices"
	"strings"
	"testing"

	"loop.example/g01155/impl"
)

// What the document tells of chains, made once more and step by step, each step
// rounded from its exact result. Steps are taken as their texts here.

// wordsOf returns the word of a step and the numbers behind it.
func wordsOf(text string) (string, []int64) {
	words := strings.Split(text, " ")
	var numbers []int64
	for _, word := range words[1:] {
		var n int64
		fmt.Sscan(word, &n)
		numbers = append(numbers, n)
	}
	return words[0], numbers
}

// firstNumber is the number behind the word, or 1 if there is none.
func firstNumber(text string) int64 {
	_, numbers := wordsOf(text)
	if len(numbers) == 0 {
		return 1
	}
	return numbers[0]
}

func toldRun(text string, x []complex128) []complex128 {
	word, numbers := wordsOf(text)
	n := int(firstNumber(text))
	var y []complex128
	switch word {
	case "keep":
		return toldDecimated(x, n, 0)
	case "stuff":
		return toldExpanded(x, n)
	case "block", "back", "flip":
		for ; len(x) >= n; x = x[n:] {
			y = append(y, toldPiece(word, x[:n])...)
		}
		return y
	}
	for i := range x {
		y = append(y, toldNumber(word, numbers, x, i))
	}
	return y
}

func toldPiece(word string, block []complex128) []complex128 {
	switch word {
	case "block":
		return width(wide).fast(block)
	case "back":
		return width(wide).back(block)
	}
	var y []complex128
	for _, each := range block {
		y = append([]complex128{each}, y...)
	}
	return y
}

// toldNumber is the number with the index i of a step that makes as many numbers
// as there are.
func toldNumber(word string, numbers []int64, x []complex128, i int) complex128 {
	var terms []complex128
	switch word {
	case "gain":
		return toldProduct(x[i], complex(quotient(float64(numbers[0]), 16), quotient(float64(numbers[1]), 16)))
	case "delay":
		if i < int(numbers[0]) {
			return 0
		}
		return x[i-int(numbers[0])]
	case "filter":
		for t, tap := range numbers {
			if i-t >= 0 {
				terms = append(terms, timesReal(x[i-t], quotient(float64(tap), 16)))
			}
		}
		return toldTotal(terms)
	case "turn":
		return toldProduct(x[i], toldTurn(numbers[0], int64(i)*numbers[1]%numbers[0]))
	case "sum":
		for place := i - int(numbers[0]) + 1; place <= i; place++ {
			if place >= 0 {
				terms = append(terms, x[place])
			}
		}
		return toldTotal(terms)
	case "narrow":
		return narrow(x[i])
	case "mirror":
		return complex(real(x[i]), -imag(x[i]))
	}
	return complex(toldSquare(x[i]), 0)
}

func toldTotal(terms []complex128) complex128 {
	first, second := partsOf(terms)
	return complex(toldSum(first), toldSum(second))
}

// toldChain runs steps one after the other; ErrLimit if a signal is too long.
func toldChain(texts []string, x []complex128) ([]complex128, int64) {
	for _, text := range texts {
		if len(x) > impl.MaxSignal {
			break
		}
		x = toldRun(text, x)
	}
	if len(x) > impl.MaxSignal {
		return nil, impl.ErrLimit
	}
	return x, impl.OK
}

// toldMade counts the numbers that a step makes of n.
func toldMade(text string, n int64) int64 {
	word, _ := wordsOf(text)
	by := firstNumber(text)
	switch word {
	case "keep":
		if n%by == 0 {
			return n / by
		}
		return n/by + 1
	case "stuff":
		return n * by
	case "block", "back", "flip":
		return n / by * by
	}
	return n
}

func toldLength(texts []string, n int64) (int64, int64) {
	for _, text := range texts {
		n = toldMade(text, n)
		if n > 1000000 {
			return 0, impl.ErrLimit
		}
	}
	return n, impl.OK
}

// toldNeeded tries all numbers from 0 on, up to a count of which something is
// made that is not too much: so it is only for what takes few numbers.
func toldNeeded(texts []string, n int64) (int64, int64) {
	for count := range int64(1000001) {
		made := count
		isTooMuch := false
		for _, text := range texts {
			made = toldMade(text, made)
			isTooMuch = isTooMuch || made > 1000000
		}
		if made >= n && isTooMuch {
			return 0, impl.ErrLimit
		}
		if made >= n {
			return count, impl.OK
		}
	}
	return 0, impl.ErrLimit
}

// toldTidy does the first thing that can be done until there is none.
func toldTidy(texts []string) []string {
	for {
		next := toldTidyOnce(texts)
		if next == nil {
			return texts
		}
		texts = *next
	}
}

func toldTidyOnce(texts []string) *[]string {
	for thing := 1; thing <= 4; thing++ {
		for i, text := range texts {
			count := 2
			if thing == 1 {
				count = 1
			}
			if i+count > len(texts) {
				continue
			}
			if instead, ok := toldInstead(thing, text, texts[i+count-1]); ok {
				next := slices.Concat(texts[:i], instead, texts[i+count:])
				return &next
			}
		}
	}
	return nil
}

// toldInstead is what a thing puts instead of a step, or of two that follow each
// other.
func toldInstead(thing int, first, second string) ([]string, bool) {
	word, numbers := wordsOf(first)
	other, others := wordsOf(second)
	switch {
	case thing == 1:
		return nil, slices.Contains([]string{"delay 0", "keep 1", "stuff 1", "block 1", "flip 1"}, first)
	case thing == 2 && first == "mirror" && second == "mirror":
		return nil, true
	case thing == 2 && first == "narrow" && second == "narrow":
		return []string{"narrow"}, true
	case thing == 3 && word == other && word == "delay":
		n := numbers[0] + others[0]
		return []string{fmt.Sprint("delay ", n)}, n <= 300
	case thing == 3 && word == other && (word == "keep" || word == "stuff"):
		n := numbers[0] * others[0]
		return []string{fmt.Sprint(word, " ", n)}, n <= 64
	case thing == 4 && first == "narrow" && (other == "delay" || other == "keep" || other == "mirror"):
		return []string{second, first}, true
	}
	return nil, false
}

// stepFrom reads the text of a step that has to be one.
func stepFrom(t *testing.T, text string) impl.Step {
	t.Helper()
	s, code := impl.ReadStep(text)
	want(t, "ReadStep "+text, code, impl.OK)
	return s
}

// planFrom reads the plan of some steps.
func planFrom(t *testing.T, texts ...string) impl.Plan {
	t.Helper()
	p, code := impl.ReadPlan(linesOf(texts))
	want(t, fmt.Sprintf("ReadPlan %q", texts), code, impl.OK)
	return p
}

// linesOf has a newline behind each text.
func linesOf(texts []string) string {
	all := ""
	for _, text := range texts {
		all += text + "\n"
	}
	return all
}

// draws are numbers that a program outside of this one draws too.
type draws struct{ state uint64 }

func (d *draws) next(count int64) int64 {
	d.state = d.state*6364136223846793005 + 1442695040888963407
	return int64((d.state >> 33) % uint64(count))
}

func (d *draws) part() int64 { return d.next(513) - 256 }

// drawnStep is the text of any step, most of which are small.
func drawnStep(d *draws) string {
	words := strings.Fields("gain delay filter turn keep stuff block back flip sum narrow mirror square")
	word := words[d.next(13)]
	switch word {
	case "gain":
		return fmt.Sprint("gain ", d.part(), " ", d.part())
	case "delay":
		return fmt.Sprint("delay ", d.next([]int64{6, 301}[d.next(2)]))
	case "filter":
		for range 1 + d.next(8) {
			word += fmt.Sprint(" ", d.part())
		}
		return word
	case "turn":
		n := 1 + d.next([]int64{16, 1024}[d.next(2)])
		return fmt.Sprint("turn ", n, " ", d.next(n))
	case "keep", "stuff":
		return fmt.Sprint(word, " ", 1+d.next(4))
	case "block", "back", "flip", "sum":
		return fmt.Sprint(word, " ", 1+d.next(16))
	}
	return word
}

// drawnUntidy is the text of a step for which there may be something to be done.
func drawnUntidy(d *draws) string {
	word := strings.Fields("delay keep stuff block flip narrow mirror delay narrow")[d.next(9)]
	switch word {
	case "delay":
		return fmt.Sprint("delay ", d.next(4)*d.next(101))
	case "keep", "stuff":
		return fmt.Sprint(word, " ", 1+d.next(16))
	case "block", "flip":
		return fmt.Sprint(word, " ", 1+d.next(2))
	}
	return word
}

// drawnPlans are the texts of the steps of so many plans.
func drawnPlans(count int, step func(d *draws) string) [][]string {
	d := &draws{state: 7}
	list := make([][]string, count)
	for i := range list {
		for range d.next(9) {
			list[i] = append(list[i], step(d))
		}
	}
	return list
}

// bothDrawn are plans of any steps, and of those that can be tidied.
func bothDrawn(count int) [][]string {
	return append(drawnPlans(count, drawnStep), drawnPlans(count, drawnUntidy)...)
}

// manySteps are the texts of steps of all kinds, the least and the greatest ones
// among them.
func manySteps() []string {
	var texts []string
	for _, n := range []int64{-256, -255, -16, -1, 0, 1, 16, 100, 256} {
		for _, k := range []int64{-256, -16, 0, 3, 16, 256} {
			texts = append(texts, fmt.Sprint("gain ", n, " ", k))
		}
	}
	for _, n := range []int64{0, 1, 2, 3, 15, 36, 37, 38, 255, 256, 299, 300} {
		texts = append(texts, fmt.Sprint("delay ", n))
	}
	for _, taps := range []string{"0", "16", "-16", "256", "-256", "16 16", "16 -16", "1 2 3", "0 0 0 16", "-256 256 -256 256 -256 256 -256 256", "1 2 3 4 5 6 7 8"} {
		texts = append(texts, "filter "+taps)
	}
	for _, n := range []int64{1, 2, 3, 4, 5, 6, 7, 8, 9, 10, 11, 12, 13, 14, 15, 16, 100, 257, 512, 1000, 1023, 1024} {
		places := []int64{0, 1, n / 3, n / 2, n - 1}
		slices.Sort(places)
		for _, k := range slices.Compact(places) {
			if k < n {
				texts = append(texts, fmt.Sprint("turn ", n, " ", k))
			}
		}
	}
	for _, word := range []string{"keep", "stuff"} {
		for _, n := range []int64{1, 2, 3, 5, 8, 36, 37, 38, 63, 64} {
			texts = append(texts, fmt.Sprint(word, " ", n))
		}
	}
	for _, word := range []string{"block", "back", "flip", "sum"} {
		for n := 1; n <= 16; n++ {
			texts = append(texts, fmt.Sprint(word, " ", n))
		}
	}
	return append(texts, "narrow", "mirror", "square")
}

// oddChainSignal has numbers of every kind, mixed by a rule that a program
// outside of this one follows too.
func oddChainSignal() []complex128 {
	reals := []float64{
		0, minus0, 1, -1, 0.1, least, -least, 0x1p-1022, 0x1p-150, 0x1p-149, -0x1p-126, 1 + 0x1p-30,
		3.4028234663852886e38, 3.5e38, -1e300, great, inf, -inf, nan,
	}
	count := len(reals)
	x := make([]complex128, 76)
	for j := range x {
		x[j] = complex(reals[j%count], reals[(j*7+j/count)%count])
	}
	return x
}

// chainSignals are those for which bits are held against a program outside of
// this one.
func chainSignals() [][]complex128 {
	var list [][]complex128
	for _, n := range []int{0, 1, 2, 7, 16, 37, 64} {
		list = append(list, ruledSignal(n))
	}
	return append(list, oddChainSignal())
}

// limitOrLines are the lines of what is made, or one line for ErrLimit.
func limitOrLines(yield func(string) bool, x []complex128, code int64) bool {
	if code == impl.ErrLimit {
		return yield("limit")
	}
	return wideLines(yield, x)
}
