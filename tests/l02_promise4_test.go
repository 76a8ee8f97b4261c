package tests

import (
	"math"
	"math/big"
	"slices"
	"testing"

	"loop.example/g01155/impl"
)

func TestPromise4BitsOfTurns(t *testing.T) {
	for _, c := range []struct {
		n, k         int64
		text, narrow string
	}{
		{1, 0, "3ff0000000000000 0000000000000000", "3f800000 00000000"},
		{2, 1, "bff0000000000000 0000000000000000", "bf800000 00000000"},
		{4, 1, "0000000000000000 3ff0000000000000", "00000000 3f800000"},
		{4, 3, "0000000000000000 bff0000000000000", "00000000 bf800000"},
		{3, 1, "bfdfffffffffffff 3febb67ae8584cab", "bf000000 3f5db3d7"},
		{5, 1, "3fd3c6ef372fe94f 3fee6f0e134454ff", "3e9e377a 3f737871"},
		{5, 2, "bfe9e3779b97f4a8 3fe2cf2304755a5e", "bf4f1bbd 3f167918"},
		{7, 1, "3fe3f3a0e28bedd1 3fe904c37505de4b", "3f1f9d07 3f48261c"},
		{7, 3, "bfecd4bca9cb5c71 3fdbc4c04d71abc1", "bf66a5e5 3ede2602"},
		{7, 5, "bfcc7b90e3024583 bfef329c0558e969", "be63dc87 bf7994e0"},
		{8, 1, "3fe6a09e667f3bcd 3fe6a09e667f3bcd", "3f3504f3 3f3504f3"},
		{8, 3, "bfe6a09e667f3bcd 3fe6a09e667f3bcd", "bf3504f3 3f3504f3"},
		{8, 5, "bfe6a09e667f3bcd bfe6a09e667f3bcd", "bf3504f3 bf3504f3"},
		{12, 1, "3febb67ae8584cab 3fdfffffffffffff", "3f5db3d7 3f000000"},
		{16, 1, "3fed906bcf328d46 3fd87de2a6aea963", "3f6c835e 3ec3ef15"},
		{16, 3, "3fd87de2a6aea963 3fed906bcf328d46", "3ec3ef15 3f6c835e"},
		{1000, 1, "3fefffd69aa0b99d 3f79bc5a9d91f679", "3f7ffeb5 3bcde2d5"},
		{1000, 124, "3fe6c4e677f1a28e 3fe67c1bca1a4946", "3f362734 3f33e0de"},
		{1000, 125, "3fe6a09e667f3bcd 3fe6a09e667f3bcd", "3f3504f3 3f3504f3"},
		{1000, 126, "3fe67c1bca1a4946 3fe6c4e677f1a28e", "3f33e0de 3f362734"},
		{1023, 127, "3fe6bfaa60594cef 3fe6816798688bfc", "3f35fd53 3f340b3d"},
		{1023, 128, "3fe69c2b793f2883 3fe6a51073fca170", "3f34e15c 3f352884"},
		{1023, 511, "bfeffff61c70f3f6 3f692842ce34fa0f", "bf7fffb1 3b494216"},
		{1023, 512, "bfeffff61c70f3f6 bf692842ce34fa0f", "bf7fffb1 bb494216"},
		{1024, 127, "3fe6c40d73c18275 3fe67cf78491af10", "3f36206c 3f33e7bc"},
		{1024, 128, "3fe6a09e667f3bcd 3fe6a09e667f3bcd", "3f3504f3 3f3504f3"},
		{1024, 129, "3fe67cf78491af10 3fe6c40d73c18275", "3f33e7bc 3f36206c"},
		{1024, 255, "3f7921f0fe670071 3fefffd8858e8a92", "3bc90f88 3f7ffec4"},
		{1024, 257, "bf7921f0fe670071 3fefffd8858e8a92", "bbc90f88 3f7ffec4"},
		{1024, 511, "bfefffd8858e8a92 3f7921f0fe670071", "bf7ffec4 3bc90f88"},
		{1024, 512, "bff0000000000000 0000000000000000", "bf800000 00000000"},
		{1024, 513, "bfefffd8858e8a92 bf7921f0fe670071", "bf7ffec4 bbc90f88"},
		{1024, 1023, "3fefffd8858e8a92 bf7921f0fe670071", "3f7ffec4 bbc90f88"},
	} {
		turn, one := impl.TurnOf(c.n, c.k)
		narrow, two := impl.NarrowTurnOf(c.n, c.k)
		want(t, "TurnOf", impl.BitsText(turn), c.text)
		want(t, "NarrowTurnOf", impl.NarrowBitsText(narrow), c.narrow)
		want(t, "codes", [2]int64{one, two}, [2]int64{})
	}
}

// TestPromise4BitsOfAllTurns holds them against a program outside of this one.
func TestPromise4BitsOfAllTurns(t *testing.T) {
	got := hashOf(func(yield func(string) bool) {
		for n := int64(1); n <= impl.MaxTurn; n++ {
			turns, _ := impl.TurnsOf(n)
			wideLines(yield, turns)
		}
	})
	want(t, "hash of all turns", got, 0x9d2e8e0540080bdd)
	got = hashOf(func(yield func(string) bool) {
		for n := int64(1); n <= impl.MaxTurn; n++ {
			for k := range n {
				turn, _ := impl.NarrowTurnOf(n, k)
				narrowLines(yield, []complex64{turn})
			}
		}
	})
	want(t, "hash of all narrow turns", got, 0x4519f0e50ea37acd)
}

func TestPromise4TurnsByTheirRules(t *testing.T) {
	for _, n := range []int64{1, 2, 3, 4, 5, 6, 7, 8, 9, 10, 11, 12, 15, 16, 17, 24, 30, 32, 63, 64, 65, 96, 97, 127, 128, 255, 256, 360, 1000, 1021, 1023, 1024} {
		turns, code := impl.TurnsOf(n)
		want(t, "TurnsOf: code", code, impl.OK)
		want(t, "TurnsOf: count", int64(len(turns)), n)
		for k := range n {
			turn, code := impl.TurnOf(n, k)
			narrow, narrowCode := impl.NarrowTurnOf(n, k)
			wantSame(t, "TurnOf", turn, toldTurn(n, k))
			wantSame(t, "TurnsOf", turns[k], turn)
			wantSame(t, "NarrowTurnOf", complex128(narrow), complex128(complex64(turn)))
			want(t, "codes", [2]int64{code, narrowCode}, [2]int64{})
		}
	}
}

func TestPromise4TurnsAreMirroredAndOpposite(t *testing.T) {
	for n := int64(1); n <= impl.MaxTurn; n++ {
		turns, _ := impl.TurnsOf(n)
		wantSame(t, "turn 0", turns[0], 1)
		for k := int64(1); k < n; k++ {
			if 2*k != n {
				wantSame(t, "turn n - k", turns[n-k], impl.Conjugate(turns[k]))
			}
			if n%2 == 0 {
				want(t, "turn k + n / 2", turns[(k+n/2)%n], -turns[k])
			}
			if n%4 == 0 {
				want(t, "turn k + n / 4", turns[(k+n/4)%n], complex(-imag(turns[k]), real(turns[k])))
			}
		}
	}
}

func TestPromise4TurnsInLowestTerms(t *testing.T) {
	for n := int64(1); n <= impl.MaxTurn/2; n++ {
		turns, _ := impl.TurnsOf(n)
		for _, times := range []int64{2, 3, 7} {
			if n*times > impl.MaxTurn {
				continue
			}
			more, _ := impl.TurnsOf(n * times)
			for k := range n {
				wantSame(t, "a turn that is not in lowest terms", more[k*times], turns[k])
			}
		}
	}
}

func TestPromise4TurnsAreNearTheirAngles(t *testing.T) {
	for n := int64(1); n <= impl.MaxTurn; n++ {
		turns, _ := impl.TurnsOf(n)
		for k, turn := range turns {
			second, first := math.Sincos(2 * math.Pi * float64(k) / float64(n))
			if math.Abs(real(turn)-first) > 2e-15 || math.Abs(imag(turn)-second) > 2e-15 {
				t.Errorf("turn %d of %d: got %v", k, n, turn)
			}
		}
	}
}

func TestPromise4TurnsThatAreNone(t *testing.T) {
	for _, n := range []int64{math.MinInt64, -4, -1, 0, impl.MaxTurn + 1, math.MaxInt64} {
		turns, code := impl.TurnsOf(n)
		wantCode(t, "TurnsOf", turns, code, impl.ErrRange)
		factors, code := impl.FactorsOf(n)
		wantCode(t, "FactorsOf", factors, code, impl.ErrRange)
		for _, k := range []int64{-1, 0, 1} {
			wantNoTurn(t, n, k)
		}
	}
	for _, n := range []int64{1, 2, 3, 8, impl.MaxTurn} {
		for _, k := range []int64{math.MinInt64, -n, -1, n, n + 1, math.MaxInt64} {
			wantNoTurn(t, n, k)
		}
	}
}

func wantNoTurn(t *testing.T, n, k int64) {
	t.Helper()
	turn, code := impl.TurnOf(n, k)
	narrow, narrowCode := impl.NarrowTurnOf(n, k)
	wantSame(t, "TurnOf with an error", turn, 0)
	wantSame(t, "NarrowTurnOf with an error", complex128(narrow), 0)
	want(t, "codes", [2]int64{code, narrowCode}, [2]int64{impl.ErrRange, impl.ErrRange})
}

func TestPromise4Factors(t *testing.T) {
	for n := int64(1); n <= impl.MaxTurn; n++ {
		factors, code := impl.FactorsOf(n)
		product := int64(1)
		for _, p := range factors {
			product *= p
			want(t, "FactorsOf: a prime", big.NewInt(p).ProbablyPrime(10), true)
		}
		want(t, "FactorsOf: product", product, n)
		want(t, "FactorsOf: ascending", slices.IsSorted(factors), true)
		want(t, "FactorsOf: code", code, impl.OK)
	}
}

// someLengths are primes, powers of 2, products of both, and the limits.
func someLengths() []int {
	list := []int{97, 121, 125, 127, 128, 144, 210, 243, 251, 255, 256}
	for n := range 65 {
		list = append(list, n)
	}
	return list
}

// oddSignal has numbers of any kind, at places that are drawn.
func oddSignal(n int, odd ...complex128) []complex128 {
	x := drawnNumbers(n)
	for i, each := range odd {
		if n > 0 {
			x[(i*5+n/2)%n] = each
		}
	}
	return x
}

func signalsOfLength(n int) [][]complex128 {
	zeros := make([]complex128, n)
	for i := range zeros {
		zeros[i] = complex(minus0, minus0)
	}
	return [][]complex128{
		ruledSignal(n), drawnNumbers(n), make([]complex128, n), zeros,
		oddSignal(n, complex(inf, 0)), oddSignal(n, complex(0, -inf), complex(minus0, 1)), oddSignal(n, complex(nan, 2)),
		oddSignal(n, complex(great, great), complex(-great, 1e300)), oddSignal(n, complex(least, -least), complex(minus0, 0)),
	}
}

// fewerSignals are for the greater lengths, as exact sums take time.
func fewerSignals(n int) [][]complex128 {
	if n > 40 {
		return signalsOfLength(n)[:2]
	}
	return signalsOfLength(n)
}

func TestPromise4FastTransformsByTheirRules(t *testing.T) {
	w := width(wide)
	for _, n := range someLengths() {
		for _, x := range fewerSignals(n) {
			forth, code := impl.TransformOf(x)
			wantSignal(t, "TransformOf", forth, code, w.fast(x)...)
			back, code := impl.BackOf(x)
			wantSignal(t, "BackOf", back, code, w.back(x)...)
		}
	}
}

func TestPromise4PlainTransformsByTheirRules(t *testing.T) {
	for n := range 34 {
		for _, x := range signalsOfLength(n) {
			forth, code := impl.PlainTransform(x)
			wantSignal(t, "PlainTransform", forth, code, toldPlain(x, -1)...)
			back, code := impl.PlainBack(x)
			wantSignal(t, "PlainBack", back, code, toldPlainBack(x)...)
		}
	}
}

func TestPromise4ChirpsByTheirRules(t *testing.T) {
	for n := range impl.MaxChirp + 1 {
		for _, x := range fewerSignals(n) {
			got, code := impl.ChirpTransform(x)
			wantSignal(t, "ChirpTransform", got, code, toldChirp(x)...)
		}
	}
}

func TestPromise4BitsOfTransforms(t *testing.T) {
	for _, c := range []struct {
		name string
		run  func([]complex128) ([]complex128, int64)
		want []string
	}{
		{"PlainTransform", impl.PlainTransform, []string{"4016800000000000 bfe6666666666666", "bfb877be43eaa4c0 3fe54c23e36752fc", "bfffd7d3f6bf8e18 bff238036afda660", "bfec000000000000 3ff199999999999a", "c004141604a038f2 bfe1f65f906b19a8", "bffa78841bc155b4 c002eca292736e58"}},
		{"PlainBack", impl.PlainBack, []string{"3fee000000000000 bfbddddddddddddd", "bfd1a5ad67d63923 bfd93b836def3dcb", "bfdac572b0d5a143 bfb7f32a15e42235", "bfc2aaaaaaaaaaab 3fc7777777777778", "bfd53a8d4f2a5ebb bfc84aaf3952332b", "bf904fd42d471880 3fbc65852f346ea5"}},
		{"TransformOf", impl.TransformOf, []string{"4016800000000000 bfe6666666666666", "bfb877be43eaa4b0 3fe54c23e36752f4", "bfffd7d3f6bf8e1b bff238036afda660", "bfec000000000000 3ff1999999999999", "c004141604a038f2 bfe1f65f906b19a4", "bffa78841bc155b1 c002eca292736e58"}},
		{"BackOf", impl.BackOf, []string{"3fee000000000000 bfbddddddddddddd", "bfd1a5ad67d63921 bfd93b836def3dcb", "bfdac572b0d5a143 bfb7f32a15e42230", "bfc2aaaaaaaaaaab 3fc7777777777777", "bfd53a8d4f2a5ebd bfc84aaf3952332b", "bf904fd42d471875 3fbc65852f346e9b"}},
		{"ChirpTransform", impl.ChirpTransform, []string{"4016800000000000 bfe6666666666662", "bfb877be43eaa4c8 3fe54c23e36752fa", "bfffd7d3f6bf8e1a bff238036afda664", "bfebfffffffffffe 3ff199999999999a", "c004141604a038f4 bfe1f65f906b19ad", "bffa78841bc155b3 c002eca292736e59"}},
	} {
		got, code := c.run(ruledSignal(6))
		want(t, c.name+": code", code, impl.OK)
		var texts []string
		for _, each := range got {
			texts = append(texts, impl.BitsText(each))
		}
		if !slices.Equal(texts, c.want) {
			t.Errorf("%s: got %v, want %v", c.name, texts, c.want)
		}
	}
}

// TestPromise4BitsOfManyTransforms holds them against a program outside of this
// one.
func TestPromise4BitsOfManyTransforms(t *testing.T) {
	fast := []int{97, 101, 121, 125, 127, 128, 144, 210, 243, 251, 255, 256}
	for _, c := range []struct {
		name  string
		run   func([]complex128) ([]complex128, int64)
		below int
		more  []int
		want  uint64
	}{
		{"PlainTransform", impl.PlainTransform, 49, []int{97, 128, 256}, 0x678177a040bcae38},
		{"PlainBack", impl.PlainBack, 49, []int{97, 128, 256}, 0x2a33dd8264e3025e},
		{"TransformOf", impl.TransformOf, 65, fast, 0xdf5dca890bf8de86},
		{"BackOf", impl.BackOf, 65, fast, 0x9bdb43e8fd022c15},
		{"ChirpTransform", impl.ChirpTransform, 65, nil, 0xc62e0dd7ca87d7ef},
	} {
		got := hashOf(func(yield func(string) bool) {
			for n := range c.below {
				list, _ := c.run(ruledSignal(n))
				wideLines(yield, list)
			}
			for _, n := range c.more {
				list, _ := c.run(ruledSignal(n))
				wideLines(yield, list)
			}
		})
		want(t, "hash of "+c.name, got, c.want)
	}
}

// TestPromise4OneNumber finds that a signal of one number is left as it is by
// the fast transform only: the others multiply it.
func TestPromise4OneNumber(t *testing.T) {
	for _, x := range []complex128{5, 3 - 4i, complex(inf, 1), complex(minus0, minus0), complex(nan, 1), 1e300} {
		alone := []complex128{x}
		forth, code := impl.TransformOf(alone)
		wantSignal(t, "TransformOf", forth, code, x)
		back, code := impl.BackOf(alone)
		wantSignal(t, "BackOf", back, code, x)
		plain, code := impl.PlainTransform(alone)
		wantSignal(t, "PlainTransform", plain, code, toldProduct(x, 1))
		plainBack, code := impl.PlainBack(alone)
		wantSignal(t, "PlainBack", plainBack, code, toldProduct(x, 1))
	}
	chirp, code := impl.ChirpTransform([]complex128{5})
	want(t, "ChirpTransform of 5", len(chirp) == 1 && chirp[0] == 5 && code == impl.OK, true)
	infinite, _ := impl.PlainTransform([]complex128{complex(inf, 1)})
	wantSame(t, "PlainTransform of infinity", infinite[0], complex(inf, nan))
}

// greatSignals have parts of up to 2 to the power 40, also of both signs.
func greatSignals(n int) [][]complex128 {
	signed, same, alone := drawnNumbers(n), drawnNumbers(n), make([]complex128, n)
	for i := range n {
		signed[i] = complex(math.Ldexp(float64(1-i%2*2), 40), math.Ldexp(float64(i%3-1), 40))
		same[i] = complex(math.Ldexp(1, 40), -math.Ldexp(1, 40))
	}
	if n > 0 {
		alone[n/3] = complex(math.Ldexp(-1, 40), 3)
	}
	return [][]complex128{signed, same, alone, drawnNumbers(n)}
}

func wantNear(t *testing.T, name string, got, want []complex128, bound float64) {
	t.Helper()
	is, code := impl.IsNear(got, want, bound)
	if !is || code != impl.OK {
		t.Errorf("%s of %d numbers: not near by %v, or code %d", name, len(want), bound, code)
	}
}

func TestPromise4FastAndPlainAreNear(t *testing.T) {
	for _, n := range someLengths() {
		for _, x := range greatSignals(n) {
			bound, _ := impl.BoundOf(x)
			plain, _ := impl.PlainTransform(x)
			fast, _ := impl.TransformOf(x)
			wantNear(t, "fast transform", fast, plain, bound)
			plainBack, _ := impl.PlainBack(x)
			fastBack, _ := impl.BackOf(x)
			wantNear(t, "fast transform back", fastBack, plainBack, bound)
			again, _ := impl.BackOf(fast)
			wantNear(t, "fast transform there and back", again, x, bound)
			again, _ = impl.PlainBack(plain)
			wantNear(t, "plain transform there and back", again, x, bound)
			again, _ = impl.TransformOf(fastBack)
			wantNear(t, "fast transform back and there", again, x, bound)
			if n <= impl.MaxChirp {
				chirp, _ := impl.ChirpTransform(x)
				wantNear(t, "chirp", chirp, plain, bound)
			}
		}
	}
}

func TestPromise4LongSignals(t *testing.T) {
	for name, run := range map[string]func([]complex128) ([]complex128, int64){
		"PlainTransform": impl.PlainTransform, "PlainBack": impl.PlainBack,
		"TransformOf": impl.TransformOf, "BackOf": impl.BackOf, "ChirpTransform": impl.ChirpTransform,
	} {
		limit := impl.MaxSignal
		if name == "ChirpTransform" {
			limit = impl.MaxChirp
		}
		got, code := run(make([]complex128, limit))
		want(t, name+": length", len(got), limit)
		want(t, name+": code", code, impl.OK)
		for _, n := range []int{limit + 1, impl.MaxSignal + 1, 1000} {
			got, code = run(make([]complex128, n))
			wantCode(t, name, got, code, impl.ErrLimit)
		}
	}
}
