package tests

import (
	"fmt"
	"slices"
	"strings"
	"testing"

	"loop.example/g01155/impl"
)

// wantRead reads a text that has to be that of an engine.
func wantRead(t *testing.T, text string) impl.Engine {
	t.Helper()
	e, code := impl.ReadEngine(text)
	want(t, fmt.Sprintf("ReadEngine %q: code", text), code, impl.OK)
	want(t, fmt.Sprintf("ReadEngine %q: valid", text), impl.ValidEngine(e), true)
	want(t, "EngineText of what was read", impl.EngineText(e), text)
	return e
}

func TestPromise18TextsOfEngines(t *testing.T) {
	const one, nan2 = "3ff0000000000000 0000000000000000\n", "nan nan\n"
	for _, each := range []struct {
		text  string
		texts []string
		holds []impl.Hold
	}{
		{"engine 0\n", nil, nil},
		{"engine 1\nnarrow\nseen 0 0\n", []string{"narrow"}, []impl.Hold{{}}},
		{"engine 1\ndelay 2\nseen 0 0\n", []string{"delay 2"}, []impl.Hold{{}}},
		{"engine 1\ndelay 2\nseen 1 1\n" + one, []string{"delay 2"}, []impl.Hold{{Seen: 1, Held: []complex128{1}}}},
		{"engine 1\ndelay 2\nseen 1000000000000000 2\n" + one + nan2, []string{"delay 2"}, []impl.Hold{{Seen: 1000000000000000, Held: []complex128{1, complex(nan, nan)}}}},
		{"engine 2\nstuff 3\nseen 7 0\nblock 4\nseen 21 1\nnan fff0000000000000\n", []string{"stuff 3", "block 4"}, []impl.Hold{{Seen: 7}, {Seen: 21, Held: []complex128{complex(nan, -inf)}}}},
		{"engine 2\nsum 2\nseen 9 1\n0000000000000001 8000000000000000\ngain -3 5\nseen 9 0\n", []string{"sum 2", "gain -3 5"}, []impl.Hold{{Seen: 9, Held: []complex128{complex(least, minus0)}}, {Seen: 9}}},
		{"engine 1\nfilter 1 -2 3\nseen 5 2\n" + one + "7ff0000000000000 nan\n", []string{"filter 1 -2 3"}, []impl.Hold{{Seen: 5, Held: []complex128{1, complex(inf, nan)}}}},
		{"engine 3\nkeep 64\nseen 65 0\nmirror\nseen 2 0\nflip 2\nseen 2 0\n", []string{"keep 64", "mirror", "flip 2"}, []impl.Hold{{Seen: 65}, {Seen: 2}, {Seen: 2}}},
		{"engine 1\nsum 1\nseen 12 0\n", []string{"sum 1"}, []impl.Hold{{Seen: 12}}},
	} {
		e := impl.Engine{Plan: planFrom(t, each.texts...), Holds: each.holds}
		want(t, fmt.Sprint("EngineText ", each.holds), impl.EngineText(e), each.text)
		wantEngine(t, fmt.Sprintf("ReadEngine %q", each.text), wantRead(t, each.text), e)
	}
}

func TestPromise18TextsOfManyEngines(t *testing.T) {
	for _, e := range someEngines(t) {
		var texts []string
		for _, s := range e.Plan.Steps {
			texts = append(texts, impl.StepText(s))
		}
		text := toldText(texts, e.Holds)
		want(t, "EngineText", impl.EngineText(e), text)
		wantEngine(t, fmt.Sprintf("ReadEngine %q", text), wantRead(t, text), e)
	}
}

// TestPromise18TextsOfAnyNumbers holds numbers of every kind.
func TestPromise18TextsOfAnyNumbers(t *testing.T) {
	for held := range slices.Chunk(anyNumbers(), 300) {
		for _, text := range []string{"delay 300", "sum 16", "filter 1 2 3 4 5 6 7 8", "block 16", "back 15"} {
			count := int64(len(held))
			held := held[:toldHeld(text, count)]
			e := impl.Engine{Plan: planFrom(t, text), Holds: []impl.Hold{{Seen: count, Held: held}}}
			want(t, text+": EngineText", impl.EngineText(e), toldText([]string{text}, e.Holds))
			wantEngine(t, text+": ReadEngine", wantRead(t, impl.EngineText(e)), e)
		}
	}
}

// textsOfNoEngine are those that are nearly the text of an engine.
func textsOfNoEngine() []string {
	const one = "3ff0000000000000 0000000000000000\n"
	texts := []string{
		"", "\n", "engine", "engine\n", "engine \n", "engine 0", "engine  0\n", "engine 0 \n", " engine 0\n", "engine 00\n", "engine +0\n", "engine -0\n", "engine 1\n", "engine -1\n", "engine 0\n\n", "\nengine 0\n", "engine 0\r\n", "engine\t0\n", "Engine 0\n", "ENGINE 0\n", "engines 0\n", "engine 0 0\n", "engine x\n", "engine 0x0\n", "engine 0\x00\n", "engine 0\nengine 0\n", "engine 0\n" + one, "engine 0\nseen 0 0\n", "engine 0\nnarrow\n", "engine 0\nnarrow\nseen 0 0\n", "0\n", "narrow\nseen 0 0\n", one,
		"engine 1\nnarrow\n", "engine 1\nseen 0 0\n", "engine 1\nseen 0 0\nnarrow\n", "engine 2\nnarrow\nseen 0 0\n", "engine 0\nnarrow\nseen 0 0\n", "engine 01\nnarrow\nseen 0 0\n", "engine +1\nnarrow\nseen 0 0\n", "engine 18446744073709551617\nnarrow\nseen 0 0\n", "engine 1000000000000000000\nnarrow\nseen 0 0\n", "engine 9999999999999999999\nnarrow\nseen 0 0\n", "narrow\nseen 0 0\nengine 1\n", "engine 1\nnarrow\nseen 0 0\nnarrow\n", "engine 2\nnarrow\nnarrow\nseen 0 0\nseen 0 0\n", "engine 2\nnarrow\nseen 0 0\nseen 0 0\nnarrow\n", "engine 2\nnarrow\nseen 0 0\nnarrow\nseen 1 0\n", "engine 2\nnarrow\nseen 1 0\nnarrow\nseen 0 0\n",
		"engine 1\nnarrow\nseen 0\n", "engine 1\nnarrow\nseen\n", "engine 1\nnarrow\nseen \n", "engine 1\nnarrow\nseen  0\n", "engine 1\nnarrow\nseen 0 \n", "engine 1\nnarrow\nseen 0 0", "engine 1\nnarrow\nseen 0 0 \n", "engine 1\nnarrow\nseen 0  0\n", "engine 1\nnarrow\n seen 0 0\n", "engine 1\nnarrow\nseen 0 0 0\n", "engine 1\nnarrow\nseen 00 0\n", "engine 1\nnarrow\nseen 0 00\n", "engine 1\nnarrow\nseen +0 0\n", "engine 1\nnarrow\nseen 0 +0\n", "engine 1\nnarrow\nseen -0 0\n", "engine 1\nnarrow\nseen 0 -0\n", "engine 1\nnarrow\nseen -1 0\n", "engine 1\nnarrow\nseen 0 -1\n", "engine 1\nnarrow\nseen 01 0\n", "engine 1\nnarrow\nseen 1 1\n", "engine 1\nnarrow\nSeen 0 0\n", "engine 1\nnarrow\nseens 0 0\n", "engine 1\nnarrow\nseen x 0\n", "engine 1\nnarrow\nseen 0 x\n", "engine 1\nnarrow\nseen\t0 0\n", "engine 1\nnarrow\nseen 0\t0\n", "engine 1\nnarrow\nseen 1.0 0\n", "engine 1\nnarrow\nseen 1e3 0\n", "engine 1\nnarrow\nseen 0x1 0\n", "engine 1\nnarrow\nseen 1_0 0\n", "engine 1\nnarrow\nseen 0\n0\n",
		"engine 1\nnarrow\nseen 1000000000000001 0\n", "engine 1\nnarrow\nseen 999999999999999999 0\n", "engine 1\nnarrow\nseen 1000000000000000000 0\n", "engine 1\nnarrow\nseen 0000000000000000001 0\n", "engine 1\nnarrow\nseen 18446744073709551616 0\n", "engine 1\nnarrow\nseen 18446744073709551617 0\n", "engine 1\nnarrow\nseen 9223372036854775808 0\n", "engine 1\nnarrow\nseen 0 18446744073709551616\n", "engine 1\nnarrow\nseen " + strings.Repeat("9", 400) + " 0\n",
		"engine 1\n narrow\nseen 0 0\n", "engine 1\nnarrow \nseen 0 0\n", "engine 1\nNarrow\nseen 0 0\n", "engine 1\n\nnarrow\nseen 0 0\n", "engine 1\nnarrow\n\nseen 0 0\n", "engine 1\nnarrow\nseen 0 0\n\n", "engine 1\nnarrow\nseen 0 0\n ", "engine 1\nnarrow\nseen 0 0\nx", "engine 1\nnarrow\r\nseen 0 0\r\n", "engine 1\nnarrow seen 0 0\n", "engine 1 narrow\nseen 0 0\n", "engine 1\nnarrow 1\nseen 0 0\n", "engine 1\ndelay 301\nseen 0 0\n", "engine 1\ndelay\nseen 0 0\n", "engine 1\nnone\nseen 0 0\n", "engine 1\nfilter\nseen 0 0\n",
		"engine 1\nnarrow\nseen 1 1\n" + one, "engine 1\nnarrow\nseen 1 0\n" + one, "engine 1\nkeep 3\nseen 2 2\n" + one + one, "engine 1\ndelay 0\nseen 1 1\n" + one, "engine 1\nsum 1\nseen 1 1\n" + one, "engine 1\nblock 1\nseen 1 1\n" + one,
	}
	for _, held := range []string{
		"", one + one, one + one + one, "3ff0000000000000 0000000000000000", "3ff0000000000000  0000000000000000\n", " " + one, "3ff0000000000000 0000000000000000 \n", "3FF0000000000000 0000000000000000\n", "3ff000000000000 0000000000000000\n", "3ff00000000000000 0000000000000000\n", "3ff0000000000000\n", "3ff0000000000000 0000000000000000 0000000000000000\n", "3ff0000000000000,0000000000000000\n", "3f800000 00000000\n", "7ff8000000000000 0000000000000000\n", "fff8000000000001 0000000000000000\n", "NaN 0000000000000000\n", "nan\n", "nan  nan\n", "1 0\n", "1\n", "\n" + one, one + "\n", one + "narrow\n", "nan nan\r\n", "\n", "nan\nnan\n", "3ff0000000000000\n0000000000000000\n",
	} {
		texts = append(texts, "engine 1\ndelay 1\nseen 5 1\n"+held)
	}
	for _, line := range []string{"seen 5 0", "seen 5 2", "seen 0 1", "seen 5", "seen 05 1", "seen 5 01", "seen 5 +1", "seen 5 1 ", "seen  5 1", "seen -5 1", "seen 5 -1", "seen 5 18446744073709551617"} {
		texts = append(texts, "engine 1\ndelay 1\n"+line+"\n"+one, "engine 2\ndelay 1\n"+line+"\n"+one+"mirror\nseen 5 0\n")
	}
	return append(texts,
		one+"engine 1\ndelay 1\nseen 5 1\n", "engine 1\n"+one+"delay 1\nseen 5 1\n", "engine 1\ndelay 1\n"+one+"seen 5 1\n", "engine 2\ndelay 1\nseen 5 1\nmirror\n"+one+"seen 5 0\n", "engine 2\ndelay 1\nseen 5 1\nmirror\nseen 5 0\n"+one, "engine 2\ndelay 1\nmirror\nseen 5 1\n"+one+"seen 5 0\n",
		"engine 1\nblock 3\nseen 5 1\n"+one, "engine 1\nblock 3\nseen 6 3\n"+one+one+one, "engine 1\nsum 3\nseen 1 2\n"+one+one, "engine 1\nfilter 1 2\nseen 1 0\n",
		"engine 9\n"+strings.Repeat("mirror\nseen 0 0\n", 9), "engine 8\n"+strings.Repeat("mirror\nseen 0 0\n", 9), "engine 8\n"+strings.Repeat("mirror\nseen 0 0\n", 7),
	)
}

func TestPromise18TextsOfNoEngine(t *testing.T) {
	for _, text := range textsOfNoEngine() {
		e, code := impl.ReadEngine(text)
		wantNoEngine(t, fmt.Sprintf("ReadEngine %q", text), e, code, impl.ErrSyntax)
	}
}

// TestPromise18TextsWithFaults changes one byte, or one line, of texts of engines.
func TestPromise18TextsWithFaults(t *testing.T) {
	d := &draws{state: 51}
	bytes := "0123456789abcdefn seengik +-\n\t\x00\xff"
	for i, e := range someEngines(t) {
		text := impl.EngineText(e)
		if i%3 != 0 || len(text) == 0 {
			continue
		}
		for range 40 {
			at := d.next(int64(len(text)))
			with := string(bytes[d.next(int64(len(bytes)))])
			wantReadOnlyIfWritten(t, text[:at]+with+text[at+1:])
			wantReadOnlyIfWritten(t, text[:at]+with+text[at:])
			wantReadOnlyIfWritten(t, text[:at]+text[at+1:])
			wantReadOnlyIfWritten(t, text[:at])
		}
		lines := slices.Collect(strings.Lines(text))
		for k, line := range lines {
			for _, instead := range [][]string{nil, {line, line}, {"\n"}, {line, "\n"}, {" " + line}, {strings.TrimSuffix(line, "\n")}, {"nan nan\n", line}, {line, "seen 0 0\n"}, {"mirror\n"}} {
				wantReadOnlyIfWritten(t, strings.Join(slices.Concat(lines[:k], instead, lines[k+1:]), ""))
			}
		}
	}
}

// wantReadOnlyIfWritten asks that what is read has the text of which it is read.
func wantReadOnlyIfWritten(t *testing.T, text string) {
	t.Helper()
	e, code := impl.ReadEngine(text)
	if code == impl.OK {
		want(t, fmt.Sprintf("ReadEngine %q", text), impl.EngineText(e), text)
		want(t, fmt.Sprintf("ReadEngine %q: valid", text), impl.ValidEngine(e), true)
		return
	}
	wantNoEngine(t, fmt.Sprintf("ReadEngine %q", text), e, code, impl.ErrSyntax)
}

// TestPromise18LongTextsOfEngines has no engine of MaxEngineText bytes, as the
// longest text of one is shorter; so a long text is told by its error alone.
func TestPromise18LongTextsOfEngines(t *testing.T) {
	const most = 400000
	for _, line := range []string{"narrow\n", "x", "\n", " ", "seen 0 0\n", "nan nan\n", "\x00"} {
		text := strings.Repeat(line, most/len(line)+2)
		for length, expected := range map[int]int64{most - 1: impl.ErrSyntax, most: impl.ErrSyntax, most + 1: impl.ErrRange, most + 2: impl.ErrRange} {
			if length > len(text) {
				continue
			}
			e, code := impl.ReadEngine(text[:length])
			wantNoEngine(t, fmt.Sprintf("ReadEngine of %d bytes of %q", length, line), e, code, expected)
		}
	}
	for zeros, expected := range map[int]int64{most - 8: impl.ErrSyntax, most - 7: impl.ErrRange} {
		e, code := impl.ReadEngine("engine " + strings.Repeat("0", zeros) + "\n")
		wantNoEngine(t, "ReadEngine of zeros", e, code, expected)
	}
	texts := slices.Repeat([]string{"delay 300"}, 8)
	holds := slices.Repeat([]impl.Hold{{Seen: 1000000000000000, Held: make([]complex128, 300)}}, 8)
	text := toldText(texts, holds)
	want(t, "a long text is shorter than that", len(text) < most, true)
	wantEngine(t, "ReadEngine of a long text", wantRead(t, text), impl.Engine{Plan: planFrom(t, texts...), Holds: holds})
}

// TestPromise18EnginesRunOnBehindTheirTexts writes and reads an engine ahead of
// each block.
func TestPromise18EnginesRunOnBehindTheirTexts(t *testing.T) {
	d := &draws{state: 52}
	for _, texts := range append(bothDrawn(60), plansToCut()...) {
		for _, x := range [][]complex128{ruledSignal(64), oddChainSignal()} {
			if !isShort(texts, int64(len(x))) {
				continue
			}
			way := toldWayOf(t, texts, x)
			e, count := startOf(t, texts...), int64(0)
			for _, block := range drawnCut(d, x) {
				expected, expectedCode := way.madeOf(count, count+int64(len(block)))
				again, made, code := impl.PushInto(wantRead(t, impl.EngineText(e)), block)
				want(t, "PushInto what was read: code", code, expectedCode)
				if code != impl.OK {
					break
				}
				wantSignal(t, fmt.Sprint("PushInto what was read: ", texts), made, code, expected...)
				count += int64(len(block))
				wantEngine(t, fmt.Sprint("PushInto what was read: ", texts), again, way.engineAt(count))
				e = again
			}
		}
	}
}
