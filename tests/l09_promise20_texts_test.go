package tests

import (
	"fmt"
	"strings"
	"testing"

	"loop.example/g01155/impl"
)

// toldDeeds has the word of each kind, and how many numbers stand behind it.
var toldDeeds = []struct {
	kind  int64
	word  string
	count int
}{
	{1, "send", 3}, {2, "pass", 3}, {3, "deliver", 1}, {4, "copy", 1}, {5, "drop", 1}, {6, "spoil", 2}, {7, "sync", 1}, {8, "crash", 1},
}

func deedOf(kind int64, fields [3]int64) impl.Deed {
	return impl.Deed{Kind: kind, A: fields[0], B: fields[1], C: fields[2]}
}

// wantDeed asks for a valid deed with a text.
func wantDeed(t *testing.T, d impl.Deed, text string) {
	t.Helper()
	want(t, "ValidDeed "+text, impl.ValidDeed(d), true)
	want(t, "DeedText", impl.DeedText(d), text)
	read, code := impl.ReadDeed(text)
	want(t, "ReadDeed "+text, read, d)
	want(t, "ReadDeed "+text+": code", code, impl.OK)
	s := exampleStudio()
	_, done, code := impl.HouseAfter(s, []impl.Deed{d})
	want(t, "HouseAfter "+text, [2]int64{done, code}, [2]int64{btoi(toldHouseOf(s).do(text) == impl.OK), impl.OK})
}

func btoi(is bool) int64 {
	if is {
		return 1
	}
	return 0
}

// wantInvalidDeed asks all functions of deeds, also where there are other errors.
func wantInvalidDeed(t *testing.T, d impl.Deed) {
	t.Helper()
	want(t, fmt.Sprint("ValidDeed ", d), impl.ValidDeed(d), false)
	want(t, fmt.Sprint("DeedText ", d), impl.DeedText(d), "")
	good := impl.Deed{Kind: impl.DdSync}
	many := make([]impl.Deed, 301)
	for i := range many {
		many[i] = good
	}
	many[300] = d
	for _, deeds := range [][]impl.Deed{{d}, {good, d}, {d, good}, many} {
		wantDeedErrors(t, exampleStudio(), deeds, 0, 0, impl.ErrInvalid, impl.ErrInvalid, impl.ErrInvalid)
		wantDeedErrors(t, exampleStudio(), deeds, 9, -1, impl.ErrInvalid, impl.ErrInvalid, impl.ErrInvalid)
	}
}

// TestPromise20ValidDeeds has each kind at the least and the greatest numbers, at
// those beyond, and with fields that its text does not mention.
func TestPromise20ValidDeeds(t *testing.T) {
	for _, each := range toldDeeds {
		for _, n := range []int64{0, 1, 500, 999} {
			for _, k := range []int64{0, 7, 999} {
				fields := [3]int64{n, k, n}
				text := each.word
				for i := range fields {
					if i >= each.count {
						fields[i] = 0
					} else {
						text += fmt.Sprint(" ", fields[i])
					}
				}
				wantDeed(t, deedOf(each.kind, fields), text)
			}
		}
		for place := range 3 {
			for _, n := range append(oddIntegers(), 999, 1000) {
				fields := [3]int64{}
				fields[place] = n
				isValid := n == 0 || place < each.count && n > 0 && n <= 999
				want(t, fmt.Sprint("ValidDeed ", each.word, fields), impl.ValidDeed(deedOf(each.kind, fields)), isValid)
				if !isValid {
					wantInvalidDeed(t, deedOf(each.kind, fields))
				}
			}
		}
	}
	for _, kind := range oddIntegers() {
		if kind < 1 || kind > 8 {
			wantInvalidDeed(t, deedOf(kind, [3]int64{}))
			wantInvalidDeed(t, deedOf(kind, [3]int64{1, 2, 3}))
		}
	}
	wantInvalidDeed(t, impl.Deed{Kind: 9})
}

// textsOfNoDeed are those that are nearly the text of a deed.
func textsOfNoDeed() []string {
	texts := []string{"", " ", "0", "0 0 0", "send", "x", "records 0", "take 0 0", "check 0", "sends 0 0 0", "Send 0 0 0", "\xff 0", "1 0 0 0", "send0 0 0", "send 0,0,0", "send 0 0 0\n", "send 0 0 0\nsync 0", "sync 0\x00"}
	for _, each := range toldDeeds {
		right := each.word + strings.Repeat(" 7", each.count)
		texts = append(texts, each.word, each.word+" ", strings.ToUpper(each.word)+strings.Repeat(" 7", each.count), strings.ToUpper(each.word[:1])+right[1:], each.word[1:]+strings.Repeat(" 7", each.count))
		texts = append(texts, " "+right, right+" ", right+"\n", "\n"+right, right+"\r", right+" 0", right+" 7", strings.TrimSuffix(right, " 7"), strings.ReplaceAll(right, " ", "  "), strings.ReplaceAll(right, " ", "\t"), strings.ReplaceAll(right, " ", ""), strings.Replace(right, " ", "  ", 1))
		for _, number := range []string{"", "00", "07", "+7", "-7", "-0", "+0", "1000", "0999", "9999", "7.0", "1e1", "0x1", "1_0", "x", "nan", " 7", "７", "18446744073709551616", "18446744073709551623", strings.Repeat("9", 400)} {
			for place := range each.count {
				words := strings.Split(right, " ")
				words[1+place] = number
				texts = append(texts, strings.Join(words, " "))
			}
		}
	}
	return texts
}

func TestPromise20TextsOfNoDeed(t *testing.T) {
	for _, text := range textsOfNoDeed() {
		d, code := impl.ReadDeed(text)
		want(t, fmt.Sprintf("ReadDeed %q", text), d, impl.Deed{})
		want(t, fmt.Sprintf("ReadDeed %q: code", text), code, impl.ErrSyntax)
	}
	for _, text := range []string{strings.Repeat(" ", 100000), strings.Repeat("7 ", 100000), "send" + strings.Repeat(" 7", 100000), strings.Repeat("x", 100000)} {
		d, code := impl.ReadDeed(text)
		want(t, "ReadDeed of a long text", d, impl.Deed{})
		want(t, "ReadDeed of a long text: code", code, impl.ErrSyntax)
	}
}

// TestPromise20TextsWithFaults changes one byte of texts of deeds: what is read
// has the text of which it is read.
func TestPromise20TextsWithFaults(t *testing.T) {
	d := &draws{state: 96}
	bytes := "0123456789 senduyopc+-\n\t\x00\xff"
	read := 0
	for range 4000 {
		text := drawnDeed(d, validStudios()[8])
		at := d.next(int64(len(text)))
		with := string(bytes[d.next(int64(len(bytes)))])
		for _, other := range []string{text, text[:at] + with + text[at+1:], text[:at] + with + text[at:], text[:at] + text[at+1:], text[:at]} {
			deed, code := impl.ReadDeed(other)
			if code == impl.OK {
				want(t, "DeedText of what was read", impl.DeedText(deed), other)
				read++
				continue
			}
			want(t, fmt.Sprintf("ReadDeed %q", other), deed, impl.Deed{})
			want(t, fmt.Sprintf("ReadDeed %q: code", other), code, impl.ErrSyntax)
		}
	}
	want(t, "some are texts of deeds", read > 4500, true)
}
