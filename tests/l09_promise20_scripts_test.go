package tests

import (
	"fmt"
	"slices"
	"strings"
	"testing"

	"loop.example/g01155/impl"
)

// toldAnswer is what a script answers to a line.
func (h *toldHouse) toldAnswer(line string) string {
	if _, code := impl.ReadDeed(line); code == impl.OK {
		return toldOr(h.do(line), "ok")
	}
	for room := range h.studio.Rooms {
		switch line {
		case fmt.Sprint("records ", room):
			return fmt.Sprint(len(h.rooms[room]), " ", h.synced[room])
		case fmt.Sprint("check ", room):
			sum := uint64(0)
			for _, record := range h.rooms[room] {
				sum += toldCheck(record)
			}
			return fmt.Sprint(sum)
		}
		for take := range int64(len(h.studio.Takes)) {
			if line == fmt.Sprint("take ", room, " ", take) {
				text, code := h.takeText(room, take)
				return toldOr(code, text)
			}
		}
	}
	return "what"
}

func toldOr(code int64, text string) string {
	switch code {
	case impl.ErrRange:
		return "error range"
	case impl.ErrLimit:
		return "error limit"
	case impl.ErrNotFound:
		return "error notfound"
	}
	return text
}

// wantScript runs lines, with and without a newline at the end.
func wantScript(t *testing.T, s impl.Studio, lines ...string) {
	t.Helper()
	told := toldHouseOf(s)
	expected := ""
	for _, line := range lines {
		expected += told.toldAnswer(line) + "\n"
	}
	wantAnswers(t, s, linesOf(lines), expected)
	// An empty line at the end is there only with its newline.
	if len(lines) > 0 && lines[len(lines)-1] != "" {
		wantAnswers(t, s, strings.Join(lines, "\n"), expected)
	}
}

func wantAnswers(t *testing.T, s impl.Studio, text, expected string) {
	t.Helper()
	got, code := impl.RunScript(s, text)
	want(t, fmt.Sprintf("RunScript %q", text), got, expected)
	want(t, fmt.Sprintf("RunScript %q: code", text), code, impl.OK)
}

func TestPromise20ShortScripts(t *testing.T) {
	s := twoTakes()
	wantAnswers(t, s, "", "")
	wantAnswers(t, s, "\n", "what\n")
	wantAnswers(t, s, "\n\n", "what\nwhat\n")
	wantAnswers(t, s, "sync 0", "ok\n")
	wantAnswers(t, s, "sync 0\n", "ok\n")
	wantAnswers(t, s, "sync 0\n\n", "ok\nwhat\n")
	wantAnswers(t, s, "\nsync 0", "what\nok\n")
	wantAnswers(t, s, "sync 3\nsync 9", "error range\nerror range\n")
	wantAnswers(t, s, "records 0", "0 0\n")
	wantAnswers(t, s, "check 0", "0\n")
	wantAnswers(t, s, "take 0 0", "error notfound\n")
	wantAnswers(t, s, "take 0 2", "\n")
	wantAnswers(t, s, "take 0 2\n", "\n")
	wantAnswers(t, s, "take 0 3", "what\n")
	wantAnswers(t, s, "send 0 1 0\ndeliver 0\nrecords 0\ntake 0 1\nsync 0\nrecords 0\ncrash 0\nrecords 0\n", "ok\nok\n1 0\n3dcccccd 7f800000 40000000 00000000\nok\n1 1\nok\n1 1\n")
	wantAnswers(t, s, "send 0 0 1\ncopy 0\nsend 0 0 0\ntake 0 0\ndeliver 1\ntake 0 0\ncrash 0\nrecords 0\ntake 0 0", "ok\nok\nok\nerror notfound\nok\n3fb999999999999a 0000000000000000 nan 8000000000000000 7ff0000000000000 4008000000000000\nok\n0 0\nerror notfound\n")
	wantAnswers(t, exampleStudio(), "send 0 0 0\ndeliver 0\ncheck 0\nsend 0 1 0\ndeliver 0\ncheck 0\n", fmt.Sprintf("ok\nok\n%d\nok\nok\n%d\n", toldCheck("wide 0 0 "+wideOne), toldCheck("wide 0 0 "+wideOne)+toldCheck("narrow 1 0 "+narrowOne)))
	wantAnswers(t, studioOf(1), "take 0 0\nrecords 0\nrecords 1\ncheck 0\ncheck 1", "what\n0 0\nwhat\n0\nwhat\n")
}

// linesOfNoKind are nearly those that a script answers to.
func linesOfNoKind() []string {
	lines := append(textsOfNoDeed(), "", " ", "what", "ok", "error", "error range", "records", "records ", "take", "take ", "take 0", "take 0 ", "check", "check ", "record 0", "takes 0 0", "checks 0", "0", "0 0", "missing 0", "finish", "house", "refused")
	for _, right := range []string{"records 0", "check 1", "take 0 1", "take 2 0"} {
		lines = append(lines, " "+right, right+" ", right+" 0", right+" 1", right+"\r", right+"\t", right+"\x00", strings.ToUpper(right), strings.ToUpper(right[:1])+right[1:], strings.ReplaceAll(right, " ", "  "), strings.ReplaceAll(right, " ", "\t"), strings.ReplaceAll(right, " ", ""), strings.ReplaceAll(right, " ", ","), right[1:], "\ufeff"+right)
	}
	for _, number := range []string{"", "00", "01", "+0", "-0", "-1", "+1", "3", "4", "9", "999", "1000", "0x0", "0.0", "0e0", "x", "nan", "０", "18446744073709551616", strings.Repeat("0", 100), strings.Repeat("9", 100)} {
		lines = append(lines, "records "+number, "check "+number, "take "+number+" 0", "take 0 "+number, "take "+number+" "+number)
	}
	return slices.DeleteFunc(lines, func(line string) bool {
		isRight := slices.Contains([]string{"records 0", "check 0", "take 0 0"}, line)
		return isRight || strings.Contains(line, "\n") || len(line) > 1000
	})
}

// TestPromise20LinesOfNoKind asks, ahead of lines that are none and behind them.
func TestPromise20LinesOfNoKind(t *testing.T) {
	s := twoTakes()
	for _, line := range linesOfNoKind() {
		wantAnswers(t, s, line+"\n", "what\n")
		wantAnswers(t, s, "send 0 1 0\n"+line+"\ndeliver 0\n"+line+"\nrecords 0", "ok\nwhat\nok\nwhat\n1 0\n")
	}
	want(t, "lines", len(linesOfNoKind()) > 250, true)
}

// TestPromise20AnswersTellTheSame holds the answers against the functions of deeds.
func TestPromise20AnswersTellTheSame(t *testing.T) {
	d := &draws{state: 99}
	for _, s := range append(validStudios(), drawnStudio(d), drawnStudio(d), drawnStudio(d), twoTakes()) {
		texts := drawnDeeds(d, s, 100)
		for count := range len(texts) / 4 {
			some := texts[:4*count]
			deeds := deedsFrom(t, some...)
			h, _, _ := impl.HouseAfter(s, deeds)
			for room := range s.Rooms {
				wantAsked(t, s, some, deeds, room, h.Rooms[room])
			}
			answers, _ := impl.RunScript(s, linesOf(some))
			lines := strings.Split(strings.TrimSuffix(answers, "\n"), "\n")
			if at, bad, code := impl.RefusedDeed(s, deeds); code == impl.OK {
				want(t, "the answer to the first deed that is left out", lines[at], "error "+impl.CodeName(bad))
				want(t, "the answers ahead of it", strings.Count(linesOf(lines[:at]), "ok\n"), int(at))
			} else {
				want(t, "all answers", strings.Count(answers, "ok\n"), len(some))
			}
		}
	}
}

// wantAsked asks all about a room behind deeds.
func wantAsked(t *testing.T, s impl.Studio, texts []string, deeds []impl.Deed, room int64, has impl.Room) {
	t.Helper()
	lines := append(slices.Clone(texts), fmt.Sprint("records ", room), fmt.Sprint("check ", room))
	sum := uint64(0)
	for _, r := range has.Records {
		check, _ := impl.CheckOf(r)
		sum += check
	}
	expected := fmt.Sprintln(len(has.Records), has.Synced) + fmt.Sprintln(sum)
	for take, each := range s.Takes {
		lines = append(lines, fmt.Sprint("take ", room, " ", take))
		line := takeLine(s, deeds, room, int64(take), each.Narrow)
		if line == "notfound" {
			line = "error notfound"
		}
		expected += line + "\n"
	}
	answers, code := impl.RunScript(s, linesOf(lines))
	want(t, "RunScript: code", code, impl.OK)
	behind := strings.SplitAfterN(answers, "\n", len(texts)+1)
	want(t, "RunScript: answers", behind[len(texts)], expected)
}

// drawnLine is a deed, or a question.
func drawnLine(d *draws, s impl.Studio) string {
	if d.next(3) > 0 {
		return drawnDeed(d, s)
	}
	word, room, take := []string{"records", "take", "check"}[d.next(3)], d.next(4), d.next(5)
	if word == "take" {
		return fmt.Sprint("take ", room, " ", take)
	}
	return fmt.Sprint(word, " ", room)
}

func TestPromise20ManyScripts(t *testing.T) {
	d := &draws{state: 100}
	odd := linesOfNoKind()
	for _, s := range append(validStudios(), twoTakes()) {
		for range 40 {
			var lines []string
			for range d.next(121) {
				lines = append(lines, drawnLine(d, s))
				if d.next(9) == 0 {
					lines = append(lines, odd[d.next(int64(len(odd)))])
				}
			}
			wantScript(t, s, lines[:min(len(lines), 120)]...)
		}
	}
}

// TestPromise20BitsOfScripts holds answers against a program outside of this one.
func TestPromise20BitsOfScripts(t *testing.T) {
	d := &draws{state: 93}
	hash := hashOf(func(yield func(string) bool) {
		for range 1500 {
			s := drawnStudio(d)
			var lines []string
			for range d.next(121) {
				lines = append(lines, drawnLine(d, s))
			}
			answers, _ := impl.RunScript(s, linesOf(lines))
			for line := range strings.Lines(answers) {
				if !yield(strings.TrimSuffix(line, "\n")) {
					return
				}
			}
		}
	})
	want(t, "hash of answers", hash, 0x1a013bbd42976f8f)
}

// TestPromise20LongScripts has just MaxScriptLines lines or MaxScriptText bytes,
// and one more.
func TestPromise20LongScripts(t *testing.T) {
	s := twoTakes()
	for _, line := range []string{"sync 0", "x", "", "records 1"} {
		lines := slices.Repeat([]string{line}, 120)
		wantScript(t, s, lines...)
		text := linesOf(lines)
		for _, more := range []string{text + "x", text + "\n", text + "sync 0", text + "sync 0\n", "\n" + text, text + text} {
			answers, code := impl.RunScript(s, more)
			want(t, "RunScript of one more line", answers, "")
			want(t, "RunScript of one more line: code", code, impl.ErrRange)
		}
	}
	wantScript(t, s, strings.Repeat("x", 20000-1))
	wantAnswers(t, s, strings.Repeat("x", 20000), "what\n")
	wantAnswers(t, s, "sync 0\n"+strings.Repeat("0", 20000-7), "ok\nwhat\n")
	wantAnswers(t, s, strings.Repeat(" ", 19999)+"\n", "what\n")
	for _, text := range []string{strings.Repeat("x", 20001), strings.Repeat("x", 20000) + "\n", "sync 0\n" + strings.Repeat("0", 20000-6), strings.Repeat(" ", 20001), strings.Repeat("\n", 20001), strings.Repeat("\n", 121), strings.Repeat("\n", 20000), strings.Repeat("x\n", 10000), strings.Repeat("x", 900000)} {
		answers, code := impl.RunScript(s, text)
		want(t, "RunScript of a long text", answers, "")
		want(t, "RunScript of a long text: code", code, impl.ErrRange)
	}
}
