package harness

import (
	"errors"
	"strconv"
	"strings"

	"braid/api"
	"braid/script"
)

// Play plays a script's text, and tells what came of it.
func Play(text string) string {
	s, err := script.Parse(text)
	var broken *api.LineError
	if errors.As(err, &broken) {
		return "line " + strconv.Itoa(broken.Line) + ": " + number(broken.Err) + "\n"
	}
	t := newTeller()
	r := Run(s)
	for _, e := range r.Trace {
		t.line(t.entry(e))
	}
	for i, stat := range r.Stats {
		t.line(letter(i) + ": " + numbers(stat))
	}
	t.line("forged " + strconv.Itoa(r.Forged))
	return t.text.String()
}

// teller writes lines.
type teller struct {
	text strings.Builder
	form api.Script // a script without steps, of which the text has no quotation mark
}

func newTeller() *teller {
	form, _ := script.Parse("") // the empty text is one that Parse takes
	return &teller{form: form}
}

func (t *teller) line(words string) {
	t.text.WriteString(words)
	t.text.WriteByte('\n')
}

func (t *teller) entry(e api.Entry) string {
	head := letter(e.Side) + " " + verb(e.Op)
	switch {
	case e.Err != api.OK:
		return head + ": " + number(e.Err)
	case e.Op == api.StepWrite:
		return head + " " + strconv.Itoa(e.N) + " of " + strconv.Itoa(len(e.Data))
	case e.Op == api.StepRead && e.End:
		return head + " " + t.quoted(e.Data) + " end"
	case e.Op == api.StepRead:
		return head + " " + t.quoted(e.Data)
	}
	return head
}

// quoted is bytes as script.Print writes them, which alone knows how: it is asked for a script that writes them.
func (t *teller) quoted(b []byte) string {
	s := t.form
	s.Steps = []api.Step{{Kind: api.StepWrite, Data: b}}
	text := script.Print(s)
	return strings.TrimSuffix(text[strings.IndexByte(text, '"'):], "\n")
}

func letter(side int) string {
	if side == api.SideA {
		return "A"
	}
	return "B"
}

func verb(op int) string {
	switch op {
	case api.StepWrite:
		return "write"
	case api.StepRead:
		return "read"
	case api.StepClose:
		return "close"
	}
	return "abort"
}

func number(e api.Errno) string { return "error " + strconv.Itoa(int(e)) }

// numbers is what a side's line tells.
func numbers(s api.Stat) string {
	long := func(n uint64) string { return strconv.FormatUint(n, 10) }
	return strings.Join([]string{
		"clock", long(s.Clock), "acked", long(s.Acked), "high", long(s.High), "end", long(s.End),
		"edge", long(s.Edge), "next", long(s.Next), "own", long(s.Own), "stored", strconv.Itoa(s.Stored), number(s.Err),
	}, " ")
}
