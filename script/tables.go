package script

import "braid/api"

// Letters for the fields of a step, by which a row says what its words are.
const (
	inSide = 's'
	inPath = 'p'
	inN    = 'n'
	inAt   = 't'
	inMask = 'm'
	inOn   = 'f'
	inData = 'd'
)

// row is a step's line: its word, and a letter for each word behind it.
type row struct{ word, fields string }

// steps has a row for each Kind.
var steps = [api.NumSteps]row{
	api.StepWrite:   {"write", "sd"},
	api.StepRead:    {"read", "sn"},
	api.StepClose:   {"close", "s"},
	api.StepAbort:   {"abort", "s"},
	api.StepTick:    {"tick", "sn"},
	api.StepDeliver: {"deliver", "spn"},
	api.StepDrop:    {"drop", "spn"},
	api.StepDouble:  {"double", "spn"},
	api.StepSpoil:   {"spoil", "spntm"},
	api.StepDown:    {"down", "p"},
	api.StepUp:      {"up", "p"},
	api.StepFlush:   {"flush", "p"},
	api.StepJoin:    {"join", "spf"},
	api.StepPrio:    {"prio", "spf"},
	api.StepLeave:   {"leave", "sp"},
}

// number is a line of the configuration with one int, and what holds without it.
type number struct {
	word    string
	without int
}

// numbers stand in Print's order.
var numbers = [...]number{
	{"paths", 1},
	{"mss", 100},
	{"send", 1000},
	{"recv", 1000},
	{"gaps", 8},
	{"retries", 3},
	{"bag", 4096},
}

// The other lines of the configuration.
const (
	wordSched   = "sched"
	wordWeights = "weights"
	wordKey     = "key"
	wordBase    = "base"
	wordPick    = "pick"
)

// The words of the values that are told by a word: where one stands is its value.

func sides() []string { return []string{"a", "b"} }

func flags() []string { return []string{"off", "on"} }

func schedulers() []string {
	return []string{"minrtt", "roundrobin", "redundant", "blest", "replay", "single"}
}

// numberFields has the fields of which numbers tells, in its order.
func numberFields(c *api.Config) [len(numbers)]*int {
	return [...]*int{&c.Paths, &c.Mss, &c.SendBuf, &c.RecvBuf, &c.Gaps, &c.Retries, &c.Bag}
}

// withoutLines is the configuration of the empty text.
func withoutLines() api.Config {
	c := api.Config{Sched: api.MinRtt, Keys: [2]uint64{1, 2}}
	for i, field := range numberFields(&c) {
		*field = numbers[i].without
	}
	return c
}

// command is what a line's first word asks for.
type command struct {
	kind  int  // of a step; 0: a line of the configuration
	words int  // that its line has
	more  bool // or more than that
}

// commands has all of both tables by their first words.
func commands() map[string]command {
	m := map[string]command{
		wordSched:   {words: 2},
		wordWeights: {words: 2, more: true},
		wordKey:     {words: 3},
		wordBase:    {words: 3},
		wordPick:    {words: 5},
	}
	for _, n := range numbers {
		m[n.word] = command{words: 2}
	}
	for kind := 1; kind < api.NumSteps; kind++ {
		m[steps[kind].word] = command{kind: kind, words: 1 + len(steps[kind].fields)}
	}
	return m
}
