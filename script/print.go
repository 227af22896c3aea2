package script

import (
	"strconv"
	"strings"

	"braid/api"
)

// printLine writes words with one blank between.
func printLine(b *strings.Builder, words ...string) {
	b.WriteString(strings.Join(words, " "))
	b.WriteByte('\n')
}

func printConfig(b *strings.Builder, c api.Config) {
	for i, field := range numberFields(&c) {
		printLine(b, numbers[i].word, strconv.Itoa(*field))
	}
	printLine(b, wordSched, schedulers()[c.Sched])
	printWeights(b, c.Weights)
	for side, key := range c.Keys {
		printLine(b, wordKey, sides()[side], long(key))
	}
	for side, base := range c.Base {
		printLine(b, wordBase, sides()[side], long(base))
	}
	for side, picks := range c.Picks {
		for _, p := range picks {
			printLine(b, wordPick, sides()[side], strconv.Itoa(p.Path), long(p.Off), strconv.Itoa(p.Len))
		}
	}
}

func printWeights(b *strings.Builder, weights []int) {
	if len(weights) == 0 {
		return
	}
	words := []string{wordWeights}
	for _, w := range weights {
		words = append(words, strconv.Itoa(w))
	}
	printLine(b, words...)
}

func printStep(b *strings.Builder, s api.Step) {
	words := []string{steps[s.Kind].word}
	for _, field := range steps[s.Kind].fields {
		words = append(words, fieldText(s, field))
	}
	printLine(b, words...)
}

func fieldText(s api.Step, field rune) string {
	switch field {
	case inSide:
		return sides()[s.Side]
	case inPath:
		return strconv.Itoa(s.Path)
	case inN:
		return strconv.Itoa(s.N)
	case inAt:
		return strconv.Itoa(s.At)
	case inMask:
		return strconv.Itoa(int(s.Mask))
	case inOn:
		return flagText(s.On)
	}
	return quoted(s.Data)
}

func flagText(on bool) string {
	if on {
		return flags()[1]
	}
	return flags()[0]
}

func long(n uint64) string { return strconv.FormatUint(n, 10) }

// quoted writes each byte in its one form.
func quoted(data []byte) string {
	const digits = "0123456789abcdef"
	b := make([]byte, 0, len(data)+2)
	b = append(b, '"')
	for _, x := range data {
		switch {
		case x == '"' || x == '\\':
			b = append(b, '\\', x)
		case standsForItself(rune(x)):
			b = append(b, x)
		default:
			b = append(b, '\\', 'x', digits[x>>4], digits[x&15])
		}
	}
	return string(append(b, '"'))
}
