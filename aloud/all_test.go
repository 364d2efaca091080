package aloud_test

import (
	"math/rand"
	"strings"
	"sync"
	"testing"

	"cloche/aloud"
	"cloche/api"
)

// outcome is all that the package says of two strings and two numbers.
type outcome struct {
	is, apart                      bool
	runs, age, longest             int
	of, said, last, earlier, texts string
	count                          [3]int
	errors                         [10]api.Errno
}

func outcomeOf(word, other string, i, j int) outcome {
	var o outcome
	o.is = aloud.IsWord(word)
	runs, e := aloud.Runs(word)
	for _, run := range runs {
		o.runs = 31*o.runs + 10*run.A + run.B
	}
	o.errors[0] = e
	o.of, o.errors[1] = aloud.Of(runs)
	o.texts, o.errors[2] = aloud.Of([]api.Pair{{A: i, B: j}, {A: j, B: i}})
	o.said, o.errors[3] = aloud.Say(word)
	o.last, o.errors[4] = aloud.Days(word, i)
	o.earlier, o.errors[5] = aloud.Before(word)
	o.age, o.errors[6] = aloud.Age(word)
	o.apart, o.errors[7] = aloud.Apart(word, other, j)
	o.count, o.errors[8] = aloud.Count(word, j)
	o.longest, o.errors[9] = aloud.Longest(word)
	return o
}

// allTexts are words and other strings.
func allTexts() []string {
	texts := append(allWords(2, 4), randomWords(9, 60)...)
	for _, c := range noWords {
		texts = append(texts, c.text)
	}
	texts = append(texts, "22", "9192", strings.Repeat("22", 100), strings.Repeat("9192", 50), strings.Repeat("1", 11))
	r := rand.New(rand.NewSource(10))
	r.Shuffle(len(texts), func(i, j int) { texts[i], texts[j] = texts[j], texts[i] })
	return texts
}

// P1 and P2 of the document: all calls end without a panic, for all arguments,
// and say the same again, alone or beside others.
func TestAllArguments(t *testing.T) {
	texts := allTexts()
	ask := func(k int) outcome {
		a, b := someNumbers[k%len(someNumbers)], someNumbers[k/3%len(someNumbers)]
		return outcomeOf(texts[k], texts[(k+1)%len(texts)], a, b)
	}
	first := make([]outcome, len(texts))
	for k := range texts {
		first[k] = ask(k)
	}
	var group sync.WaitGroup
	for worker := range 4 {
		group.Go(func() {
			for step := range texts {
				k := (step*7 + worker) % len(texts)
				if ask(k) != first[k] {
					t.Errorf("%.20q", texts[k])
				}
			}
		})
	}
	group.Wait()
}
