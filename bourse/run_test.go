package bourse

import (
	"math/rand/v2"
	"runtime"
	"slices"
	"sync"
	"testing"
)

var ringSizes = []int{1, 2, 4, 8, 16}

// wantRun is P11 by the model: one command behind the other, without stages.
func wantRun(commands []Command) ([][]Event, string) {
	m := &model{}
	told := make([][]Event, 4)
	journal := ""
	for _, c := range commands {
		for _, e := range m.do(c) {
			if 0 <= e.Client && e.Client <= 3 {
				told[e.Client] = append(told[e.Client], e)
			}
		}
		if wantFair(c) {
			journal += wantCode(c)
		}
	}
	return told, journal
}

func sameLists(x, y [][]Event) bool {
	return slices.EqualFunc(x, y, func(a, b []Event) bool { return slices.Equal(a, b) })
}

func checkRun(t *testing.T, size int, commands []Command) {
	t.Helper()
	want, wantJournal := wantRun(commands)
	told, journal, err := Run(size, commands)
	if !sameLists(told, want) || journal != wantJournal || err != OK {
		t.Fatalf("P11: Run(%d, %v) = %v, %q, %d, want %v, %q", size, commands, told, journal, err, want, wantJournal)
	}
}

func checkRunAtEachSize(t *testing.T, commands []Command) {
	t.Helper()
	for _, size := range ringSizes {
		checkRun(t, size, commands)
	}
}

func checkRunRefused(t *testing.T, size, count int, want Errno) {
	t.Helper()
	told, journal, err := Run(size, someRun(1, count))
	if len(told) != 0 || journal != "" || err != want {
		t.Errorf("P11: Run(%d, %d commands) = %v, %q, %d, want %d", size, count, told, journal, err, want)
	}
}

// someRun makes count commands, of which most are fair, most trade, and some
// are rejected, for each seed others.
func someRun(seed uint64, count int) []Command {
	r := rand.New(rand.NewPCG(seed, 11))
	m := &model{}
	var commands []Command
	for range count {
		c := someCommandOf(r, m, 6, 12)
		m.do(c)
		commands = append(commands, c)
	}
	return commands
}

func TestRunOfTheDocumentsExamples(t *testing.T) {
	commands := []Command{{1, 0, 1, 2, 10, 5}, {3, 1, 2, 1, 11, 3}, {4, 1, 3, 1, 10, 3}, {5, 1, 1, 0, 0, 0}, {6, 0, 1, 0, 9, 4}}
	want := [][]Event{
		{{1, 0, 1, 0, 0, 0}, {6, 0, 1, 0, 10, 5}, {3, 0, 1, 2, 10, 3}, {1, 0, 1, 0, 0, 0}, {6, 0, 1, 0, 9, 4}},
		{{1, 1, 2, 0, 0, 0}, {3, 1, 2, 1, 10, 3}, {4, 1, 2, 0, 0, 0}, {1, 1, 3, 0, 0, 0}, {5, 1, 3, 0, 0, 3}, {2, 1, 1, 4, 0, 0}},
		{}, {},
	}
	for _, size := range ringSizes {
		told, journal, err := Run(size, commands)
		if !sameLists(told, want) || journal != journalOf(commands) || err != OK {
			t.Errorf("P11: Run(%d, the examples) = %v, %q, %d", size, told, journal, err)
		}
	}
}

func TestRunAtEachSizeAndBesideIt(t *testing.T) {
	sizes := append([]int{}, farNumbers...)
	for size := -40; size <= 140; size++ {
		sizes = append(sizes, size)
	}
	for _, size := range sizes {
		for _, count := range []int{0, 1, 60} {
			if slices.Contains(ringSizes, size) {
				checkRun(t, size, someRun(1, count))
			} else {
				checkRunRefused(t, size, count, ErrArg)
			}
		}
	}
}

func TestRunsOfEachLength(t *testing.T) {
	for count := range 61 {
		checkRunAtEachSize(t, someRun(uint64(count), count))
	}
}

func TestRunsOfNoCommands(t *testing.T) {
	for _, size := range ringSizes {
		for _, commands := range [][]Command{nil, {}} {
			told, journal, err := Run(size, commands)
			if !sameLists(told, make([][]Event, 4)) || journal != "" || err != OK {
				t.Errorf("P11: Run(%d, no commands) = %v, %q, %d", size, told, journal, err)
			}
		}
	}
}

// Too many commands are told ahead of a wrong size (P1).
func TestRunsThatAreTooLong(t *testing.T) {
	for _, count := range []int{61, 62, 64, 120, 256, 316, 5000} {
		for _, size := range append([]int{-1, 0, 1, 2, 3, 4, 8, 15, 16, 17, 32}, farNumbers...) {
			checkRunRefused(t, size, count, ErrLong)
		}
	}
}

func TestRunTellsEachClientItsOwn(t *testing.T) {
	commands := []Command{
		{1, 3, 1, 2, 10, 5}, {1, 2, 2, 2, 10, 5}, {1, 0, 3, 2, 11, 5}, {2, 1, 4, 1, 0, 15},
		{1, 4, 5, 1, 10, 5}, {1, -1, 6, 1, 10, 5}, {9, 2, 7, 1, 10, 5}, {9, 2, -7, 0, 0, 0},
	}
	want := [][]Event{
		{{1, 0, 3, 0, 0, 0}, {6, 0, 3, 0, 11, 5}, {3, 0, 3, 4, 11, 5}, {4, 0, 3, 0, 0, 0}},
		{{1, 1, 4, 0, 0, 0}, {3, 1, 4, 1, 10, 5}, {3, 1, 4, 2, 10, 5}, {3, 1, 4, 3, 11, 5}, {4, 1, 4, 0, 0, 0}},
		{{1, 2, 2, 0, 0, 0}, {6, 2, 2, 0, 10, 5}, {3, 2, 2, 4, 10, 5}, {4, 2, 2, 0, 0, 0}, {2, 2, 7, 2, 0, 0}, {2, 2, -7, 2, 0, 0}},
		{{1, 3, 1, 0, 0, 0}, {6, 3, 1, 0, 10, 5}, {3, 3, 1, 4, 10, 5}, {4, 3, 1, 0, 0, 0}},
	}
	for _, size := range ringSizes {
		told, journal, err := Run(size, commands)
		if !sameLists(told, want) || journal != journalOf(commands[:4]) || err != OK {
			t.Errorf("P11: Run(%d, %v) = %v, %q, %d, want %v", size, commands, told, journal, err, want)
		}
	}
}

func TestRunTellsNobodyOfNumbersThatAreNoClients(t *testing.T) {
	for _, client := range append([]int{-1, 4, 5, 99, 100}, farNumbers...) {
		for _, sample := range fairSamples() {
			stranger := sample
			stranger.Client = client
			told, journal, err := Run(2, []Command{stranger})
			if !sameLists(told, make([][]Event, 4)) || journal != "" || err != OK {
				t.Errorf("P11: Run(2, %v) = %v, %q, %d", stranger, told, journal, err)
			}
			checkRun(t, 4, []Command{sample, stranger, sample, stranger, stranger, sample})
		}
	}
}

func TestRunOfNumbersFarOutside(t *testing.T) {
	for _, n := range farNumbers {
		for i := range 6 {
			commands := fairSamples()
			for k := range commands {
				if k%3 == 1 {
					numbers := numbersOf(commands[k])
					numbers[i] = n
					commands[k] = commandOf(numbers)
				}
			}
			checkRunAtEachSize(t, commands)
		}
		checkRunAtEachSize(t, []Command{{n, n, n, n, n, n}})
	}
}

// A command that is fair stands in the journal, even if the book rejects it.
func TestRunOfCommandsThatAreRejected(t *testing.T) {
	commands := []Command{{5, 1, 50, 0, 0, 0}, {6, 1, 50, 0, 10, 1}}
	for id := range 12 {
		commands = append(commands, Command{1, id % 4, id, 1, 40, 5}, Command{1, 0, 0, 1, 40, 5})
	}
	commands = append(commands, Command{1, 2, 12, 1, 40, 5}, Command{1, 2, 12, 3, 40, 5},
		Command{5, 3, 0, 0, 0, 0}, Command{5, 0, 0, 0, 0, 0}, Command{1, 2, 12, 1, 40, 5}, Command{})
	for _, size := range ringSizes {
		told, journal, _ := Run(size, commands)
		fair := slices.DeleteFunc(slices.Clone(commands), func(c Command) bool { return !wantFair(c) })
		if len(fair) != 30 || journal != journalOf(fair) {
			t.Errorf("P11: the journal of %v is %q", commands, journal)
		}
		rejected := map[int]int{}
		for _, e := range slices.Concat(told...) {
			if e.Kind == 2 {
				rejected[e.Other]++
			}
		}
		if rejected[2] != 2 || rejected[3] != 12 || rejected[4] != 3 || rejected[5] != 1 {
			t.Errorf("P11: by their errors are rejected %v", rejected)
		}
		checkRun(t, size, commands)
	}
}

func TestRunsAgainstTheModel(t *testing.T) {
	for seed := range uint64(400) {
		checkRunAtEachSize(t, someRun(seed, 40+int(seed%21)))
	}
}

func TestJournalOfARunReplaysItsFairCommands(t *testing.T) {
	for seed := range uint64(40) {
		commands := someRun(seed, 60)
		fair := slices.DeleteFunc(slices.Clone(commands), func(c Command) bool { return !wantFair(c) })
		for _, size := range ringSizes {
			_, journal, _ := Run(size, commands)
			if again, n := Replay(journal); !slices.Equal(again, fair) || n != len(journal) {
				t.Errorf("P11: the journal of %v brings %v, %d bytes of %d", commands, again, n, len(journal))
			}
		}
	}
}

func TestRunLeavesItsCommandsAsTheyWere(t *testing.T) {
	whole := append(someRun(3, 60), someRun(4, 40)...)
	before := slices.Clone(whole)
	for _, count := range []int{0, 1, 17, 60, 61} {
		for _, size := range []int{-1, 0, 1, 2, 3, 4, 8, 16, 17} {
			Run(size, whole[:count])
		}
	}
	if !slices.Equal(whole, before) {
		t.Errorf("P1: Run has changed its commands to %v", whole)
	}
}

func TestRunAnswersNewMemory(t *testing.T) {
	commands := someRun(5, 60)
	want, _ := wantRun(commands)
	for _, size := range ringSizes {
		first, _, _ := Run(size, commands)
		second, journal, _ := Run(size, commands)
		for _, list := range first {
			clear(list[:cap(list)])
		}
		clear(first[:cap(first)])
		third, again, _ := Run(size, commands)
		if !sameLists(second, want) || !sameLists(third, want) || journal != again {
			t.Errorf("P1: an answer of Run(%d, %v) shares memory with another", size, commands)
		}
	}
}

func TestListsOfARunShareNoMemory(t *testing.T) {
	commands := someRun(6, 60)
	want, _ := wantRun(commands)
	for client := range 4 {
		told, _, _ := Run(16, commands)
		clear(told[client][:cap(told[client])])
		for other := range 4 {
			if other != client && !slices.Equal(told[other], want[other]) {
				t.Errorf("P1: client %d's list shares memory with client %d's: %v", other, client, told[other])
			}
		}
	}
}

func TestRunKeepsNoCommands(t *testing.T) {
	commands := someRun(7, 60)
	want, wantJournal := wantRun(commands)
	told, journal, _ := Run(4, commands)
	clear(commands)
	if !sameLists(told, want) || journal != wantJournal {
		t.Error("P1: what Run answered changes with its commands")
	}
	checkRun(t, 4, commands)
}

func TestRunsBesideEachOther(t *testing.T) {
	commands := someRun(8, 60)
	want, wantJournal := wantRun(commands)
	var all sync.WaitGroup
	for k := range 10 {
		all.Go(func() {
			for range 40 {
				told, journal, err := Run(ringSizes[k%5], commands)
				if !sameLists(told, want) || journal != wantJournal || err != OK {
					t.Errorf("P2: Run(%d, %v) = %v, %q, %d beside others", ringSizes[k%5], commands, told, journal, err)
				}
			}
		})
	}
	all.Wait()
}

func TestRunsOnFewAndManyProcessors(t *testing.T) {
	defer runtime.GOMAXPROCS(runtime.GOMAXPROCS(0))
	for _, n := range []int{1, 2, 3, 4, 16} {
		runtime.GOMAXPROCS(n)
		for seed := range uint64(20) {
			checkRunAtEachSize(t, someRun(seed, 60))
		}
	}
}
