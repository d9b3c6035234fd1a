package bourse

import (
	"slices"
	"strings"
	"testing"
)

func checkEncode(t *testing.T, c Command) {
	t.Helper()
	want, wantErr := "", ErrArg
	if wantFair(c) {
		want, wantErr = wantCode(c), OK
	}
	if code, err := Encode(c); code != want || err != wantErr {
		t.Errorf("P9: Encode(%v) = %q, %d, want %q, %d", c, code, err, want, wantErr)
	}
}

func checkNoCommand(t *testing.T, data string) {
	t.Helper()
	if c, err := Decode(data); c != (Command{}) || err != ErrForm {
		t.Errorf("P9: Decode(%q) = %v, %d, want zeros, %d", data, c, err, ErrForm)
	}
}

func checkReplay(t *testing.T, journal string, want []Command) {
	t.Helper()
	commands, n := Replay(journal)
	if !slices.Equal(commands, want) || n != 10*len(want) {
		t.Errorf("P10: Replay(%q) = %v, %d, want %v, %d", journal, commands, n, want, 10*len(want))
	}
}

func TestEncodeOfTheDocumentsExample(t *testing.T) {
	code, err := Encode(Command{5, 0, 1, 0, 0, 0})
	if want := "\x05\x00\x01\x00\x00\x00\x75\x57\xb3\x59"; code != want || err != OK {
		t.Errorf("P9: %q, %d, want %q, %d", code, err, want, OK)
	}
}

func TestEncodeAtEitherSideOfEachLimit(t *testing.T) {
	for _, sample := range fairSamples() {
		checkEncode(t, sample)
		for i, s := range spans[sample.Kind] {
			for _, n := range []int{s.low - 1, s.low, s.high, s.high + 1} {
				numbers := numbersOf(sample)
				numbers[i+1] = n
				checkEncode(t, commandOf(numbers))
			}
		}
	}
}

func TestEncodeOfNumbersFarOutside(t *testing.T) {
	for _, sample := range fairSamples() {
		for i := range 6 {
			for _, n := range farNumbers {
				numbers := numbersOf(sample)
				numbers[i] = n
				if code, err := Encode(commandOf(numbers)); code != "" || err != ErrArg {
					t.Errorf("P9: Encode(%v) = %q, %d", numbers, code, err)
				}
			}
		}
	}
}

func TestEncodeOfEdgesTogether(t *testing.T) {
	kinds := []int{-1, 0, 1, 2, 3, 4, 5, 6, 7}
	everyCommand(kinds, []int{-1, 0, 1, 2, 3, 4, 99, 100}, func(c Command) { checkEncode(t, c) })
}

func TestDecodeOfWhatEncodeAnswers(t *testing.T) {
	check := func(c Command) {
		code, err := Encode(c)
		if err != OK {
			return
		}
		if len(code) != 10 {
			t.Errorf("P9: Encode(%v) has %d bytes", c, len(code))
		}
		if d, err := Decode(code); d != c || err != OK {
			t.Errorf("P9: Decode(%q) = %v, %d, want %v, %d", code, d, err, c, OK)
		}
	}
	everyCommand([]int{1, 2, 3, 4, 5, 6}, []int{0, 1, 2, 3, 10, 50, 98, 99}, check)
}

func TestDecodeOfRightSumsBehindUnfairNumbers(t *testing.T) {
	check := func(c Command) {
		if !wantFair(c) {
			checkNoCommand(t, wantCode(c))
		}
	}
	everyCommand([]int{0, 1, 2, 3, 4, 5, 6, 7, 255}, []int{0, 1, 2, 3, 4, 99, 100, 255}, check)
}

func TestDecodeOfOtherLengths(t *testing.T) {
	for _, c := range fairSamples() {
		code := wantCode(c)
		for n := range 10 {
			checkNoCommand(t, code[:n])
			checkNoCommand(t, code[n+1:])
		}
		checkNoCommand(t, code+"\x00")
		checkNoCommand(t, "\x00"+code)
		checkNoCommand(t, code+code)
		checkNoCommand(t, code[:6]+"\x00"+code[6:])
		// The sum of nine or eleven bytes that is right for what stands ahead of it.
		checkNoCommand(t, withSum(code[:5]))
		checkNoCommand(t, withSum(code[:6]+"\x00"))
	}
}

func TestDecodeOfBytesThatAreTurned(t *testing.T) {
	for _, c := range fairSamples() {
		code := wantCode(c)
		for i := range code {
			for turn := 1; turn < 256; turn++ {
				turned := []byte(code)
				turned[i] ^= byte(turn)
				checkNoCommand(t, string(turned))
			}
		}
	}
}

func TestDecodeOfOtherSums(t *testing.T) {
	for _, c := range fairSamples() {
		code := wantCode(c)
		highestFirst := []byte(code)
		slices.Reverse(highestFirst[6:])
		bitsNotTurned := []byte(code)
		for i := 6; i < 10; i++ {
			bitsNotTurned[i] = ^bitsNotTurned[i]
		}
		checkNoCommand(t, string(highestFirst))
		checkNoCommand(t, string(bitsNotTurned))
		checkNoCommand(t, code[:6]+"\x00\x00\x00\x00")
	}
}

func TestDecodeOfBytesThatAreNoCommands(t *testing.T) {
	for b := range 256 {
		for n := range 25 {
			checkNoCommand(t, strings.Repeat(string([]byte{byte(b)}), n))
		}
	}
	checkNoCommand(t, "5 0 1 0 0 ")
	checkNoCommand(t, "héllo wörl")
	checkNoCommand(t, strings.Repeat("long", 1<<16))
}

func TestReplayOfCutJournals(t *testing.T) {
	commands := fairSamples()
	journal := journalOf(commands)
	for n := range len(journal) + 1 {
		checkReplay(t, journal[:n], commands[:n/10])
	}
}

func TestReplayOfTurnedBytes(t *testing.T) {
	commands := fairSamples()
	journal := journalOf(commands)
	for i := range len(journal) {
		for bit := range 8 {
			turned := []byte(journal)
			turned[i] ^= 1 << bit
			checkReplay(t, string(turned), commands[:i/10])
		}
	}
}

func TestReplayStopsAtWhatIsNoCommand(t *testing.T) {
	commands := fairSamples()
	journal := journalOf(commands)
	for k := range len(commands) + 1 {
		ahead, behind := journal[:10*k], journal[10*k:]
		checkReplay(t, ahead+"\x00"+behind, commands[:k])
		checkReplay(t, ahead+strings.Repeat("\x00", 10)+behind, commands[:k])
		// An unfair command with a right sum, in its ten bytes.
		checkReplay(t, ahead+wantCode(Command{1, 4, 1, 1, 1, 1})+behind, commands[:k])
		checkReplay(t, ahead+wantCode(Command{5, 0, 1, 0, 0, 1})+behind, commands[:k])
		checkReplay(t, ahead+wantCode(Command{7, 0, 1, 0, 0, 0})+behind, commands[:k])
	}
}

func TestReplayOfNothing(t *testing.T) {
	checkReplay(t, "", nil)
	checkReplay(t, "x", nil)
	checkReplay(t, strings.Repeat("\xff", 1000), nil)
}

// A journal may be longer than a run, and may hold a command more than once.
func TestReplayOfALongJournal(t *testing.T) {
	commands := slices.Repeat(fairSamples(), 500)
	journal := strings.Repeat(journalOf(fairSamples()), 500)
	checkReplay(t, journal, commands)
	checkReplay(t, journal+"\x01", commands)
}
