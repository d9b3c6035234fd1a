package bourse

import (
	"slices"
	"sync"
	"testing"
)

// Constants all, or this does not build.
const (
	allErrors = OK + ErrLong + ErrArg + ErrThere + ErrNone + ErrFull + ErrForm
	allKinds  = Limit + Market + Now + Whole + Cancel + Replace
	allSides  = Buy + Sell
	allTold   = Accepted + Rejected + Trade + Filled + Canceled + Rests
)

func TestTypesOfNames(t *testing.T) {
	for i, e := range []any{OK, ErrLong, ErrArg, ErrThere, ErrNone, ErrFull, ErrForm} {
		if e != any(Errno(i)) {
			t.Errorf("Words: the error %d is %v, of the type %T", i, e, e)
		}
	}
	for _, sum := range []any{allKinds, allSides, allTold} {
		if _, ok := sum.(int); !ok {
			t.Errorf("Words: a kind or a side has the type %T", sum)
		}
	}
	if allErrors != Errno(21) {
		t.Errorf("Words: the errors add up to %d", allErrors)
	}
}

func TestNumbersOfNames(t *testing.T) {
	kinds := []int{Limit, Market, Now, Whole, Cancel, Replace}
	if !slices.Equal(kinds, []int{1, 2, 3, 4, 5, 6}) {
		t.Errorf("Words: the kinds of commands are %v", kinds)
	}
	if Buy != 1 || Sell != 2 {
		t.Errorf("Words: the sides are %d, %d", Buy, Sell)
	}
	told := []int{Accepted, Rejected, Trade, Filled, Canceled, Rests}
	if !slices.Equal(told, []int{1, 2, 3, 4, 5, 6}) {
		t.Errorf("Words: the kinds of events are %v", told)
	}
}

func TestNewBookHasNothingThatRests(t *testing.T) {
	b := New()
	if b == nil {
		t.Fatal("P2: New() is no book")
	}
	for _, side := range append([]int{-1, 0, 1, 2, 3}, farNumbers...) {
		if levels := b.Depth(side); len(levels) != 0 {
			t.Errorf("P2: Depth(%d) of a new book is %v", side, levels)
		}
	}
	for _, id := range append([]int{-1, 0, 1, 50, 99, 100}, farNumbers...) {
		if qty, err := b.Left(id); qty != 0 || err != ErrNone {
			t.Errorf("P2: Left(%d) of a new book is %d, %d", id, qty, err)
		}
	}
}

func TestNoCallPanicsAtWildNumbers(t *testing.T) {
	b := New()
	numbers := append([]int{-1, 0, 1, 2, 99, 100}, farNumbers...)
	for _, n := range numbers {
		for i := range 6 {
			wild := [6]int{1, 0, 1, 1, 1, 1}
			wild[i] = n
			c := commandOf(wild)
			b.Do(c)
			Encode(c)
			Run(n, []Command{c})
			Run(1, slices.Repeat([]Command{c}, 100))
		}
		Run(n, nil)
		b.Depth(n)
		b.Left(n)
	}
}

// Bytes made by a fixed rule, of which none that are taken may be encoded otherwise.
func TestNoCallPanicsAtWildBytes(t *testing.T) {
	state := uint32(1)
	for n := range 4000 {
		data := make([]byte, n%41)
		for i := range data {
			state = state*1664525 + 1013904223
			data[i] = byte(state >> 24)
		}
		if c, err := Decode(string(data)); err == OK {
			if code, _ := Encode(c); code != string(data) {
				t.Errorf("P9: Decode(%q) = %v, which is encoded as %q", data, c, code)
			}
		} else if c != (Command{}) || err != ErrForm {
			t.Errorf("P1: Decode(%q) = %v, %d", data, c, err)
		}
		if commands, k := Replay(string(data)); k != 10*len(commands) || k > len(data) {
			t.Errorf("P10: Replay(%q) = %v, %d", data, commands, k)
		}
	}
}

func TestReplayAnswersNewMemory(t *testing.T) {
	want := fairSamples()
	journal := journalOf(want)
	first, _ := Replay(journal)
	second, _ := Replay(journal)
	clear(first[:cap(first)])
	third, _ := Replay(journal)
	if !slices.Equal(second, want) || !slices.Equal(third, want) {
		t.Errorf("P1: an answer of Replay shares memory with another: %v, %v", second, third)
	}
}

func TestAnswersHangOnArgumentsAlone(t *testing.T) {
	want := fairSamples()
	journal := journalOf(want)
	var all sync.WaitGroup
	for range 8 {
		all.Add(1)
		go func() {
			defer all.Done()
			for range 20 {
				for k, c := range want {
					Encode(Command{})
					Decode("no command")
					if code, err := Encode(c); code != journal[10*k:10*k+10] || err != OK {
						t.Errorf("P2: Encode(%v) = %q, %d beside others", c, code, err)
					}
					if d, err := Decode(journal[10*k : 10*k+10]); d != c || err != OK {
						t.Errorf("P2: Decode of %v = %v, %d beside others", c, d, err)
					}
				}
				if commands, n := Replay(journal); !slices.Equal(commands, want) || n != len(journal) {
					t.Errorf("P2: Replay = %v, %d beside others", commands, n)
				}
			}
		}()
	}
	all.Wait()
}
