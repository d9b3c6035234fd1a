package bourse

import (
	"fmt"
	"math/rand/v2"
	"testing"
	"testing/synctest"
	"time"
)

// In these tests the clock stands still till every goroutine waits, so that
// how far each stage has come can be told, and a stage that is slow costs
// nothing. A goroutine that waits for ever makes them fail.

const feeder, journaler, matcher, teller = 0, 1, 2, 3

func checkWorked(t *testing.T, r *run) {
	t.Helper()
	want, wantJournal := wantRun(r.commands)
	if !sameLists(r.told, want) || r.written.String() != wantJournal {
		t.Errorf("P11: %v brings %v, %q, want %v, %q", r.commands, r.told, r.written.String(), want, wantJournal)
	}
}

// hold makes a stage wait, ahead of each command, till it is let go on.
func hold(s *stage) chan struct{} {
	gate := make(chan struct{})
	do := s.do
	s.do = func(n int) {
		<-gate
		do(n)
	}
	return gate
}

func slow(s *stage, pause func() time.Duration) {
	do := s.do
	s.do = func(n int) {
		time.Sleep(pause())
		do(n)
		time.Sleep(pause())
	}
}

func checkDone(t *testing.T, r *run, held, let int) {
	t.Helper()
	for k, s := range r.stages {
		want := let
		if k < held {
			want = min(let+len(r.ring), len(r.commands))
		}
		if done := int(s.done.Load()); done != want {
			t.Errorf("Ways, Atomics: of %d places, stage %d let do %d: stage %d has done %d, want %d", len(r.ring), held, let, k, done, want)
		}
	}
}

// Whichever stage is held: those ahead of it go on till the feeder is as many
// commands ahead of the teller as the ring has places; those behind it wait.
func TestStagesWaitForEachOther(t *testing.T) {
	for _, size := range ringSizes {
		for _, held := range []int{feeder, journaler, matcher, teller} {
			for _, count := range []int{1, size, size + 1, 60} {
				synctest.Test(t, func(t *testing.T) {
					r := newRun(size, someRun(uint64(size), count))
					gate := hold(r.stages[held])
					go r.work()
					for let := range count {
						synctest.Wait()
						checkDone(t, r, held, let)
						gate <- struct{}{}
					}
					synctest.Wait()
					checkDone(t, r, held, count)
					checkWorked(t, r)
				})
			}
		}
	}
}

// Held at its first command, a stage shows what those ahead of it do, and that
// it comes ahead of the others.
func TestOrderOfTheStages(t *testing.T) {
	var commands []Command
	for id := range 12 {
		commands = append(commands, Command{1, 0, id, 1, 40, 5})
	}
	for _, held := range []int{feeder, journaler, matcher, teller} {
		synctest.Test(t, func(t *testing.T) {
			r := newRun(8, commands)
			gate := hold(r.stages[held])
			go r.work()
			synctest.Wait()
			shown := []bool{r.ring[7].command != Command{}, r.written.Len() == 80, len(r.book.orders) == 8, len(r.told[0]) > 0}
			for k, does := range shown {
				if does != (k < held) {
					t.Errorf("Ways: stage %d is held, and has stage %d worked? %t", held, k, does)
				}
			}
			close(gate)
			synctest.Wait()
			checkWorked(t, r)
		})
	}
}

func TestStagesAtAnySpeed(t *testing.T) {
	for _, size := range ringSizes {
		for seed := range uint64(30) {
			synctest.Test(t, func(t *testing.T) {
				run := newRun(size, someRun(seed, 60))
				for k, s := range run.stages {
					r := rand.New(rand.NewPCG(seed, uint64(k)))
					most := []int64{1, 3, 10, 1000}[r.IntN(4)]
					slow(s, func() time.Duration { return time.Duration(r.Int64N(most)) })
				}
				run.work()
				checkWorked(t, run)
			})
		}
	}
}

func TestOneSlowStage(t *testing.T) {
	for _, size := range ringSizes {
		for k := range 4 {
			synctest.Test(t, func(t *testing.T) {
				r := newRun(size, someRun(9, 60))
				slow(r.stages[k], func() time.Duration { return time.Hour })
				r.work()
				checkWorked(t, r)
			})
		}
	}
}

// While one stage is slow, the others do what they may: five hours for each
// stage and command would be 4 * 60 * 5, one behind the other.
func TestStagesWorkAtTheSameTime(t *testing.T) {
	for _, size := range []int{4, 8, 16} {
		synctest.Test(t, func(t *testing.T) {
			r := newRun(size, someRun(9, 60))
			for _, s := range r.stages {
				do := s.do
				s.do = func(n int) {
					time.Sleep(5 * time.Hour)
					do(n)
				}
			}
			begin := time.Now()
			r.work()
			if took := time.Since(begin); took != (60+3)*5*time.Hour {
				t.Errorf("Ways, Goroutines: a run over %d places took %v", size, took)
			}
			checkWorked(t, r)
		})
	}
}

func TestRingsThatMeanNothing(t *testing.T) {
	for _, size := range ringSizes {
		for rung := range 4 {
			synctest.Test(t, func(t *testing.T) {
				r := newRun(size, someRun(10, 60))
				for _, s := range r.stages {
					do := s.do
					s.do = func(n int) {
						r.stages[rung].ring()
						time.Sleep(time.Second)
						r.stages[rung].ring()
						do(n)
					}
					s.ring()
				}
				r.work()
				checkWorked(t, r)
			})
		}
	}
}

func TestBellsHaveOnePlace(t *testing.T) {
	for _, s := range newRun(4, nil).stages {
		if cap(s.bell) != 1 {
			t.Errorf("Ways, channels: a bell has %d places", cap(s.bell))
		}
		for range 3 {
			s.ring()
		}
		if len(s.bell) != 1 {
			t.Errorf("Ways, channels: behind three rings a bell holds %d", len(s.bell))
		}
	}
}

func TestRingHasAsManyPlacesAsItsSize(t *testing.T) {
	for _, size := range ringSizes {
		r := newRun(size, nil)
		places := map[*place]bool{}
		for n := range 60 {
			places[r.place(n)] = true
			if r.place(n) != r.place(n+size) {
				t.Errorf("Ways, Atomics: of %d places, commands %d and %d have two", size, n, n+size)
			}
		}
		if len(places) != size {
			t.Errorf("Ways, Atomics: of %d places %d are used", size, len(places))
		}
	}
}

// Each stage stands alone here, so that none ends because another does.
func TestWorkEndsBehindAllStages(t *testing.T) {
	for late := range 4 {
		synctest.Test(t, func(t *testing.T) {
			r := newRun(1, someRun(11, 5))
			for k := range r.stages {
				r.stages[k] = circleOf(5, func(int) {
					if k == late {
						time.Sleep(time.Hour)
					}
				})[0]
			}
			r.work()
			for k, s := range r.stages {
				if done := s.done.Load(); done != 5 {
					t.Errorf("Ways, WaitGroup: work has ended, and stage %d has done %d of 5", k, done)
				}
			}
		})
	}
}

func TestNoGoroutineIsLeftBehind(t *testing.T) {
	for _, size := range append([]int{0, 3, 17}, ringSizes...) {
		for _, count := range []int{0, 1, 2, 59, 60, 61} {
			t.Run(fmt.Sprint(size, "places", count, "commands"), func(t *testing.T) {
				synctest.Test(t, func(t *testing.T) { Run(size, someRun(12, count)) })
			})
		}
	}
}
