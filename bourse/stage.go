package bourse

import "sync/atomic"

// stage is one of several, in a circle, that go through the same commands at
// the same time: each waits for the one ahead of it.
type stage struct {
	do     func(n int)   // what it does with command n
	done   atomic.Int64  // how many commands it has done
	ahead  *stage        // the one that it waits for
	behind *stage        // the one that waits for it
	lead   int           // how many more than the one ahead it may have done
	bell   chan struct{} // of one place: rung when the one ahead has gone on
}

// circleOf joins stages that do these things: each waits for the one before,
// and the first for the last, so that it is never more than size commands ahead
// of it.
func circleOf(size int, things ...func(n int)) []*stage {
	var stages []*stage
	for _, do := range things {
		stages = append(stages, &stage{do: do, bell: make(chan struct{}, 1)})
	}
	ahead := stages[len(stages)-1]
	for _, s := range stages {
		s.ahead, ahead.behind = ahead, s
		ahead = s
	}
	stages[0].lead = size
	return stages
}

// goThrough does what the stage does with each of count commands.
func (s *stage) goThrough(count int) {
	for n := range count {
		s.await(n)
		s.do(n)
		s.done.Store(int64(n + 1))
		s.behind.ring()
	}
}

// await answers when the one ahead is far enough for command n. A ring may be
// left over from long ago, so that behind each one the number is read again.
func (s *stage) await(n int) {
	for n >= int(s.ahead.done.Load())+s.lead {
		<-s.bell
	}
}

// ring goes on if the bell is full: then a ring is still to be heard, and who
// hears it reads the number behind it.
func (s *stage) ring() {
	select {
	case s.bell <- struct{}{}:
	default:
	}
}
