package bourse

import (
	"strings"
	"sync"
)

// How many commands a run may have.
const maxRun = 60

// Run does commands in stages, over a ring (P11).
func Run(size int, commands []Command) ([][]Event, string, Errno) {
	if len(commands) > maxRun {
		return nil, "", ErrLong
	}
	if !isSize(size) {
		return nil, "", ErrArg
	}
	r := newRun(size, commands)
	r.work()
	return r.told, r.written.String(), OK
}

func isSize(size int) bool {
	switch size {
	case 1, 2, 4, 8, 16:
		return true
	}
	return false
}

// run is what the stages of one call of Run work on. Beside the ring, each
// thing is touched by one stage alone; a place of the ring goes from stage to
// stage with their numbers.
type run struct {
	commands []Command
	ring     []place
	sums     sumTable
	written  strings.Builder
	book     *Book
	told     [][]Event // by clients
	stages   []*stage
}

// place is a place of the ring: a command on its way, and what came of it.
type place struct {
	command Command
	events  []Event
}

func newRun(size int, commands []Command) *run {
	r := &run{
		commands: commands,
		ring:     make([]place, size),
		book:     New(),
		told:     make([][]Event, maxClients),
	}
	r.stages = circleOf(size, r.feed, r.journal, r.match, r.tell)
	return r
}

// work answers when all stages have gone through all commands.
func (r *run) work() {
	var all sync.WaitGroup
	for _, s := range r.stages {
		all.Add(1)
		go func() {
			defer all.Done()
			s.goThrough(len(r.commands))
		}()
	}
	all.Wait()
}

func (r *run) place(n int) *place { return &r.ring[n%len(r.ring)] }

func (r *run) feed(n int) { r.place(n).command = r.commands[n] }

func (r *run) journal(n int) {
	// Of a command that is not fair no bytes come.
	code, _ := r.sums.encode(r.place(n).command)
	r.written.WriteString(code)
}

func (r *run) match(n int) {
	p := r.place(n)
	p.events = r.book.Do(p.command)
}

func (r *run) tell(n int) {
	for _, e := range r.place(n).events {
		if isClient(e.Client) {
			r.told[e.Client] = append(r.told[e.Client], e)
		}
	}
}
