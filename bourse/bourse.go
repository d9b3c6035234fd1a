// Package bourse matches orders: see DOC.md.
package bourse

// Errno is what a call answers: OK or the reason for a refusal.
type Errno int

const (
	OK       Errno = 0
	ErrLong  Errno = 1 // too many commands
	ErrArg   Errno = 2 // a number that may not be
	ErrThere Errno = 3 // an order that rests already
	ErrNone  Errno = 4 // an order that does not rest
	ErrFull  Errno = 5 // too many orders rest
	ErrForm  Errno = 6 // no command's bytes
)

// The kinds of commands.
const (
	Limit   int = 1
	Market  int = 2
	Now     int = 3
	Whole   int = 4
	Cancel  int = 5
	Replace int = 6
)

// The sides.
const (
	Buy  int = 1
	Sell int = 2
)

// The kinds of events.
const (
	Accepted int = 1
	Rejected int = 2
	Trade    int = 3
	Filled   int = 4
	Canceled int = 5
	Rests    int = 6
)

// Command is what a client wants.
type Command struct{ Kind, Client, Id, Side, Price, Qty int }

// Event is what came of it.
type Event struct{ Kind, Client, Id, Other, Price, Qty int }

// Level is what rests at a price.
type Level struct{ Price, Qty, Orders int }
