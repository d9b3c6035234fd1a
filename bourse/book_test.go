package bourse

import (
	"fmt"
	"math"
	"slices"
	"sync"
	"testing"
)

func checkDo(t *testing.T, promise string, b *Book, c Command, want ...Event) {
	t.Helper()
	if got := b.Do(c); !slices.Equal(got, want) {
		t.Errorf("%s: Do(%v) = %v, want %v", promise, c, got, want)
	}
}

func checkRejected(t *testing.T, promise string, b *Book, c Command, err Errno) {
	t.Helper()
	before := stateOf(b)
	checkDo(t, promise, b, c, Event{2, c.Client, c.Id, int(err), 0, 0})
	if after := stateOf(b); after != before {
		t.Errorf("%s: %v is rejected, but %s has become %s", promise, c, before, after)
	}
}

func checkDepth(t *testing.T, b *Book, side int, want ...Level) {
	t.Helper()
	if got := b.Depth(side); !slices.Equal(got, want) {
		t.Errorf("P8: Depth(%d) = %v, want %v", side, got, want)
	}
}

func checkLeft(t *testing.T, b *Book, id, want int, wantErr Errno) {
	t.Helper()
	if got, err := b.Left(id); got != want || err != wantErr {
		t.Errorf("P8: Left(%d) = %d, %d, want %d, %d", id, got, err, want, wantErr)
	}
}

// stateOf is all that can be seen of a book without a command.
func stateOf(b *Book) string {
	left := ""
	for id := range 100 {
		if n, err := b.Left(id); err == OK {
			left += fmt.Sprint(" ", id, ":", n)
		}
	}
	return fmt.Sprint(b.Depth(Buy), b.Depth(Sell), left)
}

func bookOf(commands ...Command) *Book {
	b := New()
	for _, c := range commands {
		b.Do(c)
	}
	return b
}

// fullBook has 12 orders: numbers 1 to 6 to buy at 40, 7 to 12 to sell at 60, 5 each.
func fullBook() *Book {
	b := New()
	for id := 1; id <= 6; id++ {
		b.Do(Command{1, id % 4, id, 1, 40, 5})
		b.Do(Command{1, id % 4, id + 6, 2, 60, 5})
	}
	return b
}

func TestExamplesOfTheDocument(t *testing.T) {
	b := New()
	checkDo(t, "Examples", b, Command{1, 0, 1, 2, 10, 5}, Event{1, 0, 1, 0, 0, 0}, Event{6, 0, 1, 0, 10, 5})
	checkDo(t, "Examples", b, Command{3, 1, 2, 1, 11, 3},
		Event{1, 1, 2, 0, 0, 0}, Event{3, 1, 2, 1, 10, 3}, Event{3, 0, 1, 2, 10, 3}, Event{4, 1, 2, 0, 0, 0})
	checkLeft(t, b, 1, 2, OK)
	checkDo(t, "Examples", b, Command{4, 1, 3, 1, 10, 3}, Event{1, 1, 3, 0, 0, 0}, Event{5, 1, 3, 0, 0, 3})
	checkDo(t, "Examples", b, Command{5, 1, 1, 0, 0, 0}, Event{2, 1, 1, 4, 0, 0})
	checkDo(t, "Examples", b, Command{6, 0, 1, 0, 9, 4}, Event{1, 0, 1, 0, 0, 0}, Event{6, 0, 1, 0, 9, 4})
}

// A fair command is rejected in a new book only if it asks for an order.
func wantInNewBook(c Command) []Event {
	if !wantFair(c) {
		return []Event{{2, c.Client, c.Id, 2, 0, 0}}
	}
	switch c.Kind {
	case 1:
		return []Event{{1, c.Client, c.Id, 0, 0, 0}, {6, c.Client, c.Id, 0, c.Price, c.Qty}}
	case 5, 6:
		return []Event{{2, c.Client, c.Id, 4, 0, 0}}
	}
	return []Event{{1, c.Client, c.Id, 0, 0, 0}, {5, c.Client, c.Id, 0, 0, c.Qty}}
}

func TestDoAtEitherSideOfEachLimit(t *testing.T) {
	for _, sample := range fairSamples() {
		for i, s := range spans[sample.Kind] {
			for _, n := range []int{s.low - 1, s.low, s.high, s.high + 1} {
				numbers := numbersOf(sample)
				numbers[i+1] = n
				c := commandOf(numbers)
				checkDo(t, "P3", New(), c, wantInNewBook(c)...)
			}
		}
	}
}

func TestDoOfEdgesTogether(t *testing.T) {
	kinds := []int{-1, 0, 1, 2, 3, 4, 5, 6, 7}
	everyCommand(kinds, []int{-1, 0, 1, 2, 3, 4, 99, 100}, func(c Command) {
		checkDo(t, "P3", New(), c, wantInNewBook(c)...)
	})
}

func TestDoOfNumbersFarOutside(t *testing.T) {
	b := fullBook()
	for _, sample := range fairSamples() {
		for i := range 6 {
			for _, n := range farNumbers {
				numbers := numbersOf(sample)
				numbers[i] = n
				checkRejected(t, "P3", b, commandOf(numbers), ErrArg)
			}
		}
	}
	for _, n := range farNumbers {
		checkRejected(t, "P3", b, commandOf([6]int{n, n, n, n, n, n}), ErrArg)
	}
}

func TestOfSeveralErrorsTheFirstIsToldInBooks(t *testing.T) {
	b := fullBook()
	checkRejected(t, "P1", b, Command{1, 0, 1, 3, 40, 5}, ErrArg)
	checkRejected(t, "P1", b, Command{1, 4, 1, 1, 40, 5}, ErrArg)
	checkRejected(t, "P1", b, Command{5, 0, 50, 1, 0, 0}, ErrArg)
	checkRejected(t, "P1", b, Command{6, 0, 1, 0, 40, 100}, ErrArg)
	checkRejected(t, "P1", b, Command{1, 1, 1, 1, 40, 5}, ErrThere)
	checkRejected(t, "P1", b, Command{1, 0, 50, 1, 40, 5}, ErrFull)
}

func TestNumbersThatRestAlready(t *testing.T) {
	b := bookOf(Command{1, 1, 7, 1, 40, 5}, Command{1, 2, 0, 2, 60, 5}, Command{1, 2, 99, 2, 60, 5})
	for client := range 4 {
		for side := 1; side <= 2; side++ {
			for _, id := range []int{0, 7, 99} {
				checkRejected(t, "P4", b, Command{1, client, id, side, 50, 1}, ErrThere)
				checkRejected(t, "P4", b, Command{2, client, id, side, 0, 1}, ErrThere)
				checkRejected(t, "P4", b, Command{3, client, id, side, 50, 1}, ErrThere)
				checkRejected(t, "P4", b, Command{4, client, id, side, 50, 1}, ErrThere)
			}
		}
	}
}

func TestNumbersThatDoNotRest(t *testing.T) {
	b := bookOf(Command{1, 1, 7, 1, 40, 5})
	for client := range 4 {
		for _, id := range []int{0, 6, 8, 99} {
			checkRejected(t, "P4", b, Command{5, client, id, 0, 0, 0}, ErrNone)
			checkRejected(t, "P4", b, Command{6, client, id, 0, 40, 5}, ErrNone)
		}
	}
	for _, client := range []int{0, 2, 3} {
		checkRejected(t, "P4", b, Command{5, client, 7, 0, 0, 0}, ErrNone)
		checkRejected(t, "P4", b, Command{6, client, 7, 0, 40, 5}, ErrNone)
		checkRejected(t, "P4", b, Command{6, client, 7, 0, 41, 5}, ErrNone)
	}
}

func TestNumbersAreFreeOnceTheyRestNoMore(t *testing.T) {
	b := bookOf(Command{1, 1, 7, 1, 40, 5}, Command{5, 1, 7, 0, 0, 0})
	checkRejected(t, "P4", b, Command{5, 1, 7, 0, 0, 0}, ErrNone)
	checkDo(t, "P4", b, Command{1, 3, 7, 2, 60, 2}, Event{1, 3, 7, 0, 0, 0}, Event{6, 3, 7, 0, 60, 2})
	b.Do(Command{2, 0, 8, 1, 0, 2})
	checkRejected(t, "P4", b, Command{6, 3, 7, 0, 60, 1}, ErrNone)
	checkDo(t, "P4", b, Command{3, 2, 7, 2, 60, 2}, Event{1, 2, 7, 0, 0, 0}, Event{5, 2, 7, 0, 0, 2})
	checkDo(t, "P4", b, Command{1, 2, 7, 1, 1, 1}, Event{1, 2, 7, 0, 0, 0}, Event{6, 2, 7, 0, 1, 1})
}

func TestTwelveOrdersAndOneMore(t *testing.T) {
	for side := 1; side <= 2; side++ {
		b := New()
		for id := range 12 {
			checkDo(t, "P4", b, Command{1, 0, id, side, 50, 1}, Event{1, 0, id, 0, 0, 0}, Event{6, 0, id, 0, 50, 1})
		}
		checkRejected(t, "P4", b, Command{1, 0, 12, side, 50, 1}, ErrFull)
		b.Do(Command{5, 0, 5, 0, 0, 0})
		checkDo(t, "P4", b, Command{1, 0, 12, side, 50, 1}, Event{1, 0, 12, 0, 0, 0}, Event{6, 0, 12, 0, 50, 1})
		checkRejected(t, "P4", b, Command{1, 0, 5, side, 50, 1}, ErrFull)
	}
}

func TestFullBookTakesAllButLimit(t *testing.T) {
	b := fullBook()
	// Not even one that would trade away at once.
	checkRejected(t, "P4", b, Command{1, 0, 50, 1, 60, 1}, ErrFull)
	checkRejected(t, "P4", b, Command{1, 0, 50, 2, 40, 1}, ErrFull)
	checkDo(t, "P4", b, Command{3, 0, 50, 1, 50, 1}, Event{1, 0, 50, 0, 0, 0}, Event{5, 0, 50, 0, 0, 1})
	checkDo(t, "P4", b, Command{4, 0, 50, 1, 60, 31}, Event{1, 0, 50, 0, 0, 0}, Event{5, 0, 50, 0, 0, 31})
	checkDo(t, "P4", b, Command{6, 1, 1, 0, 40, 4}, Event{1, 1, 1, 0, 0, 0}, Event{6, 1, 1, 0, 40, 4})
	checkDo(t, "P4", b, Command{6, 2, 2, 0, 41, 99}, Event{1, 2, 2, 0, 0, 0}, Event{6, 2, 2, 0, 41, 99})
	checkRejected(t, "P4", b, Command{1, 0, 50, 1, 1, 1}, ErrFull)
	checkDo(t, "P4", b, Command{2, 0, 50, 1, 0, 5},
		Event{1, 0, 50, 0, 0, 0}, Event{3, 0, 50, 7, 60, 5}, Event{3, 1, 7, 50, 60, 5},
		Event{4, 1, 7, 0, 0, 0}, Event{4, 0, 50, 0, 0, 0})
	checkDo(t, "P4", b, Command{1, 0, 50, 1, 1, 1}, Event{1, 0, 50, 0, 0, 0}, Event{6, 0, 50, 0, 1, 1})
}

// Of each kind that comes, what it meets: prices at, below and above its own.
func TestPricesThatMeet(t *testing.T) {
	for _, kind := range []int{1, 3, 4} {
		for price := 49; price <= 51; price++ {
			buy := bookOf(Command{1, 0, 1, 2, price, 5}).Do(Command{kind, 1, 2, 1, 50, 5})
			if trades := buy[1].Kind == 3; trades != (price <= 50) {
				t.Errorf("P5: kind %d to buy at 50 meets %d: %v", kind, price, buy)
			}
			sell := bookOf(Command{1, 0, 1, 1, price, 5}).Do(Command{kind, 1, 2, 2, 50, 5})
			if trades := sell[1].Kind == 3; trades != (price >= 50) {
				t.Errorf("P5: kind %d to sell at 50 meets %d: %v", kind, price, sell)
			}
		}
	}
}

func TestMarketMeetsAnyPrice(t *testing.T) {
	for _, price := range []int{1, 2, 50, 98, 99} {
		for side := 1; side <= 2; side++ {
			b := bookOf(Command{1, 0, 1, 3 - side, price, 5})
			checkDo(t, "P5", b, Command{2, 1, 2, side, 0, 5}, Event{1, 1, 2, 0, 0, 0},
				Event{3, 1, 2, 1, price, 5}, Event{3, 0, 1, 2, price, 5}, Event{4, 0, 1, 0, 0, 0}, Event{4, 1, 2, 0, 0, 0})
		}
	}
}

func TestOneSideDoesNotMeetItself(t *testing.T) {
	for side := 1; side <= 2; side++ {
		b := bookOf(Command{1, 0, 1, side, 50, 5})
		checkDo(t, "P5", b, Command{2, 1, 2, side, 0, 5}, Event{1, 1, 2, 0, 0, 0}, Event{5, 1, 2, 0, 0, 5})
		checkDo(t, "P5", b, Command{1, 1, 2, side, 50, 5}, Event{1, 1, 2, 0, 0, 0}, Event{6, 1, 2, 0, 50, 5})
	}
}

func TestBestPriceTradesFirst(t *testing.T) {
	b := bookOf(Command{1, 0, 1, 2, 52, 1}, Command{1, 1, 2, 2, 50, 2}, Command{1, 2, 3, 2, 51, 3})
	checkDo(t, "P5", b, Command{1, 3, 4, 1, 51, 7}, Event{1, 3, 4, 0, 0, 0},
		Event{3, 3, 4, 2, 50, 2}, Event{3, 1, 2, 4, 50, 2}, Event{4, 1, 2, 0, 0, 0},
		Event{3, 3, 4, 3, 51, 3}, Event{3, 2, 3, 4, 51, 3}, Event{4, 2, 3, 0, 0, 0},
		Event{6, 3, 4, 0, 51, 2})
	b = bookOf(Command{1, 0, 1, 1, 48, 1}, Command{1, 1, 2, 1, 50, 2}, Command{1, 2, 3, 1, 49, 3})
	checkDo(t, "P5", b, Command{2, 3, 4, 2, 0, 7}, Event{1, 3, 4, 0, 0, 0},
		Event{3, 3, 4, 2, 50, 2}, Event{3, 1, 2, 4, 50, 2}, Event{4, 1, 2, 0, 0, 0},
		Event{3, 3, 4, 3, 49, 3}, Event{3, 2, 3, 4, 49, 3}, Event{4, 2, 3, 0, 0, 0},
		Event{3, 3, 4, 1, 48, 1}, Event{3, 0, 1, 4, 48, 1}, Event{4, 0, 1, 0, 0, 0},
		Event{5, 3, 4, 0, 0, 1})
}

// turns takes from one side of a book, one by one, and answers whose turn each was.
func turns(b *Book, side, price int) []int {
	var ids []int
	for {
		told := b.Do(Command{3, 3, 98, side, price, 1})
		if told[1].Kind != Trade {
			return ids
		}
		if id := told[1].Other; len(ids) == 0 || ids[len(ids)-1] != id {
			ids = append(ids, id)
		}
	}
}

func checkTurns(t *testing.T, promise string, b *Book, want ...int) {
	t.Helper()
	if got := turns(b, 1, 50); !slices.Equal(got, want) {
		t.Errorf("%s: at one price the turns are %v, want %v", promise, got, want)
	}
}

// threeAtOnePrice has the numbers 1, 2 and 3 to sell at 50, 4 each.
func threeAtOnePrice() *Book {
	return bookOf(Command{1, 0, 3, 2, 50, 4}, Command{1, 1, 1, 2, 50, 4}, Command{1, 2, 2, 2, 50, 4})
}

func TestTurnsAtOnePrice(t *testing.T) {
	checkTurns(t, "P5", threeAtOnePrice(), 3, 1, 2)
	b := threeAtOnePrice()
	// What is traded with in part keeps its turn.
	b.Do(Command{3, 3, 9, 1, 50, 1})
	b.Do(Command{1, 3, 9, 2, 50, 1})
	checkTurns(t, "P5", b, 3, 1, 2, 9)
	// A rejected command takes no turn and gives none.
	b = threeAtOnePrice()
	b.Do(Command{1, 0, 3, 2, 50, 4})
	b.Do(Command{6, 1, 3, 0, 50, 9})
	b.Do(Command{5, 2, 1, 0, 0, 0})
	checkTurns(t, "P4", b, 3, 1, 2)
	// Nor does a Whole that has too little.
	b = threeAtOnePrice()
	b.Do(Command{4, 0, 9, 1, 50, 13})
	checkTurns(t, "P6", b, 3, 1, 2)
}

func TestClientTradesWithItself(t *testing.T) {
	b := bookOf(Command{1, 2, 1, 1, 50, 5})
	checkDo(t, "P5", b, Command{1, 2, 0, 2, 50, 7}, Event{1, 2, 0, 0, 0, 0},
		Event{3, 2, 0, 1, 50, 5}, Event{3, 2, 1, 0, 50, 5}, Event{4, 2, 1, 0, 0, 0}, Event{6, 2, 0, 0, 50, 2})
}

func TestPriceOfATradeIsThatOfTheOneThatRests(t *testing.T) {
	b := bookOf(Command{1, 0, 1, 2, 1, 5})
	checkDo(t, "P5", b, Command{1, 1, 2, 1, 99, 5}, Event{1, 1, 2, 0, 0, 0},
		Event{3, 1, 2, 1, 1, 5}, Event{3, 0, 1, 2, 1, 5}, Event{4, 0, 1, 0, 0, 0}, Event{4, 1, 2, 0, 0, 0})
	b = bookOf(Command{1, 0, 1, 1, 99, 5})
	checkDo(t, "P5", b, Command{3, 1, 2, 2, 1, 6}, Event{1, 1, 2, 0, 0, 0},
		Event{3, 1, 2, 1, 99, 5}, Event{3, 0, 1, 2, 99, 5}, Event{4, 0, 1, 0, 0, 0}, Event{5, 1, 2, 0, 0, 1})
}

func TestWhatIsLeft(t *testing.T) {
	for side := 1; side <= 2; side++ {
		trades := []Event{{1, 1, 2, 0, 0, 0}, {3, 1, 2, 1, 50, 5}, {3, 0, 1, 2, 50, 5}, {4, 0, 1, 0, 0, 0}}
		for kind, last := range map[int]Event{
			1: {6, 1, 2, 0, 50, 2}, 2: {5, 1, 2, 0, 0, 2}, 3: {5, 1, 2, 0, 0, 2},
		} {
			b := bookOf(Command{1, 0, 1, 3 - side, 50, 5})
			c := Command{kind, 1, 2, side, 50, 7}
			if kind == 2 {
				c.Price = 0
			}
			checkDo(t, "P6", b, c, append(slices.Clone(trades), last)...)
			checkLeft(t, b, 1, 0, ErrNone)
			if kind == 1 {
				checkLeft(t, b, 2, 2, OK)
			} else {
				checkLeft(t, b, 2, 0, ErrNone)
			}
		}
	}
}

func TestWholeWithJustEnoughAndOneTooFew(t *testing.T) {
	// To buy at 51: 2 and 3 at 50, 4 at 51; what is at 52 does not count.
	sells := []Command{{1, 0, 1, 2, 50, 2}, {1, 0, 2, 2, 51, 4}, {1, 0, 3, 2, 50, 3}, {1, 0, 4, 2, 52, 50}}
	b := bookOf(sells...)
	before := stateOf(b)
	checkDo(t, "P6", b, Command{4, 1, 9, 1, 51, 10}, Event{1, 1, 9, 0, 0, 0}, Event{5, 1, 9, 0, 0, 10})
	if after := stateOf(b); after != before {
		t.Errorf("P6: a Whole with too few: %s has become %s", before, after)
	}
	checkDo(t, "P6", b, Command{4, 1, 9, 1, 51, 9}, Event{1, 1, 9, 0, 0, 0},
		Event{3, 1, 9, 1, 50, 2}, Event{3, 0, 1, 9, 50, 2}, Event{4, 0, 1, 0, 0, 0},
		Event{3, 1, 9, 3, 50, 3}, Event{3, 0, 3, 9, 50, 3}, Event{4, 0, 3, 0, 0, 0},
		Event{3, 1, 9, 2, 51, 4}, Event{3, 0, 2, 9, 51, 4}, Event{4, 0, 2, 0, 0, 0},
		Event{4, 1, 9, 0, 0, 0})
	b = bookOf(sells...)
	checkDo(t, "P6", b, Command{4, 1, 9, 1, 50, 4}, Event{1, 1, 9, 0, 0, 0},
		Event{3, 1, 9, 1, 50, 2}, Event{3, 0, 1, 9, 50, 2}, Event{4, 0, 1, 0, 0, 0},
		Event{3, 1, 9, 3, 50, 2}, Event{3, 0, 3, 9, 50, 2}, Event{4, 1, 9, 0, 0, 0})
	checkLeft(t, b, 3, 1, OK)
}

func TestWholeToSell(t *testing.T) {
	b := bookOf(Command{1, 0, 1, 1, 50, 2}, Command{1, 0, 2, 1, 49, 4}, Command{1, 0, 3, 1, 48, 99})
	checkDo(t, "P6", b, Command{4, 1, 9, 2, 49, 7}, Event{1, 1, 9, 0, 0, 0}, Event{5, 1, 9, 0, 0, 7})
	checkDo(t, "P6", b, Command{4, 1, 9, 2, 49, 6}, Event{1, 1, 9, 0, 0, 0},
		Event{3, 1, 9, 1, 50, 2}, Event{3, 0, 1, 9, 50, 2}, Event{4, 0, 1, 0, 0, 0},
		Event{3, 1, 9, 2, 49, 4}, Event{3, 0, 2, 9, 49, 4}, Event{4, 0, 2, 0, 0, 0}, Event{4, 1, 9, 0, 0, 0})
	checkDo(t, "P6", b, Command{4, 1, 9, 2, 49, 1}, Event{1, 1, 9, 0, 0, 0}, Event{5, 1, 9, 0, 0, 1})
}

func TestCancelOfEachPlace(t *testing.T) {
	for id, want := range map[int][]int{3: {1, 2}, 1: {3, 2}, 2: {3, 1}} {
		b := threeAtOnePrice()
		client := map[int]int{3: 0, 1: 1, 2: 2}[id]
		checkDo(t, "P7", b, Command{5, client, id, 0, 0, 0}, Event{1, client, id, 0, 0, 0}, Event{5, client, id, 0, 0, 4})
		checkLeft(t, b, id, 0, ErrNone)
		checkDepth(t, b, Sell, Level{50, 8, 2})
		checkTurns(t, "P7", b, want...)
	}
}

func TestCancelTellsWhatWasLeft(t *testing.T) {
	b := bookOf(Command{1, 0, 1, 1, 50, 9}, Command{3, 1, 2, 2, 50, 4})
	checkDo(t, "P7", b, Command{5, 0, 1, 0, 0, 0}, Event{1, 0, 1, 0, 0, 0}, Event{5, 0, 1, 0, 0, 5})
	checkDo(t, "P7", b, Command{2, 1, 2, 2, 0, 1}, Event{1, 1, 2, 0, 0, 0}, Event{5, 1, 2, 0, 0, 1})
}

func TestReplaceAtTheSamePrice(t *testing.T) {
	for qty, want := range map[int][]int{1: {3, 1, 2}, 3: {3, 1, 2}, 4: {3, 1, 2}, 5: {1, 2, 3}, 99: {1, 2, 3}} {
		b := threeAtOnePrice()
		checkDo(t, "P7", b, Command{6, 0, 3, 0, 50, qty}, Event{1, 0, 3, 0, 0, 0}, Event{6, 0, 3, 0, 50, qty})
		checkLeft(t, b, 3, qty, OK)
		checkDepth(t, b, Sell, Level{50, 8 + qty, 3})
		checkTurns(t, "P7", b, want...)
	}
}

// What is left counts, not what the order came with.
func TestReplaceBehindATrade(t *testing.T) {
	for qty, want := range map[int][]int{2: {3, 1, 2}, 3: {1, 2, 3}, 4: {1, 2, 3}} {
		b := threeAtOnePrice()
		b.Do(Command{3, 3, 9, 1, 50, 2})
		checkDo(t, "P7", b, Command{6, 0, 3, 0, 50, qty}, Event{1, 0, 3, 0, 0, 0}, Event{6, 0, 3, 0, 50, qty})
		checkTurns(t, "P7", b, want...)
	}
}

func TestReplaceAtAnotherPrice(t *testing.T) {
	b := threeAtOnePrice()
	checkDo(t, "P7", b, Command{6, 0, 3, 0, 51, 4}, Event{1, 0, 3, 0, 0, 0}, Event{6, 0, 3, 0, 51, 4})
	checkDepth(t, b, Sell, Level{50, 8, 2}, Level{51, 4, 1})
	checkDo(t, "P7", b, Command{6, 0, 3, 0, 50, 4}, Event{1, 0, 3, 0, 0, 0}, Event{6, 0, 3, 0, 50, 4})
	checkTurns(t, "P7", b, 1, 2, 3)
}

func TestReplaceThatMeetsOthers(t *testing.T) {
	commands := []Command{{1, 0, 1, 1, 40, 5}, {1, 1, 2, 2, 50, 3}, {1, 2, 3, 2, 51, 3}}
	b := bookOf(commands...)
	checkDo(t, "P7", b, Command{6, 0, 1, 0, 50, 4}, Event{1, 0, 1, 0, 0, 0},
		Event{3, 0, 1, 2, 50, 3}, Event{3, 1, 2, 1, 50, 3}, Event{4, 1, 2, 0, 0, 0}, Event{6, 0, 1, 0, 50, 1})
	checkDepth(t, b, Buy, Level{50, 1, 1})
	b = bookOf(commands...)
	checkDo(t, "P7", b, Command{6, 0, 1, 0, 99, 6}, Event{1, 0, 1, 0, 0, 0},
		Event{3, 0, 1, 2, 50, 3}, Event{3, 1, 2, 1, 50, 3}, Event{4, 1, 2, 0, 0, 0},
		Event{3, 0, 1, 3, 51, 3}, Event{3, 2, 3, 1, 51, 3}, Event{4, 2, 3, 0, 0, 0}, Event{4, 0, 1, 0, 0, 0})
	checkLeft(t, b, 1, 0, ErrNone)
	b = bookOf(commands...)
	checkDo(t, "P7", b, Command{6, 1, 2, 0, 1, 2}, Event{1, 1, 2, 0, 0, 0},
		Event{3, 1, 2, 1, 40, 2}, Event{3, 0, 1, 2, 40, 2}, Event{4, 1, 2, 0, 0, 0})
	checkLeft(t, b, 1, 3, OK)
}

func TestDepthOfEachSide(t *testing.T) {
	b := New()
	for id, price := range []int{50, 10, 49, 50, 1, 49} {
		b.Do(Command{1, 0, id, 1, price, id + 1})
	}
	for id, price := range []int{60, 99, 51, 60, 98, 51} {
		b.Do(Command{1, 0, id + 6, 2, price, id + 1})
	}
	checkDepth(t, b, Buy, Level{50, 5, 2}, Level{49, 9, 2}, Level{10, 2, 1}, Level{1, 5, 1})
	checkDepth(t, b, Sell, Level{51, 9, 2}, Level{60, 5, 2}, Level{98, 5, 1}, Level{99, 2, 1})
	for _, side := range append([]int{-1, 0, 3, 4}, farNumbers...) {
		checkDepth(t, b, side)
	}
	for _, id := range append([]int{-1, 12, 99, 100}, farNumbers...) {
		checkLeft(t, b, id, 0, ErrNone)
	}
}

func TestDepthAddsUpAboveTheLimits(t *testing.T) {
	b := New()
	for id := range 12 {
		b.Do(Command{1, 0, id, 1, 50, 99})
	}
	checkDepth(t, b, Buy, Level{50, 1188, 12})
	checkDo(t, "P6", b, Command{4, 1, 50, 2, 51, 99}, Event{1, 1, 50, 0, 0, 0}, Event{5, 1, 50, 0, 0, 99})
}

func TestBooksAnswerNewMemory(t *testing.T) {
	b := bookOf(Command{1, 0, 1, 1, 50, 9}, Command{1, 0, 2, 1, 50, 9}, Command{1, 0, 3, 1, 49, 9})
	before := stateOf(b)
	levels, other := b.Depth(Buy), b.Depth(Buy)
	want := slices.Clone(other)
	clear(levels[:cap(levels)])
	told := b.Do(Command{6, 0, 1, 0, 50, 9})
	again := b.Do(Command{6, 0, 1, 0, 50, 9})
	clear(told[:cap(told)])
	if !slices.Equal(other, want) || stateOf(b) != before {
		t.Errorf("P1: what is answered is kept: %v, %s", other, stateOf(b))
	}
	if !slices.Equal(again, []Event{{1, 0, 1, 0, 0, 0}, {6, 0, 1, 0, 50, 9}}) {
		t.Errorf("P1: two answers of Do share memory: %v", again)
	}
}

func TestAskingChangesNothing(t *testing.T) {
	b := fullBook()
	before := stateOf(b)
	for range 3 {
		for _, n := range []int{math.MinInt, -1, 0, 1, 2, 3, 99, math.MaxInt} {
			b.Depth(n)
			b.Left(n)
		}
	}
	if after := stateOf(b); after != before {
		t.Errorf("P2: Depth and Left have made %s of %s", after, before)
	}
}

func TestBooksShareNothing(t *testing.T) {
	a, b := fullBook(), New()
	if s := stateOf(b); s != stateOf(New()) {
		t.Errorf("P2: a new book beside a full one is %s", s)
	}
	b.Do(Command{1, 3, 1, 2, 40, 1})
	checkLeft(t, a, 1, 5, OK)
	checkLeft(t, b, 1, 1, OK)
	checkRejected(t, "P2", a, Command{1, 0, 50, 1, 1, 1}, ErrFull)
	checkDo(t, "P2", b, Command{2, 0, 50, 1, 0, 9}, Event{1, 0, 50, 0, 0, 0},
		Event{3, 0, 50, 1, 40, 1}, Event{3, 3, 1, 50, 40, 1}, Event{4, 3, 1, 0, 0, 0}, Event{5, 0, 50, 0, 0, 8})
	checkDepth(t, a, Sell, Level{60, 30, 6})
}

func TestBooksBesideEachOther(t *testing.T) {
	var all sync.WaitGroup
	for k := range 8 {
		all.Add(1)
		go func() {
			defer all.Done()
			for range 50 {
				b := New()
				for i := range 12 {
					checkDo(t, "P2", b, Command{1, k % 4, i, 1, k + 1, 9}, Event{1, k % 4, i, 0, 0, 0}, Event{6, k % 4, i, 0, k + 1, 9})
				}
				checkDepth(t, b, Buy, Level{k + 1, 108, 12})
			}
		}()
	}
	all.Wait()
}
