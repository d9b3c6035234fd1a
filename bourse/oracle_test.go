package bourse

import (
	"encoding/binary"
	"hash/crc32"
	"math"
)

// What the tests hold the program against: the document's limits written out
// as numbers, and the library's own CRC-32.

type span struct{ low, high int }

func (s span) has(n int) bool { return s.low <= n && n <= s.high }

// The spans of Client, Id, Side, Price and Qty of each kind, by P3.
var spans = map[int][5]span{
	1: {{0, 3}, {0, 99}, {1, 2}, {1, 99}, {1, 99}},
	2: {{0, 3}, {0, 99}, {1, 2}, {0, 0}, {1, 99}},
	3: {{0, 3}, {0, 99}, {1, 2}, {1, 99}, {1, 99}},
	4: {{0, 3}, {0, 99}, {1, 2}, {1, 99}, {1, 99}},
	5: {{0, 3}, {0, 99}, {0, 0}, {0, 0}, {0, 0}},
	6: {{0, 3}, {0, 99}, {0, 0}, {1, 99}, {1, 99}},
}

// Numbers far outside all limits, some of which end with a byte that is within.
var farNumbers = []int{
	127, 128, 255, 256, 257, 258, 261, 355, -2, -100, -255, -256,
	1 << 16, 1<<16 + 1, 1<<32 + 1, -1 << 32, 1<<40 + 2,
	math.MaxInt32, math.MinInt32, math.MaxInt, math.MinInt, math.MinInt + 1,
}

func commandOf(n [6]int) Command {
	return Command{Kind: n[0], Client: n[1], Id: n[2], Side: n[3], Price: n[4], Qty: n[5]}
}

func numbersOf(c Command) [6]int {
	return [6]int{c.Kind, c.Client, c.Id, c.Side, c.Price, c.Qty}
}

func wantFair(c Command) bool {
	limits, known := spans[c.Kind]
	if !known {
		return false
	}
	numbers := numbersOf(c)
	for i, s := range limits {
		if !s.has(numbers[i+1]) {
			return false
		}
	}
	return true
}

// withSum sets behind any bytes their right sum, fair or not.
func withSum(data string) string {
	return string(binary.LittleEndian.AppendUint32([]byte(data), crc32.ChecksumIEEE([]byte(data))))
}

func wantCode(c Command) string {
	data := ""
	for _, n := range numbersOf(c) {
		data += string([]byte{byte(n)})
	}
	return withSum(data)
}

// The lowest and the highest fair command of each kind, and one in between.
func fairSamples() []Command {
	var list []Command
	for kind := 1; kind <= 6; kind++ {
		low, mid, high := [6]int{kind}, [6]int{kind}, [6]int{kind}
		for i, s := range spans[kind] {
			low[i+1], mid[i+1], high[i+1] = s.low, (s.low+s.high)/2, s.high
		}
		list = append(list, commandOf(low), commandOf(mid), commandOf(high))
	}
	return list
}

func journalOf(commands []Command) string {
	journal := ""
	for _, c := range commands {
		journal += wantCode(c)
	}
	return journal
}

// everyCommand calls f with each command whose kind is one of kinds and whose
// other numbers are each one of numbers.
func everyCommand(kinds, numbers []int, f func(Command)) {
	for _, kind := range kinds {
		for _, client := range numbers {
			for _, id := range numbers {
				for _, side := range numbers {
					for _, price := range numbers {
						for _, qty := range numbers {
							f(commandOf([6]int{kind, client, id, side, price, qty}))
						}
					}
				}
			}
		}
	}
}
