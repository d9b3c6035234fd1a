package bourse

import "sync"

// The bits of the CRC-32's polynomial, the lowest power at the top (P9).
const polynomial = 0xedb88320

// sumTable holds, of each four bits that a sum can end with, what four
// halvings make of them. A call that may want sums has one of its own, so that
// nothing is kept from call to call, and the first sum fills it: see Once in
// DOC.md's Ways. Four bits and not eight, because most calls want one sum, and
// 256 words would cost more than they save.
type sumTable struct {
	once  sync.Once
	words [16]uint32
}

// sum answers the CRC-32 of data.
func (t *sumTable) sum(data string) uint32 {
	t.once.Do(t.fill)
	n := ^uint32(0)
	for i := range len(data) {
		n ^= uint32(data[i])
		n = n>>4 ^ t.words[n&15]
		n = n>>4 ^ t.words[n&15]
	}
	return ^n
}

func (t *sumTable) fill() {
	for i := range t.words {
		n := uint32(i)
		for range 4 {
			n = halve(n)
		}
		t.words[i] = n
	}
}

// halve is one step of the CRC-32.
func halve(n uint32) uint32 {
	if n&1 == 1 {
		return n>>1 ^ polynomial
	}
	return n >> 1
}
