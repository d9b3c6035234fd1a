package bourse

import (
	"hash/crc32"
	"strings"
	"sync"
	"testing"
)

func TestSumIsTheCRC32(t *testing.T) {
	sums := sumTable{}
	data := "123456789"
	if n := sums.sum(data); n != 0xcbf43926 {
		t.Errorf("P9: the sum of %q is %#x", data, n)
	}
	for b := range 256 {
		for n := range 20 {
			data := strings.Repeat(string([]byte{byte(b), byte(b * n)}), n)
			if got, want := sums.sum(data), crc32.ChecksumIEEE([]byte(data)); got != want {
				t.Errorf("P9: the sum of %q is %#x, want %#x", data, got, want)
			}
		}
	}
}

func TestTableIsMadeWhenItIsWantedFirst(t *testing.T) {
	table := sumTable{}
	if table.words != [16]uint32{} {
		t.Error("Ways, Once: the table is there before it is wanted")
	}
	table.encode(Command{})
	table.decode("no command")
	if table.words != [16]uint32{} {
		t.Error("Ways, Once: the table is made for what has no sum")
	}
	table.sum("")
	if table.words == [16]uint32{} {
		t.Error("Ways, Once: the table is not made when it is wanted")
	}
	marked := [16]uint32{1: 1}
	table.words = marked
	table.sum("x")
	if table.words != marked {
		t.Error("Ways, Once: the table is made more than once")
	}
}

func TestTableWantedByManyAtOnce(t *testing.T) {
	for range 200 {
		table := sumTable{}
		got := [8]uint32{}
		var all sync.WaitGroup
		for i := range got {
			all.Add(1)
			go func() {
				defer all.Done()
				got[i] = table.sum("123456789")
			}()
		}
		all.Wait()
		for i, n := range got {
			if n != 0xcbf43926 {
				t.Errorf("P2: goroutine %d has the sum %#x", i, n)
			}
		}
	}
}
