package bourse

// How many bytes a command has in a journal: its six numbers and their sum.
const codeLength = 10

// Encode writes a command as bytes (P9).
func Encode(c Command) (string, Errno) {
	sums := sumTable{}
	return sums.encode(c)
}

// Decode reads one (P9).
func Decode(data string) (Command, Errno) {
	sums := sumTable{}
	return sums.decode(data)
}

// Replay reads a journal (P10).
func Replay(journal string) ([]Command, int) {
	// One table for the whole journal, so that it is made once.
	sums := sumTable{}
	var commands []Command
	done := 0
	for len(journal)-done >= codeLength {
		c, err := sums.decode(journal[done : done+codeLength])
		if err != OK {
			break
		}
		commands = append(commands, c)
		done += codeLength
	}
	return commands, done
}

func (t *sumTable) encode(c Command) (string, Errno) {
	if !fair(c) {
		return "", ErrArg
	}
	// No number of a fair command is above 99, so none is cut to a byte.
	numbers := string([]byte{
		byte(c.Kind), byte(c.Client), byte(c.Id),
		byte(c.Side), byte(c.Price), byte(c.Qty),
	})
	return numbers + lowestFirst(t.sum(numbers)), OK
}

func (t *sumTable) decode(data string) (Command, Errno) {
	if len(data) != codeLength {
		return Command{}, ErrForm
	}
	c := Command{
		Kind: int(data[0]), Client: int(data[1]), Id: int(data[2]),
		Side: int(data[3]), Price: int(data[4]), Qty: int(data[5]),
	}
	// encode itself is asked, so that the two can't come to differ.
	if code, err := t.encode(c); err != OK || code != data {
		return Command{}, ErrForm
	}
	return c, OK
}

func lowestFirst(n uint32) string {
	return string([]byte{byte(n), byte(n >> 8), byte(n >> 16), byte(n >> 24)})
}
