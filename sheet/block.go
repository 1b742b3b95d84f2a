package sheet

import (
	"iter"
	"slices"
)

const (
	size     = 40            // how many bytes a block has
	checksAt = 38            // where its checks begin
	room     = checksAt - 10 // how many bytes there are for further points
)

// block is the bytes of a card, or of what is none.
type block [size]byte

// blocksOf brings the blocks of the bytes, and whether each of them is whole: what is left behind the last whole one is not.
func blocksOf(bytes []byte) iter.Seq2[block, bool] {
	return func(bring func(block, bool) bool) {
		for part := range slices.Chunk(bytes, size) {
			var b block
			isWhole := copy(b[:], part) == size
			if !bring(b, isWhole) {
				return
			}
		}
	}
}

// writer returns a function that lays bytes down on the block, each time behind those before them.
func (b *block) writer() func(bytes []byte) {
	at := 0
	return func(bytes []byte) { at += copy(b[at:checksAt], bytes) }
}

func (b block) weighted() int {
	all := 0
	for i, x := range b[:checksAt] {
		all += (i + 1) * int(x)
	}
	return all
}

func (b block) plain() int {
	all := 0
	for _, x := range b[:checksAt] {
		all += int(x)
	}
	return all
}

// sum is one of a block's bytes, for a check.
type sum struct {
	of     func(block) int
	modulo int
}

func sums() [size - checksAt]sum {
	return [...]sum{{block.weighted, 251}, {block.plain, 253}}
}

// seal lays the checks down.
func (b *block) seal() {
	for i, s := range sums() {
		b[checksAt+i] = byte(s.of(*b) % s.modulo)
	}
}

// join puts bytes behind each other.
func join(parts ...[]byte) []byte {
	var all []byte
	for _, part := range parts {
		all = append(all, part...)
	}
	return all
}

// bytesOf returns a number as so many bytes.
func bytesOf(n, many int) []byte {
	bytes := make([]byte, many)
	for i := range bytes {
		bytes[many-1-i] = byte(n >> (8 * i))
	}
	return bytes
}

// tooShort tells that there are fewer bytes than a card is said to need.
type tooShort struct{}

// reader has the bytes that are not taken yet.
type reader struct{ left []byte }

// take returns the number that the next bytes are.
func (r *reader) take(many int) int {
	if many > len(r.left) {
		panic(tooShort{})
	}
	n := 0
	for _, x := range r.left[:many] {
		n = n<<8 + int(x)
	}
	r.left = r.left[many:]
	return n
}
