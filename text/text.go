// Package text is layer 1: bytes as they come over a connection. See shared/doc/01-text.md.
package text

import (
	"bytes"
	"iter"
	"strings"

	"assize/api"
)

const (
	blank   = " "
	newline = 10
)

// Valid: are the bytes whole characters of UTF-8, one behind the other?
func Valid(b []byte) bool {
	for len(b) > 0 {
		size := charSize(b)
		if size == 0 {
			return false
		}
		b = b[size:]
	}
	return true
}

// charSize: how many bytes the character has that begins b (which is not empty); 0: none begins there.
func charSize(b []byte) int {
	size, low, high := charShape(b[0])
	if len(b) < size {
		return 0
	}
	switch size {
	case 4:
		if !within(b[3], 0x80, 0xbf) {
			return 0
		}
		fallthrough
	case 3:
		if !within(b[2], 0x80, 0xbf) {
			return 0
		}
		fallthrough
	case 2:
		if !within(b[1], low, high) {
			return 0
		}
	}
	return size
}

// charShape: what the first byte tells of its character: its size (0: no character begins so) and the bounds of its second byte.
// The second byte alone has bounds of its own: they shut out overlong forms, surrogates and what is above 10ffff.
func charShape(first byte) (size int, low, high byte) {
	switch {
	case first <= 0x7f:
		return 1, 0, 0
	case within(first, 0xc2, 0xdf):
		return 2, 0x80, 0xbf
	case first == 0xe0:
		return 3, 0xa0, 0xbf
	case first == 0xed:
		return 3, 0x80, 0x9f
	case within(first, 0xe1, 0xef):
		return 3, 0x80, 0xbf
	case first == 0xf0:
		return 4, 0x90, 0xbf
	case first == 0xf4:
		return 4, 0x80, 0x8f
	case within(first, 0xf1, 0xf3):
		return 4, 0x80, 0xbf
	}
	return 0, 0, 0
}

func within(b, low, high byte) bool { return low <= b && b <= high }

// Words: the words of s, in order.
func Words(s string) []string {
	var words []string
	for s != "" {
		word, rest := Cut(s)
		if word != "" { // blanks alone have no word
			words = append(words, word)
		}
		s = rest
	}
	return words
}

// Cut: the first word of s, and what stands behind the one blank that ends it.
func Cut(s string) (word, rest string) {
	word, rest, _ = strings.Cut(strings.TrimLeft(s, blank), blank)
	return word, rest
}

// Line: its text, or why it has none.
type Line struct {
	Text string
	Err  api.Errno
}

// Buffer: of a connection: the bytes of the line that has not ended yet.
type Buffer struct {
	kept []byte
	long bool // the line is longer than MaxLine: its bytes are not kept, but its end is still to come
}

// New: an empty buffer.
func New() *Buffer { return &Buffer{} }

// Feed: the lines that the chunk ends, in order.
func (b *Buffer) Feed(chunk []byte) []Line {
	if b == nil {
		return nil
	}
	var lines []Line
	for piece, ended := range pieces(chunk) {
		b.keep(piece)
		if ended {
			lines = append(lines, b.take())
		}
	}
	return lines
}

// Len: how many bytes are kept.
func (b *Buffer) Len() int {
	if b == nil {
		return 0
	}
	return len(b.kept)
}

// pieces: the chunk's bytes parted at its bytes 10, each piece with whether one ends it (all but the last).
func pieces(chunk []byte) iter.Seq2[[]byte, bool] {
	return func(yield func([]byte, bool) bool) {
		left := chunk
		for {
			end := bytes.IndexByte(left, newline)
			if end < 0 {
				yield(left, false)
				return
			}
			if !yield(left[:end], true) {
				return
			}
			left = left[end+1:]
		}
	}
}

// keep: the piece belongs to the line that has not ended yet.
func (b *Buffer) keep(piece []byte) {
	if b.long || len(piece) > api.MaxLine-len(b.kept) {
		b.kept, b.long = nil, true
		return
	}
	b.kept = append(b.kept, piece...)
}

// take: the line that ended; the next one begins with nothing kept.
func (b *Buffer) take() Line {
	ended := *b
	*b = Buffer{}
	if ended.long {
		return Line{Err: api.ErrLong}
	}
	if !Valid(ended.kept) {
		return Line{Err: api.ErrUtf8}
	}
	return Line{Text: string(ended.kept)}
}
