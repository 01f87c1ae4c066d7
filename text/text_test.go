package text

import (
	"bytes"
	"slices"
	"strings"
	"testing"
	"unicode/utf8"

	"assize/api"
)

// P101: each bound that the chapter names, from both sides.
func TestValidBounds(t *testing.T) {
	cases := []struct {
		in   string
		want bool
	}{
		{"", true}, {"a", true}, {"\x00", true}, {"\x7f", true}, {"a\nb", true}, {"é→𝔸", true},
		{"\x80", false}, {"\xbf", false}, {"\xc0\x80", false}, {"\xc1\xbf", false},
		{"\xc2\x80", true}, {"\xc2\x7f", false}, {"\xc2\xc0", false}, {"\xdf\xbf", true},
		{"\xe0\x9f\xbf", false}, {"\xe0\xa0\x80", true}, {"\xe0\xbf\xbf", true}, {"\xe0\xc0\x80", false},
		{"\xe1\x80\x80", true}, {"\xe1\x7f\x80", false}, {"\xe1\x80\x7f", false}, {"\xe1\x80\xc0", false},
		{"\xed\x80\x80", true}, {"\xed\x9f\xbf", true}, {"\xed\xa0\x80", false}, {"\xed\x7f\x80", false},
		{"\xee\x80\x80", true}, {"\xef\xbf\xbf", true},
		{"\xf0\x8f\xbf\xbf", false}, {"\xf0\x90\x80\x80", true}, {"\xf0\xbf\xbf\xbf", true}, {"\xf0\xc0\x80\x80", false},
		{"\xf1\x80\x80\x80", true}, {"\xf3\xbf\xbf\xbf", true}, {"\xf1\x80\x80\x7f", false}, {"\xf1\x80\xc0\x80", false},
		{"\xf4\x80\x80\x80", true}, {"\xf4\x8f\xbf\xbf", true}, {"\xf4\x90\x80\x80", false}, {"\xf4\x7f\x80\x80", false},
		{"\xf5\x80\x80\x80", false}, {"\xff", false},
		{"\xc2", false}, {"\xe1\x80", false}, {"\xf1\x80\x80", false}, // characters that are not whole
		{"a\xc2", false}, {"\xc2\x80\x80", false}, {"é\xff", false}, {"\xffa", false}, {"\xc2a", false},
	}
	for _, c := range cases {
		if got := Valid([]byte(c.in)); got != c.want {
			t.Errorf("Valid(%q): %v, not %v", c.in, got, c.want)
		}
	}
	if !Valid(nil) {
		t.Error("Valid(nil): false")
	}
}

// P101: all bytes up to three, and all four-byte ones by the edges of each byte.
func TestValidAll(t *testing.T) {
	check := func(b ...byte) {
		if got, want := Valid(b), utf8.Valid(b); got != want {
			t.Fatalf("Valid(% x): %v, not %v", b, got, want)
		}
	}
	edges := []byte{0, 10, 0x41, 0x7f, 0x80, 0x8f, 0x90, 0x9f, 0xa0, 0xbf, 0xc0, 0xc1, 0xc2, 0xdf, 0xe0, 0xf0, 0xff}
	for x := range 256 {
		check(byte(x))
		for y := range 256 {
			check(byte(x), byte(y))
			for z := range 256 {
				check(byte(x), byte(y), byte(z))
			}
			for _, z := range edges {
				for _, w := range edges {
					check(byte(x), byte(y), z, w)
				}
			}
		}
	}
}

// P101: only the byte 0x20 parts words.
func TestWords(t *testing.T) {
	cases := []struct {
		in   string
		want []string
	}{
		{"", nil}, {" ", nil}, {"    ", nil},
		{"a", []string{"a"}}, {" a  b ", []string{"a", "b"}}, {"open s", []string{"open", "s"}},
		{"a\tb\nc\rd\u00a0e f", []string{"a\tb\nc\rd\u00a0e", "f"}},
		{"\xff \x20\x80\x00", []string{"\xff", "\x80\x00"}},
	}
	for _, c := range cases {
		if got := Words(c.in); !slices.Equal(got, c.want) {
			t.Errorf("Words(%q): %q, not %q", c.in, got, c.want)
		}
	}
	if got := len(Words(strings.Repeat("a ", 100000))); got != 100000 {
		t.Errorf("Words of a long text: %d", got)
	}
}

// P101: one blank ends the word, those behind it stay.
func TestCut(t *testing.T) {
	cases := [][3]string{
		{"", "", ""}, {"   ", "", ""}, {"a", "a", ""}, {"  a", "a", ""}, {"a ", "a", ""}, {"a  ", "a", " "},
		{"a b", "a", "b"}, {"  a  b", "a", " b"}, {"a b c ", "a", "b c "},
		{"a\tb\n c", "a\tb\n", "c"}, {"\ta b", "\ta", "b"}, {" \xff\xc2 \x80 ", "\xff\xc2", "\x80 "},
	}
	for _, c := range cases {
		if word, rest := Cut(c[0]); word != c[1] || rest != c[2] {
			t.Errorf("Cut(%q): %q, %q, not %q, %q", c[0], word, rest, c[1], c[2])
		}
	}
}

func wantLines(t *testing.T, what string, got []Line, want ...Line) {
	t.Helper()
	if !slices.Equal(got, want) {
		t.Errorf("%s: %.200q, not %.200q", what, got, want)
	}
}

// P102, P103: the chapter's example, and what is kept between.
func TestFeed(t *testing.T) {
	b := New()
	wantLines(t, "nothing", b.Feed(nil))
	wantLines(t, "no end", b.Feed([]byte("ab")))
	if b.Len() != 2 {
		t.Errorf("Len: %d, not 2", b.Len())
	}
	wantLines(t, "three ends", b.Feed([]byte("c\nd\n\n")), Line{Text: "abc"}, Line{Text: "d"}, Line{})
	if b.Len() != 0 {
		t.Errorf("Len: %d, not 0", b.Len())
	}
	wantLines(t, "an end and more", b.Feed([]byte("x\r\nyz")), Line{Text: "x\r"})
	wantLines(t, "nothing", b.Feed([]byte{}))
	if b.Len() != 2 {
		t.Errorf("Len: %d, not 2", b.Len())
	}
	wantLines(t, "end", b.Feed([]byte("\n")), Line{Text: "yz"})
	wantLines(t, "blanks and zeros", b.Feed([]byte("  \x00 \n")), Line{Text: "  \x00 "})
}

// P102: bytes that are no UTF-8 take their line alone; a character that a byte 10 cuts is not whole.
func TestFeedUtf8(t *testing.T) {
	b := New()
	bad := Line{Err: api.ErrUtf8}
	wantLines(t, "a bad one between", b.Feed([]byte("a\n\xff\nb\n")), Line{Text: "a"}, bad, Line{Text: "b"})
	wantLines(t, "cut by a line's end", b.Feed([]byte("\xc3\n\xa9\n")), bad, bad)
	wantLines(t, "cut by a chunk's end", b.Feed([]byte("\xc3")))
	wantLines(t, "its other half", b.Feed([]byte("\xa9\n")), Line{Text: "é"})
}

// P102, P103: at the limit, one beyond it, and far beyond it; what comes next is whole again.
func TestFeedLong(t *testing.T) {
	full := strings.Repeat("a", api.MaxLine)
	b := New()
	long := Line{Err: api.ErrLong}
	wantLines(t, "at the limit", b.Feed([]byte(full+"\n")), Line{Text: full})
	wantLines(t, "one beyond", b.Feed([]byte(full+"b\nc\n")), long, Line{Text: "c"})
	wantLines(t, "long comes ahead of UTF-8", b.Feed([]byte("\xff"+full+"\n")), long)
	wantLines(t, "as long, no UTF-8", b.Feed([]byte("\xff"+full[1:]+"\n")), Line{Err: api.ErrUtf8})
	b.Feed([]byte(full))
	if b.Len() != api.MaxLine {
		t.Errorf("Len at the limit: %d", b.Len())
	}
	b.Feed([]byte("b"))
	if b.Len() != 0 {
		t.Errorf("Len one beyond: %d", b.Len())
	}
	wantLines(t, "still the same line", b.Feed([]byte("short")))
	if b.Len() != 0 {
		t.Errorf("Len beyond: %d", b.Len())
	}
	wantLines(t, "its end", b.Feed([]byte("\nnext")), long)
	if b.Len() != 4 {
		t.Errorf("Len of the next: %d", b.Len())
	}
	wantLines(t, "the next", b.Feed([]byte("\n")), Line{Text: "next"})
	wantLines(t, "a full one in two", append(b.Feed([]byte(full[:100])), b.Feed([]byte(full[100:]+"\n"))...), Line{Text: full})
}

// P103: of nil.
func TestNilBuffer(t *testing.T) {
	var b *Buffer
	if b.Len() != 0 || len(b.Feed([]byte("a\n"))) != 0 {
		t.Error("a nil buffer answers something")
	}
}

// P104: however the bytes are parted, the lines are the same, and so is what is kept.
func TestParts(t *testing.T) {
	all := []byte("ab\n\n é→𝔸\xf0\x9d\x94\n\xff\xfe\nx" + "\n" + strings.Repeat("é", api.MaxLine/2) + "\n" +
		strings.Repeat("b", api.MaxLine+1) + "\n" + strings.Repeat("\xff", 2*api.MaxLine) + "\nlast\nrest é")
	whole := New()
	want := whole.Feed(all)
	if len(want) != 9 || whole.Len() != len("rest é") {
		t.Fatalf("%d lines, %d kept", len(want), whole.Len())
	}
	for _, size := range []int{1, 2, 3, 7, 1000, api.MaxLine - 1, api.MaxLine, api.MaxLine + 1} {
		b := New()
		var got []Line
		for chunk := range slices.Chunk(all, size) {
			got = append(got, b.Feed(chunk)...)
			if b.Len() > api.MaxLine || len(b.kept) > api.MaxLine {
				t.Fatalf("parts of %d: %d bytes kept", size, b.Len())
			}
		}
		wantLines(t, "parts", got, want...)
		if b.Len() != whole.Len() {
			t.Errorf("parts of %d: %d kept", size, b.Len())
		}
	}
}

// P104: every way to part a short text into three, with Len as the chapter counts it.
func TestPartsOfShort(t *testing.T) {
	all := []byte("é\n\xc3\n\n→a\nb\xf0\x9f")
	want := New().Feed(all)
	for i := range len(all) + 1 {
		for j := i; j <= len(all); j++ {
			b := New()
			var got []Line
			end := 0
			for _, next := range []int{i, j, len(all)} {
				got = append(got, b.Feed(all[end:next])...)
				end = next
				if kept := end - 1 - bytes.LastIndexByte(all[:end], 10); b.Len() != kept {
					t.Errorf("parted at %d, %d: %d kept behind %d bytes, not %d", i, j, b.Len(), end, kept)
				}
			}
			wantLines(t, "parts", got, want...)
		}
	}
}

// P102: a range over a chunk's pieces may be left early, and made anew.
func TestPieces(t *testing.T) {
	all := pieces([]byte("a\nb\nc"))
	for piece, ended := range all {
		if string(piece) != "a" || !ended {
			t.Errorf("first piece: %q, %v", piece, ended)
		}
		break
	}
	var got []string
	for piece, ended := range all {
		if ended != (len(got) < 2) {
			t.Errorf("piece %d: ended %v", len(got), ended)
		}
		got = append(got, string(piece))
	}
	if !slices.Equal(got, []string{"a", "b", "c"}) {
		t.Errorf("pieces: %q", got)
	}
}

// Rule 4: a chunk is neither changed nor kept, its spare room neither; buffers share nothing.
func TestFeedKeepsApart(t *testing.T) {
	room := []byte("ab\ncdSPARE")
	chunk := room[:5]
	b, other := New(), New()
	lines := b.Feed(chunk)
	b.Feed([]byte("ef"))
	if string(room) != "ab\ncdSPARE" {
		t.Errorf("the chunk became %q", room)
	}
	copy(room, "XXXXXXXXXX")
	wantLines(t, "handed out", lines, Line{Text: "ab"})
	wantLines(t, "another buffer", other.Feed([]byte("\n")), Line{})
	wantLines(t, "kept", b.Feed([]byte("\n")), Line{Text: "cdef"})
}

func FuzzFeed(f *testing.F) {
	f.Add([]byte("ab\nc\xffd\n\né"), 3)
	f.Fuzz(func(t *testing.T, all []byte, at int) {
		at = min(max(at, 0), len(all))
		b := New()
		got := append(b.Feed(all[:at]), b.Feed(all[at:])...)
		parts := bytes.Split(all, []byte{10})
		var want []Line
		for _, p := range parts[:len(parts)-1] {
			line := Line{Text: string(p)}
			if len(p) > api.MaxLine {
				line = Line{Err: api.ErrLong}
			} else if !utf8.Valid(p) {
				line = Line{Err: api.ErrUtf8}
			}
			want = append(want, line)
		}
		wantLines(t, "Feed", got, want...)
	})
}
