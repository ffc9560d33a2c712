package body

import (
	"math"
	"strconv"
	"strings"
	"testing"

	"crossroad/api"
)

const inChunks = -1

func fed(length int, s string) *Body {
	b := New(length)
	feed(b, s)
	return b
}

func feed(b *Body, s string) {
	for i := range len(s) {
		b.Feed(s[i])
	}
}

// fill: so many bytes, and not all the same.
func fill(n int) string {
	var out strings.Builder
	for i := range n {
		out.WriteByte(byte('a' + i%26))
	}
	return out.String()
}

// chunkOf: a chunk with its size ahead and the empty line behind it.
func chunkOf(n int) string {
	return strconv.FormatInt(int64(n), 16) + "\r\n" + fill(n) + "\r\n"
}

func is(t *testing.T, what string, b *Body, done bool, status int, data string) {
	t.Helper()
	if b.Done() != done || b.Status() != status || b.Data() != data {
		t.Errorf("%q: done %v, status %d, data %q (%d bytes); want %v, %d, %q (%d bytes)",
			what, b.Done(), b.Status(), b.Data(), len(b.Data()), done, status, data, len(data))
	}
}

// endsAtLast: is it done by the last byte of s, not by one ahead, and does nothing come of bytes behind that?
func endsAtLast(t *testing.T, length int, s string, status int, data string) {
	t.Helper()
	b := fed(length, s[:len(s)-1])
	if b.Done() || b.Status() != 0 {
		t.Errorf("%q: done ahead of its last byte, status %d", s, b.Status())
	}
	b.Feed(s[len(s)-1])
	is(t, s, b, true, status, data)
	feed(b, "0\r\n\r\n1\r\nx\r\nmore\n")
	is(t, s+" and more", b, true, status, data)
}

// wrong: is it done by the last byte of s, in chunks, with that status?
func wrong(t *testing.T, s string, status int, data string) {
	t.Helper()
	endsAtLast(t, inChunks, s, status, data)
}

// whole: is it done by the last byte of s, in chunks, with nothing wrong?
func whole(t *testing.T, s, data string) {
	t.Helper()
	endsAtLast(t, inChunks, s, 0, data)
}

// open: is nothing wrong with s so far, and isn't it done?
func open(t *testing.T, s, data string) {
	t.Helper()
	is(t, s, fed(inChunks, s), false, 0, data)
}

func TestLengthNone(t *testing.T) {
	b := New(0)
	is(t, "none", b, true, 0, "")
	feed(b, "0\r\n\r\nab")
	is(t, "none, and more", b, true, 0, "")
}

func TestLength(t *testing.T) {
	is(t, "nothing yet", New(1), false, 0, "")
	is(t, "ab", fed(3, "ab"), false, 0, "ab")
	for _, n := range []int{1, 2, 3, 200, 201, 599, 600} {
		endsAtLast(t, n, fill(n), 0, fill(n))
	}
	// No byte means anything there.
	for _, s := range []string{"\r", "\n", "a\rb\nc", "0\r\n\r\n", "\x00\xff\x80", "2\r\nab\r\n"} {
		endsAtLast(t, len(s), s, 0, s)
	}
}

func TestLengthAboveMost(t *testing.T) {
	for _, n := range []int{601, 602, 5000, math.MaxInt} {
		is(t, strconv.Itoa(n), New(n), false, 0, "")
		is(t, strconv.Itoa(n), fed(n, fill(600)), false, 0, fill(600))
		endsAtLast(t, n, fill(601), api.TooBig, fill(600))
	}
}

func TestBelowNoneIsInChunks(t *testing.T) {
	for _, n := range []int{-1, -2, -600, math.MinInt} {
		is(t, strconv.Itoa(n), New(n), false, 0, "")
		endsAtLast(t, n, "1\r\na\r\n0\r\n\r\n", 0, "a")
	}
}

func TestChunked(t *testing.T) {
	whole(t, "0\r\n\r\n", "")
	whole(t, "2\r\nab\r\n1\r\nc\r\n0\r\n\r\n", "abc")
	// What a chunk holds is no line.
	whole(t, "3\r\n\r\n\n\r\n5\r\n0\r\n\r\n\r\n2\r\n\n\r\r\n0\r\n\r\n", "\r\n\n0\r\n\r\n\n\r")
	whole(t, "2\r\n\x00\xff\r\n0\r\n\r\n", "\x00\xff")
	for _, s := range []string{"", "2", "2\r", "2\r\n"} {
		open(t, s, "")
	}
	for _, s := range []string{"", "\r", "\r\n", "\r\n0", "\r\n0\r", "\r\n0\r\n", "\r\n0\r\n\r"} {
		open(t, "2\r\nab"+s, "ab")
	}
	open(t, "2\r\na", "a")
	open(t, "2\r\nab\r\n1\r\nc\r\n", "abc")
}

func TestSizes(t *testing.T) {
	end := "\r\n0\r\n\r\n"
	for size, n := range map[string]int{
		"1": 1, "01": 1, "000000000000000000000001": 1, "9": 9, "a": 10, "A": 10, "f": 15, "F": 15, "10": 16,
		"1f": 31, "1F": 31, "aB": 171, "Ab": 171, "fF": 255, "257": 599, "258": 600, "0258": 600,
	} {
		whole(t, size+"\r\n"+fill(n)+end, fill(n))
	}
	for _, zero := range []string{"0", "00", "0000000000000000000000"} {
		whole(t, "1\r\na\r\n"+zero+"\r\n\r\n", "a")
	}
	// What stands behind a ; isn't looked at.
	for _, s := range []string{";", ";x", ";;", ";x=y;z", "; 9", ";259", ";\x00\xff\t", ";1;2", `;x="é"`} {
		whole(t, "A"+s+"\r\n"+fill(10)+"\r\n0"+s+"\r\n\r\n", fill(10))
	}
}

func TestSizesThatAreNone(t *testing.T) {
	for _, size := range []string{
		"", ";", ";1", ";x", "x", "g", "G", "-1", "+1", "0x1", "1h", "1 ", " 1", "1 ;x", "\t1", "1\t", "1,2", "1.0", "1_0", "é", "\x00", "1\x00", "\xff", "1 2",
		// Above what Number tells.
		"40000001", "ffffffffffffffffffffffff",
	} {
		wrong(t, size+"\r\n", api.Bad, "")
		wrong(t, "2\r\nab\r\n"+size+"\r\n", api.Bad, "ab")
	}
}

func TestSizesTooBig(t *testing.T) {
	for _, size := range []string{"259", "0259", "259;x", "2bc", "2BC", "fff", "40000000"} {
		wrong(t, size+"\r\n", api.TooBig, "")
		wrong(t, "2\r\nab\r\n"+size+"\r\n", api.TooBig, "ab")
	}
	whole(t, chunkOf(600)+"0\r\n\r\n", fill(600))
}

func TestBytesInAll(t *testing.T) {
	whole(t, chunkOf(599)+chunkOf(1)+"0\r\n\r\n", fill(599)+"a")
	whole(t, chunkOf(300)+chunkOf(300)+"0\r\n\r\n", fill(300)+fill(300))
	whole(t, strings.Repeat(chunkOf(1), 600)+"0\r\n\r\n", strings.Repeat("a", 600))
	// A size whose bytes would be too many is not told by itself: the first byte above is.
	open(t, chunkOf(600)+"1\r\n", fill(600))
	open(t, chunkOf(600)+"258\r\n", fill(600))
	wrong(t, chunkOf(600)+"1\r\nx", api.TooBig, fill(600))
	wrong(t, chunkOf(600)+"258\r\nx", api.TooBig, fill(600))
	wrong(t, chunkOf(600)+"1\r\n\r", api.TooBig, fill(600))
	wrong(t, chunkOf(599)+"2\r\nxy", api.TooBig, fill(599)+"x")
	wrong(t, chunkOf(400)+"c9\r\n"+fill(201), api.TooBig, fill(400)+fill(200))
	wrong(t, strings.Repeat(chunkOf(1), 600)+"1\r\nx", api.TooBig, strings.Repeat("a", 600))
	wrong(t, chunkOf(600)+"259\r\n", api.TooBig, fill(600))
	wrong(t, chunkOf(600)+"x\r\n", api.Bad, fill(600))
	wrong(t, chunkOf(600)[:600+5]+"x\r\n", api.Bad, fill(600))
}

func TestEndsOfLines(t *testing.T) {
	// Ahead of the line that is wrong: of a size, behind a chunk, of the next size, behind the last chunk.
	for ahead, data := range map[string]string{"": "", "2\r\nab": "ab", "2\r\nab\r\n": "ab", "2\r\nab\r\n0\r\n": "ab", "0\r\nx: y\r\n": "", "0\r\n": ""} {
		for _, s := range []string{"\n", "\rx", "\r\r", "\r\x00", "\r0", "1\n", "1\rx", "1\r\r", "1\r;", "1;x\n", "1;\r1", "x\n", "x: y\n", "x\r:", "x\r\r"} {
			wrong(t, ahead+s, api.Bad, data)
		}
	}
}

func TestLinesBehindChunks(t *testing.T) {
	for _, s := range []string{"x", "b", "0", "1", ";", " ", "\t", "\x00", "ab", fill(198)} {
		wrong(t, "1\r\na"+s+"\r\n", api.Bad, "a")
		wrong(t, "1\r\na\r\n2\r\nbc"+s+"\r\n", api.Bad, "abc")
	}
}

func TestLinesBehindTheLastChunk(t *testing.T) {
	for _, lines := range []string{
		"x: y\r\n", "x\r\n", "0\r\n", "1\r\n", ":\r\n", " \r\n", "\x00\xff\r\n", "259\r\nx;y\r\n", strings.Repeat("x: y\r\n", 1000),
	} {
		whole(t, "0\r\n"+lines+"\r\n", "")
		whole(t, "1\r\na\r\n0;z\r\n"+lines+"\r\n", "a")
		open(t, "1\r\na\r\n0\r\n"+lines, "a")
	}
}

func TestLinesLength(t *testing.T) {
	// Bytes ahead of a line, the line's first ones, and what came by then.
	for _, c := range []struct{ ahead, line, data string }{
		{"", "1;", ""}, {"", "0;", ""}, {"2\r\nab\r\n", "1;", "ab"}, {"0\r\n", "x", ""}, {"0\r\n", "x: y\r\n", ""}, {"2\r\nab\r\n0\r\nx\r\n", "y", "ab"},
		{"", strings.Repeat("0", 150), ""}, {"", strings.Repeat("0", 150) + "1;", ""},
	} {
		first := c.line[:strings.LastIndex(c.line, "\n")+1]
		ahead, line := c.ahead+first, c.line[len(first):]
		of := func(n int) string { return line + strings.Repeat("0", n-len(line)) }
		open(t, ahead+of(198)+"\r\n", c.data)
		open(t, ahead+of(199)+"\r", c.data)
		open(t, ahead+of(200), c.data)
		wrong(t, ahead+of(199)+"\r\n", api.LongHead, c.data)
		wrong(t, ahead+of(200)+"\r", api.LongHead, c.data)
		wrong(t, ahead+of(201), api.LongHead, c.data)
	}
	whole(t, "1;"+fill(196)+"\r\na\r\n0;"+fill(196)+"\r\n"+fill(198)+"\r\n"+fill(198)+"\r\n\r\n", "a")
	// Bytes are counted, not runes.
	wrong(t, "1;"+strings.Repeat("é", 99)+"x", api.LongHead, "")
	// A line that isn't ended is none yet: its length is told.
	wrong(t, fill(201), api.LongHead, "")
	wrong(t, "1\r\na"+fill(201), api.LongHead, "a")
	wrong(t, strings.Repeat(";", 201), api.LongHead, "")
}

func TestFirstNamedIsTold(t *testing.T) {
	// By the byte that makes a line too long something else is seen, which is named ahead of that.
	wrong(t, "1;"+fill(198)+"\n", api.Bad, "")
	wrong(t, "1;"+fill(197)+"\rx", api.Bad, "")
	wrong(t, "0\r\n"+fill(200)+"\n", api.Bad, "")
	wrong(t, "0\r\n"+fill(199)+"\rx", api.Bad, "")
	wrong(t, "x"+fill(198)+"\r\n", api.Bad, "")
	wrong(t, ";"+fill(198)+"\r\n", api.Bad, "")
	wrong(t, "1\r\na"+fill(199)+"\r\n", api.Bad, "a")
	// A size that is too big is named behind it.
	wrong(t, "259;"+fill(195)+"\r\n", api.LongHead, "")
	wrong(t, "259;"+fill(194)+"\r\n", api.TooBig, "")
}

func TestDataIsNewMemory(t *testing.T) {
	b := fed(4, "ab")
	before := b.Data()
	feed(b, "cd")
	if before != "ab" || b.Data() != "abcd" {
		t.Errorf("%q, %q", before, b.Data())
	}
	// Two bodies have nothing in common.
	c, d := New(inChunks), New(inChunks)
	feed(c, "2\r\nab")
	feed(d, "1\r\nz\r\n0\r\n\r\n")
	feed(c, "\r\n0\r\n\r\n")
	is(t, "c", c, true, 0, "ab")
	is(t, "d", d, true, 0, "z")
}

func TestChunks(t *testing.T) {
	for _, c := range []struct {
		s    string
		n    int
		want string
	}{
		{"", 5, "0\r\n\r\n"}, {"", 1, "0\r\n\r\n"}, {"", 0, "0\r\n\r\n"}, {"", -1, "0\r\n\r\n"}, {"", math.MaxInt, "0\r\n\r\n"},
		{"abc", 2, "2\r\nab\r\n1\r\nc\r\n0\r\n\r\n"},
		{"abcd", 2, "2\r\nab\r\n2\r\ncd\r\n0\r\n\r\n"},
		{"abc", 3, "3\r\nabc\r\n0\r\n\r\n"},
		{"abc", 4, "3\r\nabc\r\n0\r\n\r\n"},
		{"abc", math.MaxInt, "3\r\nabc\r\n0\r\n\r\n"},
		{"abc", 1, "1\r\na\r\n1\r\nb\r\n1\r\nc\r\n0\r\n\r\n"},
		{"abc", 0, "1\r\na\r\n1\r\nb\r\n1\r\nc\r\n0\r\n\r\n"},
		{"ab", -1, "1\r\na\r\n1\r\nb\r\n0\r\n\r\n"},
		{"ab", -2, "1\r\na\r\n1\r\nb\r\n0\r\n\r\n"},
		{"ab", math.MinInt, "1\r\na\r\n1\r\nb\r\n0\r\n\r\n"},
		{"\r\n\x00\xffé", 2, "2\r\n\r\n\r\n2\r\n\x00\xff\r\n2\r\né\r\n0\r\n\r\n"},
		{fill(12), 10, "a\r\n" + fill(10) + "\r\n2\r\nkl\r\n0\r\n\r\n"},
		{fill(31), 31, "1f\r\n" + fill(31) + "\r\n0\r\n\r\n"},
		{fill(5000), 5000, "1388\r\n" + fill(5000) + "\r\n0\r\n\r\n"},
		{fill(700), 699, "2bb\r\n" + fill(699) + "\r\n1\r\n" + fill(700)[699:] + "\r\n0\r\n\r\n"},
	} {
		if got := Chunks(c.s, c.n); got != c.want {
			t.Errorf("Chunks(%q, %d) = %q, want %q", c.s, c.n, got, c.want)
		}
	}
}

func TestChunksComeBack(t *testing.T) {
	for _, length := range []int{0, 1, 2, 15, 16, 17, 31, 255, 256, 599, 600} {
		for _, n := range []int{-1, 0, 1, 2, 3, 10, 16, 255, 256, 299, 300, 599, 600, 601, math.MaxInt} {
			whole(t, Chunks(fill(length), n), fill(length))
		}
	}
	for _, n := range []int{1, 7, 300, 600} {
		b := fed(inChunks, Chunks(fill(601), n))
		is(t, "601 bytes in chunks", b, true, api.TooBig, fill(600))
	}
	is(t, "601 bytes in one chunk", fed(inChunks, Chunks(fill(601), 601)), true, api.TooBig, "")
}

// FuzzFeed: whatever comes, nothing of it panics, and the bounds hold.
func FuzzFeed(f *testing.F) {
	f.Add(inChunks, "2;x\r\nab\r\n0\r\nt: r\r\n\r\nmore")
	f.Add(3, "abcd")
	f.Fuzz(func(t *testing.T, length int, s string) {
		b := New(length)
		for i := range len(s) {
			done, status, data := b.Done(), b.Status(), b.Data()
			b.Feed(s[i])
			if done && (!b.Done() || b.Status() != status || b.Data() != data) {
				t.Fatalf("%q: changed once it was done, by byte %d", s, i)
			}
			if !strings.HasPrefix(b.Data(), data) || len(b.Data()) > api.MaxBody || !b.Done() && b.Status() != 0 {
				t.Fatalf("%q: %d bytes, status %d, by byte %d", s, len(b.Data()), b.Status(), i)
			}
		}
	})
}
