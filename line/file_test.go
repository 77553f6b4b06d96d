package line_test

import (
	"math/rand/v2"
	"slices"
	"testing"

	"quicksilver/api"
	"quicksilver/line"
)

// sealed returns bytes with a last one by which their sum is divisible by 256.
func sealed(file ...byte) []byte {
	var last byte
	for _, b := range file {
		last -= b
	}
	return append(file, last)
}

// P1.8: files, with the example.
func TestWriteAndRead(t *testing.T) {
	for i, c := range []struct {
		l     api.LnLine
		words []int
		want  []byte
	}{
		{lineA(), []int{1, 128, 0, 255}, []byte{77, 76, 4, 8, 1, 128, 0, 255, 219}},
		{api.LnLine{Words: 1, Bits: 1, Period: 2}, []int{1}, sealed(77, 76, 1, 1, 1)},
		{api.LnLine{Words: 2, Bits: 7, Period: 2}, []int{127, 3}, sealed(77, 76, 2, 7, 127, 3)},
		{api.LnLine{Words: 2, Bits: 9, Period: 2}, []int{511, 258}, sealed(77, 76, 2, 9, 255, 1, 2, 1)},
		{api.LnLine{Words: 1, Bits: 16, Period: 2}, []int{0x1234}, sealed(77, 76, 1, 16, 0x34, 0x12)},
		{api.LnLine{Words: 1, Bits: 17, Period: 2}, []int{0x10203}, sealed(77, 76, 1, 17, 3, 2, 1)},
		{api.LnLine{Words: 1, Bits: 40, Period: 2}, []int{0x0102030405}, sealed(77, 76, 1, 40, 5, 4, 3, 2, 1)},
	} {
		if file, e := line.Write(c.l, c.words); !slices.Equal(file, c.want) || e != api.OK {
			t.Errorf("%d: Write = %v, %d", i, file, e)
		}
		if count, bits, words, e := line.Read(c.want); count != c.l.Words || bits != c.l.Bits || !slices.Equal(words, c.words) || e != api.OK {
			t.Errorf("%d: Read = %d, %d, %v, %d", i, count, bits, words, e)
		}
	}
}

// P1.8: the errors of Write.
func TestWriteErrors(t *testing.T) {
	wide := api.LnLine{Words: 1, Bits: 40, Period: 2}
	for i, c := range []struct {
		l     api.LnLine
		words []int
		e     api.Errno
	}{
		{lineA(), nil, api.ErrLong},
		{lineA(), []int{-1, 0, 0}, api.ErrLong},
		{lineA(), []int{0, 0, 0, 0, 256}, api.ErrLong},
		{lineA(), []int{0, 0, 0, 256}, api.ErrRange},
		{lineA(), []int{-1, 0, 0, 0}, api.ErrRange},
		{wide, []int{1 << 40}, api.ErrRange},
		{wide, []int{1<<40 - 1}, api.OK},
	} {
		if file, e := line.Write(c.l, c.words); e != c.e || e != api.OK && len(file) != 0 {
			t.Errorf("%d: Write = %v, %d", i, file, e)
		}
	}
}

// P1.8: the errors of Read.
func TestReadErrors(t *testing.T) {
	file := []byte{77, 76, 4, 8, 1, 128, 0, 255, 219}
	bad := [][]byte{nil, {}, {0}, make([]byte, 400),
		sealed(), sealed(77), sealed(77, 76), sealed(77, 76, 1),
		sealed(76, 77, 1, 8, 1), // other letters
		sealed(77, 76, 0, 8),    // no words
		sealed(append([]byte{77, 76, 65, 1}, make([]byte, 65)...)...), // too many
		sealed(77, 76, 1, 0), // no bits
		sealed(77, 76, 1, 0, 0),
		sealed(77, 76, 1, 41, 0, 0, 0, 0, 0, 0), // too many
		sealed(77, 76, 2, 8, 1),                 // a word too few
		sealed(77, 76, 2, 8, 1, 2, 3),           // a word too many
		sealed(77, 76, 1, 9, 1),                 // a byte too few
		sealed(77, 76, 1, 1, 2),                 // words that are too great
		sealed(77, 76, 1, 9, 0, 2),
		sealed(77, 76, 1, 39, 0, 0, 0, 0, 128),
		append(slices.Clone(file), 0),
	}
	for n := range file { // files that end too early
		bad = append(bad, file[:n])
	}
	for i, b := range bad {
		if count, bits, words, e := line.Read(b); count != 0 || bits != 0 || len(words) != 0 || e != api.ErrForm {
			t.Errorf("%d: Read = %d, %d, %v, %d", i, count, bits, words, e)
		}
	}
	for _, size := range []int{401, 1000} {
		long := append(slices.Clone(file), make([]byte, size-len(file))...)
		if count, bits, words, e := line.Read(long); count != 0 || bits != 0 || len(words) != 0 || e != api.ErrLong {
			t.Errorf("Read = %d, %d, %v, %d", count, bits, words, e)
		}
	}
}

// P1.14: Read of what Write returns is the words, and Write of what Read returns is the same bytes; if one byte is another one, Read returns ErrForm.
func TestFilesByteForByte(t *testing.T) {
	r := rand.New(rand.NewPCG(31, 32))
	for i := range 300 {
		l := api.LnLine{Words: between(r, 1, 64), Bits: between(r, 1, 40), Period: 2}
		if i == 0 {
			l.Words, l.Bits = 64, 40
		}
		words := someWords(r, l)
		file, e := line.Write(l, words)
		if e != api.OK || len(file) > api.MaxLnFile {
			t.Fatalf("Write of %v, %v = %v, %d", l, words, file, e)
		}
		count, bits, read, e := line.Read(file)
		if count != l.Words || bits != l.Bits || !slices.Equal(read, words) || e != api.OK {
			t.Fatalf("Read of %v = %d, %d, %v, %d", file, count, bits, read, e)
		}
		at := r.IntN(len(file))
		was := file[at]
		for other := range 256 {
			file[at] = byte(other)
			if _, _, _, e := line.Read(file); (e == api.OK) != (byte(other) == was) || e != api.OK && e != api.ErrForm {
				t.Fatalf("byte %d, which is %d, as %d: Read: %d", at, was, other, e)
			}
		}
	}
}

// P1.14: whatever Read accepts is what Write returns, byte for byte.
func TestReadOfAnyBytes(t *testing.T) {
	r := rand.New(rand.NewPCG(33, 34))
	accepted := 0
	for range 200000 {
		file := []byte{77, 76, byte(r.IntN(5)), byte(r.IntN(20))}
		for range r.IntN(8) {
			file = append(file, byte(r.IntN(256)))
		}
		file = sealed(file...)
		count, bits, words, e := line.Read(file)
		if e != api.OK {
			continue
		}
		accepted++
		if again, e := line.Write(api.LnLine{Words: count, Bits: bits, Period: 2}, words); !slices.Equal(again, file) || e != api.OK {
			t.Fatalf("Read of %v = %d, %d, %v; Write = %v, %d", file, count, bits, words, again, e)
		}
	}
	if accepted < 1000 {
		t.Errorf("only %d files were accepted", accepted)
	}
}
