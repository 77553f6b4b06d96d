package line

import "quicksilver/api"

// The first bytes of each file.
const mark = "ML"

// Write returns the file of a line and its words.
func Write(l api.LnLine, words []int) ([]byte, api.Errno) {
	if e := Check(l); e != api.OK {
		return nil, e
	}
	if e := errorOfWords(l, words); e != api.OK {
		return nil, e
	}
	file := append([]byte(mark), byte(l.Words), byte(l.Bits))
	for _, word := range words {
		for range bytesOf(l.Bits) {
			file = append(file, byte(word))
			word >>= 8
		}
	}
	return append(file, -sum(file)), api.OK
}

// bytesOf returns how many bytes a word of some bits needs.
func bytesOf(bits int) int { return (bits + 7) / 8 }

// sum returns the sum of bytes, modulo 256.
func sum(file []byte) byte {
	var total byte
	for _, b := range file {
		total += b
	}
	return total
}

// Read returns the words of a file.
func Read(file []byte) (count, bits int, words []int, e api.Errno) {
	if len(file) > api.MaxLnFile {
		return 0, 0, nil, api.ErrLong
	}
	defer func() {
		if recover() != nil {
			count, bits, words, e = 0, 0, nil, api.ErrForm
		}
	}()
	r := reader{file}
	for i := range len(mark) {
		r.number(1, int(mark[i]), int(mark[i]))
	}
	count = r.number(1, 1, api.MaxLnWords)
	bits = r.number(1, 1, api.MaxLnBits)
	for range count {
		words = append(words, r.number(bytesOf(bits), 0, 1<<bits-1))
	}
	r.number(1, 0, 255)
	r.end()
	if sum(file) != 0 {
		panic(api.ErrForm)
	}
	return count, bits, words, api.OK
}

// reader is the rest of a file, which is still to be read. Its methods panic if the file goes on in another way.
type reader struct{ rest []byte }

// number reads a number of some bytes, from lo to hi.
func (r *reader) number(size, lo, hi int) int {
	if len(r.rest) < size {
		panic(api.ErrForm)
	}
	n := 0
	for i := range size {
		n |= int(r.rest[i]) << (8 * i)
	}
	r.rest = r.rest[size:]
	if !within(n, lo, hi) {
		panic(api.ErrForm)
	}
	return n
}

// end reads that there is nothing more.
func (r *reader) end() {
	if len(r.rest) > 0 {
		panic(api.ErrForm)
	}
}
