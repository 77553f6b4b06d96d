package library

import "quicksilver/api"

// tapeOf returns the tape of a catalogue.
func tapeOf(cat []api.LiEntry) []int {
	tape := []int{len(cat)}
	for _, entry := range cat {
		c := entry.Code
		tape = append(tape, len(entry.Name))
		for _, b := range []byte(entry.Name) {
			tape = append(tape, int(b))
		}
		tape = append(tape, entry.Version, len(c.Words), c.Entry, c.Exit, c.Result, len(c.Args))
		tape = append(tape, c.Args...)
		for i, word := range c.Words {
			tape = append(tape, word, c.Masks[i])
		}
	}
	return append(tape, sum(tape))
}

// sum returns the check sum of words.
func sum(words []int) int {
	total := 0
	for _, word := range words {
		total += word
	}
	return total % api.OrWord
}

// catalogueOf returns the catalogue of a tape, and the last word of the tape, whatever it is.
func catalogueOf(tape []int) (cat []api.LiEntry, last int, e api.Errno) {
	defer func() {
		if recover() != nil {
			cat, last, e = nil, 0, api.ErrForm
		}
	}()
	r := reader{tape}
	for range r.numberWithin(0, api.MaxLiEntries) {
		cat = append(cat, r.entry())
	}
	last = r.number()
	r.mustBe(len(r.rest) == 0)
	r.mustBe(errorOfCatalogue(cat) == api.OK)
	return cat, last, api.OK
}

// reader is the rest of a tape, which is still to be read. Its methods panic if the tape goes on in another way.
type reader struct{ rest []int }

// entry reads an entry, which can have errors still, but for how many numbers there are of each sort.
func (r *reader) entry() api.LiEntry {
	var name []byte
	for range r.numberWithin(1, api.MaxName) {
		// A greater number must not become a byte of a name.
		b := byte(r.numberWithin(0, 255))
		name = append(name, b)
	}
	entry := api.LiEntry{Name: string(name)}
	entry.Version = r.number()
	c := &entry.Code
	words := r.numberWithin(1, api.MaxLiWords)
	c.Entry = r.number()
	c.Exit = r.number()
	c.Result = r.number()
	for range r.numberWithin(1, api.MaxLiArgs) {
		place := r.number()
		c.Args = append(c.Args, place)
	}
	for range words {
		word := r.number()
		mask := r.number()
		c.Words, c.Masks = append(c.Words, word), append(c.Masks, mask)
	}
	return entry
}

// numberWithin reads a number from a least one to a greatest one.
func (r *reader) numberWithin(least, greatest int) int {
	n := r.number()
	r.mustBe(within(least, greatest, n))
	return n
}

// number reads any number.
func (r *reader) number() int {
	r.mustBe(len(r.rest) > 0)
	n := r.rest[0]
	r.rest = r.rest[1:]
	return n
}

// mustBe panics if this is not the tape of a catalogue.
func (r *reader) mustBe(so bool) {
	if !so {
		panic(api.ErrForm)
	}
}
