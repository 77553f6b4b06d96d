package library

import (
	"quicksilver/api"
	"quicksilver/line"
)

// errorOfRoutine returns the error of a routine.
func errorOfRoutine(c api.LiCode) api.Errno {
	if !within(1, api.MaxLiWords, len(c.Words)) || len(c.Masks) != len(c.Words) || !within(1, api.MaxLiArgs, len(c.Args)) {
		return api.ErrLong
	}
	for i, word := range c.Words {
		if !isWord(word) || !isMask(c.Masks[i]) {
			return api.ErrRange
		}
	}
	if !isPlace(c, c.Entry) || !isPlace(c, c.Exit) || !isPlace(c, c.Result) {
		return api.ErrNone
	}
	for _, place := range c.Args {
		if !isPlace(c, place) {
			return api.ErrNone
		}
	}
	return api.OK
}

// errorOfCatalogue returns the error of a catalogue.
func errorOfCatalogue(cat []api.LiEntry) api.Errno {
	if len(cat) > api.MaxLiEntries {
		return api.ErrLong
	}
	for i, entry := range cat {
		switch {
		case !line.Name(entry.Name):
			return api.ErrForm
		case indexOf(cat[:i], entry.Name, nameOfEntry) != nowhere:
			return api.ErrTwice
		case !within(1, api.MaxLiVersion, entry.Version):
			return api.ErrRange
		}
		if e := errorOfRoutine(entry.Code); e != api.OK {
			return e
		}
	}
	return api.OK
}

// errorOfCall returns the error of a call, if the ones before it have none.
func errorOfCall(cat []api.LiEntry, inputs int, before []api.LiCall, c api.LiCall) api.Errno {
	i := indexOf(cat, c.Name, nameOfEntry)
	if i == nowhere {
		return api.ErrNone
	}
	if len(c.Args) != len(cat[i].Code.Args) {
		return api.ErrLong
	}
	if !within(0, api.MaxLiRegs-1, c.To) {
		return api.ErrRange
	}
	for _, arg := range c.Args {
		// What is no register is neither of both.
		isInput := within(0, inputs-1, arg)
		if !isInput && indexOf(before, arg, toOfCall) == nowhere {
			return api.ErrRange
		}
	}
	return api.OK
}

// nowhere is in place of an index where there is none.
const nowhere = -1

// indexOf returns the index of the first element with a key, or nowhere.
func indexOf[T any, K comparable](list []T, key K, keyOf func(T) K) int {
	for i, element := range list {
		if keyOf(element) == key {
			return i
		}
	}
	return nowhere
}

func nameOfEntry(entry api.LiEntry) string { return entry.Name }

func nameOfCall(c api.LiCall) string { return c.Name }

func toOfCall(c api.LiCall) int { return c.To }

func isWord(n int) bool { return within(0, api.OrWord-1, n) }

func isMask(n int) bool { return within(0, api.LiFrom|api.LiTo|api.LiNext, n) }

// isPlace says whether a number is the index of a word of a routine.
func isPlace(c api.LiCode, n int) bool { return within(0, len(c.Words)-1, n) }

// within says whether a number is from a least one to a greatest one.
func within(least, greatest, n int) bool { return least <= n && n <= greatest }
