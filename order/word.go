package order

import "quicksilver/api"

// The bits of an address.
const addressBits = 7

// integer is the numbers that can be packed.
type integer interface{ ~int | ~int64 | ~uint32 }

// pack returns numbers packed into one, the last of them lowest, each but the first one in the bits of an address.
func pack[T integer](numbers ...T) T {
	var packed T
	for _, n := range numbers {
		packed = packed<<addressBits | n
	}
	return packed
}

// unpack returns one of the packed numbers, counted from the last one.
func unpack[T integer](packed T, index int) T {
	return packed >> (index * addressBits) & (1<<addressBits - 1)
}

// written returns the order that a word is.
func written(word int) api.OrOrder {
	return api.OrOrder{
		Op:   unpack(word, 3),
		From: unpack(word, 2),
		To:   unpack(word, 1),
		Next: unpack(word, 0),
	}
}

// signed is Signed for what is a word.
func signed(word int) int {
	if word >= api.OrWord/2 {
		return word - api.OrWord
	}
	return word
}

// toWord returns a number modulo all words.
func toWord(n int) int {
	// Not n % OrWord, which is below 0 for an n below 0.
	return n & (api.OrWord - 1)
}

// isOrder says whether the numbers of an order are as stated.
func isOrder(o api.OrOrder) bool {
	return within(api.OrPrint, o.Op) && areAddresses(o.From, o.To, o.Next)
}

func areWords(numbers ...int) bool { return within(api.OrWord-1, numbers...) }

func areAddresses(numbers ...int) bool { return within(api.OrStore-1, numbers...) }

// within says whether all numbers are from 0 to a greatest one.
func within(greatest int, numbers ...int) bool {
	for _, n := range numbers {
		if n < 0 || n > greatest {
			return false
		}
	}
	return true
}
