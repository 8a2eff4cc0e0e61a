package tin

import (
	"iter"

	"rostellum/api"
)

// signs are the signs, by their values.
var signs = [...]byte{
	'a', 'b', 'c', 'd', 'e', 'f', 'g', 'h', 'i', 'j', 'k', 'l', 'm',
	'n', 'o', 'p', 'q', 'r', 's', 't', 'u', 'v', 'w', 'x', 'y', 'z',
	'0', '1', '2', '3', '4', '5', '6', '7', '8', '9', '-',
}

// valueOf returns the value of a sign; false if it is none.
func valueOf(sign byte) (int, bool) {
	for value, s := range signs {
		if s == sign {
			return value, true
		}
	}
	return 0, false
}

// areSigns reports whether a text has so many signs, and nothing else.
func areSigns(text string, least, most int) bool {
	if !isIn(len(text), least, most) {
		return false
	}
	for i := range len(text) {
		if _, ok := valueOf(text[i]); !ok {
			return false
		}
	}
	return true
}

// isLikeCode reports whether a text has the signs of a code, whatever the last one is.
func isLikeCode(text string) bool { return areSigns(text, 2, api.TinSigns+1) }

// checkSign returns the check sign of some signs.
func checkSign(text string) byte {
	var parts []int
	for i := range len(text) {
		value, _ := valueOf(text[i])
		parts = append(parts, value<<(i+1)) // places count from 1 on
	}
	return signs[sum(parts...)%len(signs)]
}

// faults yields what comes of a text by one fault, each of it once: no two faults change the same places to the same signs.
func faults(text string) iter.Seq[string] {
	return func(yield func(string) bool) {
		for i := range len(text) {
			for _, sign := range signs {
				if sign != text[i] && !yield(replaced(text, i, sign)) {
					return
				}
			}
		}
		for i := range len(text) - 1 {
			if text[i] != text[i+1] && !yield(exchanged(text, i)) {
				return
			}
		}
	}
}

// replaced returns a text with another sign at a place.
func replaced(text string, i int, sign byte) string {
	b := []byte(text)
	b[i] = sign
	return string(b)
}

// exchanged returns a text in which the sign at a place and the next one have changed places.
func exchanged(text string, i int) string {
	b := []byte(text)
	b[i], b[i+1] = b[i+1], b[i]
	return string(b)
}

// sum returns the sum of some numbers.
func sum[N ~int](numbers ...N) N {
	var all N
	for _, n := range numbers {
		all += n
	}
	return all
}
