// Package digit is layer 1: it formats and parses decimal integers and decimal fractions with up to three digits.
package digit

import (
	"strings"

	"longshore/api"
)

// Most is the greatest number that Parse and Milli return.
const Most = 1 << 53

const (
	// room holds the longest form: nineteen digits with a minus sign or a point.
	room = 20
	// places is the number of digits of the fraction of a thousandth.
	places = 3
)

// Text returns the decimal form of n.
func Text(n int) string {
	var digits [room]byte
	if n >= 0 {
		return string(digits[put(&digits, room, 1, uint(n)):])
	}
	// The least integer has no negative counterpart as an int: as an unsigned one, it has.
	at := put(&digits, room, 1, -uint(n)) - 1
	digits[at] = '-'
	return string(digits[at:])
}

// Parse returns the integer whose decimal form is s.
func Parse(s string) (int, api.Errno) {
	magnitude, negative := strings.CutPrefix(s, "-")
	if negative && magnitude == "0" {
		return 0, api.ErrSyntax
	}
	n, e := Count(magnitude, Most)
	if negative {
		n = -n
	}
	return n, e
}

// Count returns the integer from 0 to most whose decimal form is s.
func Count(s string, most int) (int, api.Errno) {
	if most < 0 {
		return 0, api.ErrArg
	}
	if !isWhole(s) {
		return 0, api.ErrSyntax
	}
	return value(s, most)
}

// Milli returns the number of thousandths whose decimal form is s.
func Milli(s string) (int, api.Errno) {
	whole, fraction, point := strings.Cut(s, ".")
	if !isWhole(whole) || point && !isFraction(fraction) {
		return 0, api.ErrSyntax
	}
	return value(whole+fraction+strings.Repeat("0", places-len(fraction)), Most)
}

// MilliText returns the decimal form of n thousandths, or the empty string if n is negative.
func MilliText(n int) string {
	if n < 0 {
		return ""
	}
	whole, fraction := n/1000, n%1000
	if fraction == 0 {
		return Text(whole)
	}
	width := places
	for fraction%10 == 0 {
		fraction /= 10
		width--
	}
	var digits [room]byte
	at := put(&digits, room, width, uint(fraction)) - 1
	digits[at] = '.'
	return string(digits[put(&digits, at, 1, uint(whole)):])
}

// put writes the digits of n, and zeros before them up to the width, into the array so that they end before end. It returns where they begin.
func put(digits *[room]byte, end, width int, n uint) int {
	at := end
	for n > 0 || end-at < width {
		at--
		digits[at] = byte('0' + n%10)
		n /= 10
	}
	return at
}

// isWhole reports whether s is the decimal form of a nonnegative integer.
func isWhole(s string) bool {
	return s == "0" || s != "" && s[0] != '0' && isDigits(s)
}

// isFraction reports whether s is what follows the point in the decimal form of a number of thousandths.
func isFraction(s string) bool {
	return s != "" && len(s) <= places && s[len(s)-1] != '0' && isDigits(s)
}

// isDigits reports whether s has no byte but digits.
func isDigits(s string) bool {
	for i := range len(s) {
		if s[i] < '0' || s[i] > '9' {
			return false
		}
	}
	return true
}

// value returns the integer whose digits are s, if it is at most most. It compares before it multiplies, because most may be the greatest int.
func value(s string, most int) (int, api.Errno) {
	n := 0
	for i := range len(s) {
		d := int(s[i] - '0')
		if n > most/10 || d > most-n*10 {
			return 0, api.ErrBound
		}
		n = n*10 + d
	}
	return n, api.OK
}
