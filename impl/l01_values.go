package impl

import (
	"cmp"
	"strconv"
)

const (
	ErrNone = iota
	ErrInvalid
	ErrRange
	ErrLimit
	ErrNotFound
	ErrState
	ErrSyntax
)

const (
	MaxFinite = 1000000
	Bottom    = -1000000000000000
	MaxList   = 200
)

type Ratio struct {
	Num int64
	Den int64
}

// value is an integer on which the operations of the chapter work. They expect valid operands,
// which are so small that no result overflows or is mistaken for Bottom; a result may lie beyond
// the finite values until checked has looked at it.
type value int64

func (a value) isFinite() bool { return -MaxFinite <= a && a <= MaxFinite }

func (a value) isValid() bool { return a == Bottom || a.isFinite() }

// plus needs no case for Bottom, which is less than every finite value.
func (a value) plus(b value) value { return max(a, b) }

func (a value) times(b value) value {
	if a == Bottom || b == Bottom {
		return Bottom
	}
	return a + b
}

func (a value) power(n int64) value {
	if n == 0 {
		return 0
	}
	if a == Bottom {
		return Bottom
	}
	return a * value(n)
}

// over returns the quotient by a finite b. Nothing but Bottom has a product with b that is at
// most Bottom.
func (a value) over(b value) value {
	if a == Bottom {
		return Bottom
	}
	return a - b
}

func (a value) text() string {
	if a == Bottom {
		return "."
	}
	return strconv.FormatInt(int64(a), 10)
}

// checked returns a and its error code as a function of the chapter returns them.
func (a value) checked() (int64, int64) {
	if !a.isValid() {
		return 0, ErrLimit
	}
	return int64(a), ErrNone
}

func areValues(list []int64) bool {
	for _, a := range list {
		if !IsValue(a) {
			return false
		}
	}
	return true
}

// readValues returns the values with the given texts, and true, or nil and false if one of them is the
// text of nothing.
func readValues(texts ...string) ([]int64, bool) {
	var list []int64
	for _, text := range texts {
		a, ok := ReadValue(text)
		if !ok {
			return nil, false
		}
		list = append(list, a)
	}
	return list, true
}

// IsValue reports whether a is a value.
func IsValue(a int64) bool { return value(a).isValid() }

// SumOf returns the sum of all values of a list, Bottom for the empty one, and ErrNone. Errors:
// ErrLimit, first of all, if list has more than MaxList elements.
func SumOf(list []int64) (int64, int64) {
	if len(list) > MaxList {
		return 0, ErrLimit
	}
	sum := value(Bottom)
	for _, a := range list {
		if !IsValue(a) {
			return 0, ErrInvalid
		}
		sum = sum.plus(value(a))
	}
	return int64(sum), ErrNone
}

// ProductOf returns the product, and ErrNone. Errors: ErrLimit if it is not a value.
func ProductOf(a int64, b int64) (int64, int64) {
	if !IsValue(a) || !IsValue(b) {
		return 0, ErrInvalid
	}
	return value(a).times(value(b)).checked()
}

// PowerOf returns the product of n factors a, which is 0 for n = 0, and ErrNone. Errors:
// ErrRange if n is not in 0..MaxFinite; ErrLimit if it is not a value.
func PowerOf(a int64, n int64) (int64, int64) {
	if !IsValue(a) {
		return 0, ErrInvalid
	}
	if n < 0 || n > MaxFinite {
		return 0, ErrRange
	}
	return value(a).power(n).checked()
}

// QuotientOf returns the greatest value whose product with b is at most a, and ErrNone. Errors:
// ErrState if b is Bottom; ErrLimit if it is not a value.
//
// A difference beyond the finite values on either side is ErrLimit: it is not replaced by the
// nearest value below, as the document names the error for it.
func QuotientOf(a int64, b int64) (int64, int64) {
	if !IsValue(a) || !IsValue(b) {
		return 0, ErrInvalid
	}
	if b == Bottom {
		return 0, ErrState
	}
	return value(a).over(value(b)).checked()
}

// ValueText returns the text of a value, or "" if a is not one.
func ValueText(a int64) string {
	if !IsValue(a) {
		return ""
	}
	return value(a).text()
}

// ReadValue returns the value with the text s, and true, or 0 and false if there is none.
func ReadValue(s string) (int64, bool) {
	if s == value(Bottom).text() {
		return Bottom, true
	}
	n, err := strconv.ParseInt(s, 10, 64)
	if err != nil || !value(n).isFinite() {
		return 0, false
	}
	// ParseInt also reads numbers with a plus sign, a minus sign at zero or superfluous zeros.
	if value(n).text() != s {
		return 0, false
	}
	return n, true
}

// IsRatio reports whether r is valid.
func IsRatio(r Ratio) bool {
	if !value(r.Num).isFinite() || r.Den < 1 || r.Den > MaxFinite {
		return false
	}
	return greatestDivisor(r.Num, r.Den) == 1
}

// MakeRatio returns the valid ratio of num / den, and ErrNone. (Both have to be finite:
// ErrInvalid.) Errors: ErrState if den is 0.
func MakeRatio(num int64, den int64) (Ratio, int64) {
	if !value(num).isFinite() || !value(den).isFinite() {
		return Ratio{}, ErrInvalid
	}
	if den == 0 {
		return Ratio{}, ErrState
	}
	return reduced(num, den), ErrNone
}

// CompareRatios returns -1, 0 or 1 if a is less than, equal to or greater than b, and ErrNone.
func CompareRatios(a Ratio, b Ratio) (int64, int64) {
	if !IsRatio(a) || !IsRatio(b) {
		return 0, ErrInvalid
	}
	return int64(a.compare(b)), ErrNone
}

// compare works also for ratios with small denominators whose numerators are not finite.
func (r Ratio) compare(s Ratio) int { return cmp.Compare(r.Num*s.Den, s.Num*r.Den) }

// checked returns a ratio in lowest terms and its error code as a function that computes it
// returns them.
func (r Ratio) checked() (Ratio, int64) {
	if !IsRatio(r) {
		return Ratio{}, ErrLimit
	}
	return r, ErrNone
}

// reduced returns num / den in lowest terms, where den is not 0. The result is a valid ratio if
// its numbers are not too great for one.
func reduced(num int64, den int64) Ratio {
	divisor := greatestDivisor(num, den)
	if den < 0 {
		divisor = -divisor
	}
	return Ratio{Num: num / divisor, Den: den / divisor}
}

// greatestDivisor returns the greatest common divisor of two numbers, or 0 if both are 0; the signs
// do not matter.
func greatestDivisor(a int64, b int64) int64 {
	for a != 0 {
		a, b = b%a, a
	}
	if b < 0 {
		return -b
	}
	return b
}
