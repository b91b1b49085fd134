package impl

import (
	"slices"
	"strconv"
	"strings"
)

const maxNumber = 999999

func Digits(n int) string { return strconv.Itoa(n) }

func Number(s string) (int, bool) {
	// What is no number panics ahead of the return, so the results are still 0 and false here.
	defer func() { recover() }()
	n := numberOf(s)
	return n, true
}

func numberOf(s string) int {
	n, err := strconv.Atoi(s)
	if err != nil || n < 0 || n > maxNumber {
		panic("no number from 0 to 999999")
	}
	// Atoi reads signs and leading zeros, which Digits never writes.
	if Digits(n) != s {
		panic("not as Digits writes it")
	}
	return n
}

func Parts(s string, by byte) []string {
	// string(by) would be the rune of that number, which has two bytes from 128 on.
	list := strings.Split(s, string([]byte{by}))
	for i, part := range list {
		// A piece of s would keep the memory of s.
		list[i] = strings.Clone(part)
	}
	return list
}

func SetOk(s []int) bool {
	for i := 1; i < len(s); i++ {
		if s[i] <= s[i-1] {
			return false
		}
	}
	return true
}

func SetHas(s []int, x int) bool { return slices.Contains(s, x) }

func SetAdd(s []int, x int) []int {
	if SetHas(s, x) {
		return copyList(s)
	}
	at := placeFor(s, x)
	out := make([]int, 0, len(s)+1)
	out = append(out, s[:at]...)
	out = append(out, x)
	return append(out, s[at:]...)
}

// placeFor goes from the left, not by halves: s need not be SetOk.
func placeFor(s []int, x int) int {
	for i, y := range s {
		if y > x {
			return i
		}
	}
	return len(s)
}

func SetJoin(a []int, b []int) []int {
	out := copyList(a)
	for _, x := range b {
		out = SetAdd(out, x)
	}
	return out
}

func ListCmp(a []int, b []int) int { return slices.Compare(a, b) }

func copyList[T any](s []T) []T { return append([]T(nil), s...) }
