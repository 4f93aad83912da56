// Package mix has sums.
package mix

import (
	"strings"

	"witnessbox/api"
)

// The first byte keeps the bytes of a leaf and those of a node apart, so that neither can be taken for the other.
const (
	leafMark = "\x00"
	nodeMark = 1
)

const (
	sumStart  = 5381
	sumFactor = 131
	digits    = "0123456789abcdef"
	printWide = 8
)

// Sum of bytes.
func Sum(b string) int { return sumFrom(sumStart, b) }

// Leaf of data.
func Leaf(data string) int { return sumFrom(Sum(leafMark), data) }

// LeafBytes of data: what a Leaf is the Sum of.
func LeafBytes(data string) string { return leafMark + data }

// NodeBytes of two sums.
func NodeBytes(a, b int) (string, error) {
	if !IsSum(a) || !IsSum(b) {
		return "", api.ErrRange
	}
	out := []byte{nodeMark}
	out = appendSum(out, a)
	out = appendSum(out, b)
	return string(out), nil
}

// Node of two sums.
func Node(a, b int) (int, error) {
	text, err := NodeBytes(a, b)
	if err != nil {
		return 0, err
	}
	return Sum(text), nil
}

// Print a sum.
func Print(n int) (string, error) {
	if !IsSum(n) {
		return "", api.ErrRange
	}
	var out [printWide]byte
	for i := printWide - 1; i >= 0; i-- {
		out[i] = digits[n%16]
		n /= 16
	}
	return string(out[:]), nil
}

// Parse a sum.
func Parse(text string) (int, error) {
	if len(text) != printWide {
		return 0, api.ErrSyntax
	}
	n := 0
	for i := range len(text) {
		d := strings.IndexByte(digits, text[i])
		if d < 0 {
			return 0, api.ErrSyntax
		}
		n = n*16 + d
	}
	if !IsSum(n) {
		return 0, api.ErrRange
	}
	return n, nil
}

// sumFrom goes on from a sum, so that no copy of the bytes with a mark ahead is needed.
func sumFrom(n int, b string) int {
	for i := range len(b) {
		n = (n*sumFactor + int(b[i]) + 1) % api.Prime
	}
	return n
}

// IsSum tells whether a number may be a sum.
func IsSum(n int) bool { return 0 <= n && n < api.Prime }

func appendSum(out []byte, n int) []byte {
	return append(out, byte(n>>24), byte(n>>16), byte(n>>8), byte(n))
}
