// Package num is numbers that do not go round: see DOC.md, chapter 1.
package num

import "taskmaster/api"

// Is tells whether a number may be.
func Is(n int64) bool { return 0 <= n && n <= api.Last }

// Add is a sum.
func Add(a, b int64) (int64, bool) {
	if !are(a, b) || a > api.Last-b {
		return 0, false
	}
	return a + b, true
}

// Mul is a product.
func Mul(a, b int64) (int64, bool) {
	if !are(a, b) {
		return 0, false
	}
	// Asked ahead of multiplying: the product of two that may be can wrap.
	if b != 0 && a > api.Last/b {
		return 0, false
	}
	return a * b, true
}

// Ceil is a part, rounded up.
func Ceil(a, b int64) (int64, bool) {
	n, ok := Floor(a, b)
	if ok && a%b != 0 {
		n++
	}
	return n, ok
}

// Floor is a part, rounded down.
func Floor(a, b int64) (int64, bool) {
	if !are(a, b) || b == 0 {
		return 0, false
	}
	return a / b, true
}

// are tells whether both numbers may be.
func are(a, b int64) bool { return Is(a) && Is(b) }
