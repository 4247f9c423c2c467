package json

import "strings"

const digits = "0123456789"

// isNumber reports whether s is the text of a number.
func isNumber(s string) bool {
	rest, found := cutNumber(s)
	return found && rest == ""
}

// cutNumber returns what follows the text of a number at the beginning of s, and whether s begins with one. What may
// follow its digits only with digits of its own is taken for a part of it.
func cutNumber(s string) (string, bool) {
	rest, found := cutWhole(strings.TrimPrefix(s, "-"))
	if found && beginsWith(rest, ".") {
		rest, found = cutDigits(rest[1:])
	}
	if found && beginsWith(rest, "eE") {
		rest, found = cutDigits(cutSign(rest[1:]))
	}
	return rest, found
}

// cutWhole returns what follows the digits ahead of a point, and whether there are any. Behind a leading 0 there are no
// more of them.
func cutWhole(s string) (string, bool) {
	rest, zero := strings.CutPrefix(s, "0")
	if zero {
		return rest, true
	}
	return cutDigits(s)
}

// cutDigits returns what follows the digits at the beginning of s, and whether there are any.
func cutDigits(s string) (string, bool) {
	return strings.TrimLeft(s, digits), beginsWith(s, digits)
}

// cutSign returns what follows the sign of an exponent, which may be missing.
func cutSign(s string) string {
	if beginsWith(s, "+-") {
		return s[1:]
	}
	return s
}

// beginsWith reports whether the first byte of s is one of those.
func beginsWith(s, bytes string) bool {
	return s != "" && strings.IndexByte(bytes, s[0]) >= 0
}
