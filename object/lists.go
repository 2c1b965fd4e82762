package object

import "linchpin/api"

// every reports whether all elements of a list are right.
func every[T any](l []T, right func(T) bool) bool {
	for _, x := range l {
		if !right(x) {
			return false
		}
	}
	return true
}

// ordered reports whether each element of a list may be followed by the next one.
func ordered[T any](l []T, may func(x, next T) bool) bool {
	for i := 1; i < len(l); i++ {
		if !may(l[i-1], l[i]) {
			return false
		}
	}
	return true
}

// differ reports whether the keys of the elements of a list are different.
func differ[T any, K comparable](l []T, key func(T) K) bool {
	found := map[K]bool{}
	for _, x := range l {
		if found[key(x)] {
			return false
		}
		found[key(x)] = true
	}
	return true
}

// isName reports whether a string is a name.
func isName(s string) bool {
	for i := range len(s) {
		if s[i] < 33 || s[i] > 126 {
			return false
		}
	}
	return len(s) >= 1 && len(s) <= api.MaxName
}

// isFile reports whether a string is a file name.
func isFile(s string) bool {
	for i := range len(s) {
		if s[i] < 32 || s[i] > 126 || s[i] == '"' || s[i] == '\\' {
			return false
		}
	}
	return len(s) >= 1 && len(s) <= api.MaxName
}
