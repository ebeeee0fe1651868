// Package num is layer 1: numbers as few bytes. See shared/doc/01-num.md.
package num

import "strings"

const (
	width    = 7          // bits of a number in each of its bytes
	more     = 1 << width // added to each byte but the last one
	maxBytes = 10         // bytes of the greatest number
)

func Put(n uint64) string {
	out := make([]byte, 0, maxBytes)
	for ; n >= more; n >>= width {
		out = append(out, byte(n)|more)
	}
	return string(append(out, byte(n)))
}

func Get(s string, at int) (n uint64, size int, ok bool) {
	if at < 0 || at > len(s) {
		return 0, 0, false
	}
	rest := s[at:]
scan:
	for i := range len(rest) {
		b := rest[i]
		switch {
		case i > 0 && b == 0:
			break scan // fewer bytes would have told the same number
		case i == maxBytes-1 && b != 1:
			break scan // the nine ahead hold 63 bits: one bit is left
		}
		n |= uint64(b&(more-1)) << (width * i)
		if b < more {
			return n, i + 1, true
		}
	}
	return 0, 0, false
}

func PutInt(n int64) string {
	if n < 0 {
		// ^n is -n - 1, and in range for the least n as well, where -n is not.
		return Put(uint64(^n)<<1 | 1)
	}
	return Put(uint64(n) << 1)
}

func GetInt(s string, at int) (n int64, size int, ok bool) {
	u, size, ok := Get(s, at)
	n = int64(u >> 1)
	if u&1 == 1 {
		n = ^n
	}
	return n, size, ok
}

func PutText(t string) string { return Put(uint64(len(t))) + t }

func GetText(s string, at, most int) (t string, size int, ok bool) {
	n, head, ok := Get(s, at)
	if !ok || most < 0 || n > uint64(most) {
		return "", 0, false
	}
	rest := s[at+head:]
	if n > uint64(len(rest)) {
		return "", 0, false
	}
	// Copied, since an answer shares no memory with what was handed in.
	return strings.Clone(rest[:n]), head + int(n), true
}
