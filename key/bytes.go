package key

import (
	"strings"

	"hedgerow/api"
)

const (
	intBytes = 8
	// below is added to an Int's N: the least one becomes 0, and so bytes that
	// are held against each other from the highest on stand in N's order.
	below = 1 << 63
	// A text that begins another one stands ahead of it: what ends a text is
	// less than all that may go on in its place, a 00 of the text included.
	zero     = "\x00"
	zeroKept = "\x00\xff"
	textEnd  = "\x00\x01"
)

// put is handed only values that fit, so that a byte holds their kind, and N
// of a Bool.
func put(v api.Value) string {
	kind := oneByte(byte(v.Kind))
	switch v.Kind {
	case api.Bool:
		return kind + oneByte(byte(v.N))
	case api.Int:
		return kind + putInt(v.N)
	case api.Text:
		return kind + strings.ReplaceAll(v.S, zero, zeroKept) + textEnd
	}
	return kind
}

// get reads the first value of bytes that are not empty. It leaves to the
// caller whether the value fits.
func get(s string) (v api.Value, size int, ok bool) {
	v.Kind = int(s[0])
	rest := s[1:]
	switch v.Kind {
	case api.None:
		ok = true
	case api.Bool:
		v.N, size, ok = getBool(rest)
	case api.Int:
		v.N, size, ok = getInt(rest)
	case api.Text:
		v.S, size, ok = getText(rest)
	}
	return v, 1 + size, ok
}

func getBool(s string) (n int64, size int, ok bool) {
	if s == "" {
		return 0, 0, false
	}
	return int64(s[0]), 1, true
}

func putInt(n int64) string {
	var out [intBytes]byte
	u := uint64(n) + below
	for i := range out {
		out[intBytes-1-i] = byte(u >> (8 * i))
	}
	return string(out[:])
}

func getInt(s string) (n int64, size int, ok bool) {
	if len(s) < intBytes {
		return 0, 0, false
	}
	var u uint64
	for i := range intBytes {
		u = u<<8 | uint64(s[i])
	}
	return int64(u - below), intBytes, true
}

func getText(s string) (t string, size int, ok bool) {
	var out strings.Builder
	for {
		plain := strings.Index(s[size:], zero)
		if plain < 0 {
			return "", 0, false
		}
		out.WriteString(s[size : size+plain])
		size += plain
		switch {
		case strings.HasPrefix(s[size:], textEnd):
			return out.String(), size + len(textEnd), true
		case strings.HasPrefix(s[size:], zeroKept):
			out.WriteString(zero)
			size += len(zeroKept)
		default:
			return "", 0, false
		}
	}
}

func oneByte(b byte) string { return string([]byte{b}) }
