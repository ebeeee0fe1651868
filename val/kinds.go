package val

import (
	"hedgerow/api"
	"hedgerow/num"
)

// kind is what one kind does: which values fit it, what stands of one behind
// the kind's byte, and how that is read again.
type kind struct {
	fits func(v value) bool
	put  func(v value) string
	get  func(r rest) (v value, size int, ok bool)
}

// kinds has None as well: it is no good value, yet it has bytes.
func kinds() map[int]kind {
	return map[int]kind{
		api.None: {fits: value.fitsNone, put: value.putNone, get: rest.getNone},
		api.Bool: {fits: value.fitsBool, put: value.putBool, get: rest.getBool},
		api.Int:  {fits: value.fitsInt, put: value.putInt, get: rest.getInt},
		api.Text: {fits: value.fitsText, put: value.putText, get: rest.getText},
	}
}

type value api.Value

func (v value) fitsNone() bool { return v.N == 0 && v.S == "" }

func (v value) fitsBool() bool { return (v.N == 0 || v.N == 1) && v.S == "" }

func (v value) fitsInt() bool { return v.S == "" }

func (v value) fitsText() bool { return v.N == 0 && len(v.S) <= api.MaxText }

func (v value) putNone() string { return "" }

func (v value) putBool() string { return oneByte(int(v.N)) }

func (v value) putInt() string { return num.PutInt(v.N) }

func (v value) putText() string { return num.PutText(v.S) }

// rest is all that stands behind a kind's byte, and may go on behind the value.
type rest string

func (r rest) getNone() (v value, size int, ok bool) { return value{}, 0, true }

func (r rest) getBool() (v value, size int, ok bool) {
	if r == "" || r[0] > 1 {
		return value{}, 0, false
	}
	return value{Kind: api.Bool, N: int64(r[0])}, 1, true
}

func (r rest) getInt() (v value, size int, ok bool) {
	n, size, ok := num.GetInt(string(r), 0)
	return value{Kind: api.Int, N: n}, size, ok
}

func (r rest) getText() (v value, size int, ok bool) {
	s, size, ok := num.GetText(string(r), 0, api.MaxText)
	return value{Kind: api.Text, S: s}, size, ok
}

func oneByte(n int) string { return string([]byte{byte(n)}) }
