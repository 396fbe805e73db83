// Package wire is layer 1, numbers and texts as bytes: see ../shared/doc/01-wire.md.
package wire

import "raddle/api"

const (
	// maxSize keeps every number that Put takes within an int.
	maxSize = 7

	// intSize is a byte for the sign, and 8 for the size without it.
	intSize = 9
)

// Put answers b with n behind it, in size bytes.
func Put(b []byte, n, size int) ([]byte, api.Errno) {
	if !isSize(size) || n < 0 || n >= 1<<(8*size) {
		return nil, api.ErrArg
	}
	out := extend(b, size)
	fill(out[len(b):], n)
	return out, api.OK
}

// Get answers the number that stands in size bytes from at on, and the place behind it.
func Get(b []byte, at, size int) (n, next int, e api.Errno) {
	if !isSize(size) || !isPlace(b, at) {
		return 0, 0, api.ErrArg
	}
	if len(b)-at < size {
		return 0, 0, api.ErrBytes
	}
	return int(number(b[at : at+size])), at + size, api.OK
}

// PutInt answers b with n behind it: its sign, then its size without it.
func PutInt(b []byte, n int) ([]byte, api.Errno) {
	if n < -api.MaxValue || n > api.MaxValue {
		return nil, api.ErrArg
	}
	out := extend(b, intSize)
	if n < 0 {
		out[len(b)] = 1
		n = -n
	}
	fill(out[len(b)+1:], n)
	return out, api.OK
}

// GetInt answers the number that PutInt wrote at that place, and the place behind it.
func GetInt(b []byte, at int) (n, next int, e api.Errno) {
	if !isPlace(b, at) {
		return 0, 0, api.ErrArg
	}
	if len(b)-at < intSize {
		return 0, 0, api.ErrBytes
	}
	sign := b[at]
	size := number(b[at+1 : at+intSize])
	// A nought below 0 is refused too: a number has one way to be written.
	if sign > 1 || size > api.MaxValue || (sign == 1 && size == 0) {
		return 0, 0, api.ErrBytes
	}
	n = int(size)
	if sign == 1 {
		n = -n
	}
	return n, at + intSize, api.OK
}

// PutText answers b with s behind it, its length ahead of it.
func PutText(b []byte, s string) ([]byte, api.Errno) {
	if len(s) > api.MaxText {
		return nil, api.ErrLen
	}
	out := extend(b, 1+len(s))
	out[len(b)] = byte(len(s))
	copy(out[len(b)+1:], s)
	return out, api.OK
}

// GetText answers the text that PutText wrote at that place, and the place behind it.
func GetText(b []byte, at int) (s string, next int, e api.Errno) {
	if !isPlace(b, at) {
		return "", 0, api.ErrArg
	}
	if at == len(b) {
		return "", 0, api.ErrBytes
	}
	start, size := at+1, int(b[at])
	if size > api.MaxText || len(b)-start < size {
		return "", 0, api.ErrBytes
	}
	return string(b[start : start+size]), start + size, api.OK
}

func isSize(size int) bool {
	return size >= 1 && size <= maxSize
}

// isPlace takes b's end too: there nothing stands, but it may be asked for.
func isPlace(b []byte, at int) bool {
	return at >= 0 && at <= len(b)
}

// extend copies b, instead of appending to it: behind b's length may stand what others keep.
func extend(b []byte, extra int) []byte {
	out := make([]byte, len(b)+extra)
	copy(out, b)
	return out
}

// fill writes n over the whole of b, the highest byte first.
func fill(b []byte, n int) {
	for i := len(b) - 1; i >= 0; i-- {
		b[i] = byte(n)
		n >>= 8
	}
}

// number reads the whole of b, up to 8 bytes; unsigned, so that no 8 bytes overflow it.
func number(b []byte) uint64 {
	var n uint64
	for _, x := range b {
		n = n<<8 | uint64(x)
	}
	return n
}
