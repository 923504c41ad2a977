// Package octets is layer 1: numbers in bytes, the highest byte first. See shared/doc/01-octets.md.
package octets

// there: has b all n bytes from the place at on? It takes away where it could
// add, since at and n may be at the ends of int, where a sum would wrap.
func there(b []byte, at, n int) bool {
	return at >= 0 && n >= 0 && n <= len(b)-at
}

// U16 tells the number of 2 bytes from the place at on, and whether they are all there.
func U16(b []byte, at int) (int, bool) {
	if !there(b, at, 2) {
		return 0, false
	}
	return int(b[at])<<8 | int(b[at+1]), true
}

// U32 tells the number of 4 bytes from the place at on, and whether they are all there.
func U32(b []byte, at int) (uint32, bool) {
	if !there(b, at, 4) {
		return 0, false
	}
	return uint32(b[at])<<24 | uint32(b[at+1])<<16 | uint32(b[at+2])<<8 | uint32(b[at+3]), true
}

// Put16 tells b, and behind it the 2 bytes of n modulo 65536. It does not append
// to b itself, so that two calls on one list never share the room behind its end.
func Put16(b []byte, n int) []byte {
	return Join(b, []byte{byte(n >> 8), byte(n)})
}

// Put32 tells b, and behind it the 4 bytes of n; in new memory, as Put16 does.
func Put32(b []byte, n uint32) []byte {
	return Join(b, []byte{byte(n >> 24), byte(n >> 16), byte(n >> 8), byte(n)})
}

// Set16 tells b in new memory, with the 2 bytes of n modulo 65536 at the place at, and whether there are 2 bytes there.
func Set16(b []byte, at, n int) ([]byte, bool) {
	if !there(b, at, 2) {
		return nil, false
	}
	out := Join(b)
	out[at], out[at+1] = byte(n>>8), byte(n)
	return out, true
}

// Cut tells n bytes from the place at on, in new memory, and whether they are all there.
func Cut(b []byte, at, n int) ([]byte, bool) {
	if !there(b, at, n) {
		return nil, false
	}
	// The third index ends the part's room with it: nothing behind it is within reach.
	part := b[at : at+n : at+n]
	out := make([]byte, n)
	copy(out, part)
	return out, true
}

// Zeros tells whether each byte is 0.
func Zeros(b []byte) bool {
	for _, x := range b {
		if x != 0 {
			return false
		}
	}
	return true
}

// Join tells all lists, one behind the other, in new memory.
func Join(l ...[]byte) []byte {
	size := 0
	for _, b := range l {
		size += len(b)
	}
	out := make([]byte, size)
	at := 0
	for _, b := range l {
		at += copy(out[at:], b)
	}
	return out
}
