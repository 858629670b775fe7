// Package varint is layer 1: numbers of one to eight bytes. See shared/doc/01-varint.md.
package varint

import "vizard/api"

// sizes stand in the order of the first two bits that say them, which is the rising order, too.
var sizes = [4]int{1, 2, 4, 8}

// Size is how many bytes a number needs; 0: it is none.
func Size(n int64) int {
	mark, ok := leastMark(n)
	if !ok {
		return 0
	}
	return sizes[mark]
}

// leastMark is the first two bits of a number's shortest writing; false: it is no number.
func leastMark(n int64) (int, bool) {
	if n < 0 {
		return 0, false
	}
	for mark, size := range sizes {
		// Two bits of a writing are the mark; the others must hold the whole number.
		if n>>(8*size-2) == 0 {
			return mark, true
		}
	}
	return 0, false
}

// Put is a number in the fewest bytes.
func Put(n int64) string {
	mark, ok := leastMark(n)
	if !ok {
		return ""
	}
	size := sizes[mark]
	out := make([]byte, size)
	rest := n
	for i := size - 1; i >= 0; i-- {
		out[i] = byte(rest & 0xff)
		rest >>= 8
	}
	out[0] |= byte(mark << 6)
	return string(out)
}

// Get is the number at the front of bytes, and in how many.
func Get(s string) (int64, int, api.Errno) {
	if len(s) == 0 {
		return 0, 0, api.ErrShort
	}
	size := sizes[s[0]>>6]
	if len(s) < size {
		return 0, 0, api.ErrShort
	}
	n := int64(s[0] & 0x3f)
	for i := 1; i < size; i++ {
		n = n<<8 | int64(s[i])
	}
	return n, size, api.OK
}

// Text is bytes with their count in front.
func Text(s string) string {
	return Put(int64(len(s))) + s
}

// Take is such bytes from the front, and how many are theirs with the count.
func Take(s string) (string, int, api.Errno) {
	count, size, e := Get(s)
	if e != api.OK {
		return "", 0, e
	}
	// The count is held against what is there ahead of any sum, for it may be as great as a number can be.
	if count > int64(len(s)-size) {
		return "", 0, api.ErrShort
	}
	end := size + int(count)
	return s[size:end], end, api.OK
}
