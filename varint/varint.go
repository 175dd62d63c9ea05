// Package varint is numbers of as many bytes as they need: see DOC.md, chapter 1.
package varint

const (
	digits  = 7           // binary digits a byte
	more    = 1 << digits // what a byte has more if another follows
	longest = 10          // bytes of the greatest number
	top     = 1           // 64 digits leave one for the last of the longest
)

// Put is a number as bytes.
func Put(v uint64) []byte {
	b := make([]byte, 0, longest)
	for v >= more {
		b = append(b, byte(v%more)+more)
		v >>= digits
	}
	return append(b, byte(v))
}

// Get is bytes as a number.
func Get(b []byte) (v uint64, n int, ok bool) {
	for i, x := range b {
		// Also ends the walk: a tenth byte that another should follow is above top.
		if i == longest-1 && x > top {
			return 0, 0, false
		}
		v |= uint64(x%more) << (digits * i)
		if x >= more {
			continue
		}
		// Put never ends on a nought, but for the number 0 itself.
		if x == 0 && i > 0 {
			return 0, 0, false
		}
		return v, i + 1, true
	}
	return 0, 0, false
}

// Four is a number as four bytes.
func Four(v uint32) []byte {
	return []byte{byte(v), byte(v >> 8), byte(v >> 16), byte(v >> 24)}
}
