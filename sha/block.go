package sha

const (
	blockSize = 64
	lastSize  = 8 // the bytes of the count of bits, with which the last block ends
)

// cubes are the first thirty-two bits behind the point of the cube roots of the first sixty-four primes.
var cubes = [64]uint32{
	0x428a2f98, 0x71374491, 0xb5c0fbcf, 0xe9b5dba5, 0x3956c25b, 0x59f111f1, 0x923f82a4, 0xab1c5ed5,
	0xd807aa98, 0x12835b01, 0x243185be, 0x550c7dc3, 0x72be5d74, 0x80deb1fe, 0x9bdc06a7, 0xc19bf174,
	0xe49b69c1, 0xefbe4786, 0x0fc19dc6, 0x240ca1cc, 0x2de92c6f, 0x4a7484aa, 0x5cb0a9dc, 0x76f988da,
	0x983e5152, 0xa831c66d, 0xb00327c8, 0xbf597fc7, 0xc6e00bf3, 0xd5a79147, 0x06ca6351, 0x14292967,
	0x27b70a85, 0x2e1b2138, 0x4d2c6dfc, 0x53380d13, 0x650a7354, 0x766a0abb, 0x81c2c92e, 0x92722c85,
	0xa2bfe8a1, 0xa81a664b, 0xc24b8b70, 0xc76c51a3, 0xd192e819, 0xd6990624, 0xf40e3585, 0x106aa070,
	0x19a4c116, 0x1e376c08, 0x2748774c, 0x34b0bcb5, 0x391c0cb3, 0x4ed8aa4a, 0x5b9cca4f, 0x682e6ff3,
	0x748f82ee, 0x78a5636f, 0x84c87814, 0x8cc70208, 0x90befffa, 0xa4506ceb, 0xbef9a3f7, 0xc67178f2,
}

// mix is the eight sums after one more block.
func mix(sums [8]uint32, block [blockSize]byte) [8]uint32 {
	w := spread(block)
	a, b, c, d := sums[0], sums[1], sums[2], sums[3]
	e, f, g, h := sums[4], sums[5], sums[6], sums[7]
	for t := range w {
		bigE := turn(e, 6) ^ turn(e, 11) ^ turn(e, 25)
		choice := e&f ^ ^e&g
		t1 := h + bigE + choice + cubes[t] + w[t]
		bigA := turn(a, 2) ^ turn(a, 13) ^ turn(a, 22)
		most := a&b ^ a&c ^ b&c
		t2 := bigA + most
		h, g, f, e, d, c, b, a = g, f, e, d+t1, c, b, a, t1+t2
	}
	return [8]uint32{
		sums[0] + a, sums[1] + b, sums[2] + c, sums[3] + d,
		sums[4] + e, sums[5] + f, sums[6] + g, sums[7] + h,
	}
}

// spread is a block's sixteen numbers, and forty-eight more that are made of them.
func spread(block [blockSize]byte) [64]uint32 {
	var w [64]uint32
	for t := range 16 {
		four := block[4*t : 4*t+4]
		w[t] = uint32(four[0])<<24 | uint32(four[1])<<16 | uint32(four[2])<<8 | uint32(four[3])
	}
	for t := 16; t < 64; t++ {
		x, y := w[t-15], w[t-2]
		small0 := turn(x, 7) ^ turn(x, 18) ^ x>>3
		small1 := turn(y, 17) ^ turn(y, 19) ^ y>>10
		w[t] = small1 + w[t-7] + small0 + w[t-16]
	}
	return w
}

// turn moves bits to the right; those that fall out come in again at the left.
func turn(x uint32, by uint) uint32 {
	return x>>by | x<<(32-by)
}

// ending is what stands behind a text of so many bytes, up to the end of its last block.
func ending(count uint64) string {
	size := 1 + lastSize
	for (count+uint64(size))%blockSize != 0 {
		size++
	}
	out := make([]byte, size)
	out[0] = 0x80
	bits := count * 8
	for i := size - 1; i >= size-lastSize; i-- {
		out[i] = byte(bits & 0xff)
		bits >>= 8
	}
	return string(out)
}

// bytesOf is eight numbers, four bytes each, the highest first.
func bytesOf(sums [8]uint32) string {
	var out [32]byte
	for i, sum := range sums {
		for place := range 4 {
			out[4*i+place] = byte(sum >> (24 - 8*place) & 0xff)
		}
	}
	return string(out[:])
}
