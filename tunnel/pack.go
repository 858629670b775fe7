package tunnel

import "vizard/api"

const (
	// headSize is how many bytes stand ahead of an emission's data.
	headSize = 9
	maxPort  = 0xffff
)

// The first byte says of what an emission is.
const (
	ofPayload = 0
	ofPacket  = 1
)

// Pack is an emission as bytes.
func Pack(e api.Emit) string {
	if !isPort(e.Port) || !isPort(e.To) {
		return ""
	}
	out := make([]byte, 0, headSize+len(e.Data))
	if e.Ip {
		out = append(out, ofPacket)
	} else {
		out = append(out, ofPayload)
	}
	out = append(out, byte(e.Port>>8), byte(e.Port))
	out = append(out, byte(e.To>>8), byte(e.To))
	out = append(out, byte(e.Addr>>24), byte(e.Addr>>16), byte(e.Addr>>8), byte(e.Addr))
	return string(append(out, e.Data...))
}

func isPort(n int) bool {
	return n >= 0 && n <= maxPort
}

// Unpack is the emission of bytes.
func Unpack(s string) (api.Emit, api.Errno) {
	if len(s) < headSize {
		return api.Emit{}, api.ErrShort
	}
	if s[0] != ofPayload && s[0] != ofPacket {
		return api.Emit{}, api.ErrField
	}
	return api.Emit{
		Ip:   s[0] == ofPacket,
		Port: number(s[1:3]),
		To:   number(s[3:5]),
		Addr: uint32(number(s[5:9])),
		Data: s[headSize:],
	}, api.OK
}

// number is bytes as a number, the highest first.
func number(s string) int {
	n := 0
	for i := range len(s) {
		n = n<<8 | int(s[i])
	}
	return n
}
