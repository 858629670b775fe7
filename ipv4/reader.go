package ipv4

import "vizard/api"

// reader goes through a packet's bytes. What is wrong with them it throws, as an api.Errno, so that the order of its steps is the order of the errors.
type reader struct {
	bytes string
	place int
}

func (r *reader) packet() api.Header {
	throwIf(len(r.bytes) < headerSize, api.ErrShort)
	throwIf(r.number(1) != version, api.ErrField)
	var h api.Header
	h.Tos = int(r.number(1))
	r.length()
	h.Id = int(r.number(2))
	h.Frag = int(r.number(2))
	h.Ttl = int(r.number(1))
	h.Proto = int(r.number(1))
	r.sum()
	h.Src = r.number(4)
	h.Dst = r.number(4)
	h.Data = r.bytes[r.place:]
	return h
}

// number is that of the next bytes.
func (r *reader) number(size int) uint32 {
	var n uint32
	for range size {
		n = n<<8 | uint32(r.bytes[r.place])
		r.place++
	}
	return n
}

func (r *reader) length() {
	said := int(r.number(2))
	throwIf(len(r.bytes) < said || said < headerSize, api.ErrShort)
	throwIf(len(r.bytes) > said, api.ErrMore)
}

// sum holds the sum that is told against the one that would be built, not the whole header's against 0: by the latter FFFF would pass for 0.
func (r *reader) sum() {
	told := int(r.number(2))
	right := Sum(r.bytes[:sumPlace] + "\x00\x00" + r.bytes[sumPlace+2:headerSize])
	throwIf(told != right, api.ErrSum)
}

func throwIf(wrong bool, e api.Errno) {
	if wrong {
		panic(e)
	}
}
