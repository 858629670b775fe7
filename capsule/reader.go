package capsule

import (
	"strings"

	"vizard/api"
	"vizard/varint"
)

// maxWhole is how many bytes of data a capsule may have, for so long they are kept.
const maxWhole = 4096

// Reader reads capsules as their bytes come.
type Reader struct {
	kept  string // what came of a capsule that is not whole yet
	great bool   // a great one came
}

// New is a reader of which nothing came.
func New() *Reader {
	return &Reader{}
}

// Feed reads bytes.
func (r *Reader) Feed(s string) ([]Capsule, api.Errno) {
	if r.great {
		return nil, api.ErrLong
	}
	l, rest, e := takeCapsules(r.kept + s)
	r.great = e != api.OK
	// A copy, so that a long text of which little is left over is not kept with it.
	r.kept = strings.Clone(rest)
	return l, e
}

// End tells whether bytes may end here.
func (r *Reader) End() bool {
	return !r.great && r.kept == ""
}

// takeCapsules is all that are whole at the front of bytes, and what stands behind them; ErrLong: that is a great one.
func takeCapsules(s string) ([]Capsule, string, api.Errno) {
	var l []Capsule
	for {
		c, rest, e := takeCapsule(s)
		switch e {
		case api.OK:
			l = append(l, c)
			s = rest
		case api.ErrShort:
			return l, s, api.OK
		default:
			return l, "", e
		}
	}
}

// takeCapsule is the capsule at the front of bytes, and what stands behind it.
func takeCapsule(s string) (Capsule, string, api.Errno) {
	kind, rest, e := takeNumber(s)
	if e != api.OK {
		return Capsule{}, "", e
	}
	count, _, e := varint.Get(rest)
	if e != api.OK {
		return Capsule{}, "", e
	}
	if count > maxWhole {
		return Capsule{}, "", api.ErrLong
	}
	data, size, e := varint.Take(rest)
	if e != api.OK {
		return Capsule{}, "", e
	}
	return Capsule{Kind: kind, Data: data}, rest[size:], api.OK
}
