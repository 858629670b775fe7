package capsule

import (
	"strings"

	"vizard/api"
	"vizard/prefix"
	"vizard/varint"
)

const (
	// version is the byte that says of an address, and of a route, that its addresses have four bytes.
	version  = 4
	maxProto = 255
	wordSize = 4
)

// Address is an address that is asked for, or given.
type Address struct {
	Id     int64
	Prefix api.Prefix
}

// Route is addresses to which packets may go.
type Route struct {
	Low   uint32
	High  uint32
	Proto int
}

// Addresses is what a capsule of addresses says.
func Addresses(s string) ([]Address, api.Errno) {
	return readList(s, takeAddress, addressFits)
}

// Ways is what a capsule of routes says.
func Ways(s string) ([]Route, api.Errno) {
	return readList(s, takeRoute, routeFits)
}

// readList is the members of which bytes are made. It is handed how the one at their front is taken, and whether one is right behind those ahead of it.
func readList[T any](s string, take func(s string) (T, string, api.Errno), fits func(ahead []T, one T) bool) ([]T, api.Errno) {
	var l []T
	for s != "" {
		one, rest, e := take(s)
		switch {
		case e != api.OK:
			return nil, e
		case !fits(l, one):
			return nil, api.ErrRange
		// What is wrong within a member is told ahead of it being one too many.
		case len(l) == api.MaxFields:
			return nil, api.ErrLong
		}
		l = append(l, one)
		s = rest
	}
	return l, api.OK
}

func takeAddress(s string) (Address, string, api.Errno) {
	id, rest, e := takeNumber(s)
	if e != api.OK {
		return Address{}, "", e
	}
	body, rest, e := takeBody(rest, wordSize+1)
	if e != api.OK {
		return Address{}, "", e
	}
	p := api.Prefix{Addr: word(body), Bits: int(body[wordSize])}
	return Address{Id: id, Prefix: p}, rest, api.OK
}

func takeRoute(s string) (Route, string, api.Errno) {
	body, rest, e := takeBody(s, 2*wordSize+1)
	if e != api.OK {
		return Route{}, "", e
	}
	return Route{Low: word(body), High: word(body[wordSize:]), Proto: int(body[2*wordSize])}, rest, api.OK
}

// takeBody is so many bytes behind the version at the front of s, and what stands behind them.
func takeBody(s string, size int) (string, string, api.Errno) {
	switch {
	case s == "":
		return "", "", api.ErrShort
	// Another version may have another size, so that it is told ahead of how many bytes follow.
	case s[0] != version:
		return "", "", api.ErrKind
	case len(s)-1 < size:
		return "", "", api.ErrShort
	}
	return s[1 : 1+size], s[1+size:], api.OK
}

// word is the address in the first four bytes.
func word(s string) uint32 {
	a := uint32(0)
	for i := range wordSize {
		a = a<<8 | uint32(s[i])
	}
	return a
}

func addressFits(_ []Address, one Address) bool {
	return prefix.Check(one.Prefix)
}

func routeFits(ahead []Route, one Route) bool {
	if one.Low > one.High || one.Proto < 0 || one.Proto > maxProto {
		return false
	}
	if len(ahead) == 0 {
		return true
	}
	last := ahead[len(ahead)-1]
	return last.Proto < one.Proto || last.Proto == one.Proto && last.High < one.Low
}

// Assigns is addresses in bytes.
func Assigns(l []Address) string {
	var out strings.Builder
	for _, a := range l {
		id := varint.Put(a.Id)
		if id == "" || !prefix.Check(a.Prefix) {
			return ""
		}
		out.WriteString(id)
		out.WriteByte(version)
		writeWord(&out, a.Prefix.Addr)
		out.WriteByte(byte(a.Prefix.Bits))
	}
	return out.String()
}

// Tells is routes in bytes.
func Tells(l []Route) (string, api.Errno) {
	var out strings.Builder
	for i, r := range l {
		if !routeFits(l[:i], r) {
			return "", api.ErrRange
		}
		out.WriteByte(version)
		writeWord(&out, r.Low)
		writeWord(&out, r.High)
		out.WriteByte(byte(r.Proto))
	}
	return out.String(), api.OK
}

func writeWord(out *strings.Builder, a uint32) {
	for i := range wordSize {
		out.WriteByte(byte(a >> (8 * (wordSize - 1 - i))))
	}
}
