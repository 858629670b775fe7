package capsule_test

import (
	"fmt"
	"math"
	"slices"
	"strings"
	"testing"

	"vizard/api"
	"vizard/capsule"
)

// TestAddresses is promise 16.2 of addresses that are right.
func TestAddresses(t *testing.T) {
	wantAddresses(t, "nothing", "", nil, api.OK)
	wantAddresses(t, "one", "\x00\x04\x0a\x00\x00\x01\x20", []capsule.Address{addressOf(0, 0x0a000001, 32)}, api.OK)
	wantAddresses(t, "two", "\x05\x04\x0a\x01\x02\x00\x18\x05\x04\x00\x00\x00\x00\x00", []capsule.Address{addressOf(5, 0x0a010200, 24), addressOf(5, 0, 0)}, api.OK)
	wantAddresses(t, "an Id of 4", "\x04\x04\x04\x04\x04\x04\x20", []capsule.Address{addressOf(4, 0x04040404, 32)}, api.OK)
	for count := range 20 {
		l := someAddresses(count)
		if count > 16 {
			wantAddresses(t, "too many", addressesBytes(l), nil, api.ErrLong)
		} else {
			wantAddresses(t, "so many", addressesBytes(l), l, api.OK)
		}
	}
}

// TestAddressesIds is promise 16.2 of numbers of every size, in any writing.
func TestAddressesIds(t *testing.T) {
	for _, id := range kinds {
		for _, size := range room(id) {
			a := addressOf(id, 0xc0a80000, 16)
			s := addressBytes(wide(id, size), a)
			wantAddresses(t, "one", s, []capsule.Address{a}, api.OK)
			wantAddresses(t, "twice", s+s, []capsule.Address{a, a}, api.OK)
			for at := 1; at < len(s); at++ {
				wantAddresses(t, "cut off", s[:at], nil, api.ErrShort)
				wantAddresses(t, "cut off, behind one", s+s[:at], nil, api.ErrShort)
			}
		}
	}
}

// TestAddressesCut is promise 16.2 of lists that are cut off at every byte.
func TestAddressesCut(t *testing.T) {
	for _, count := range []int{1, 2, 15, 16, 17} {
		s := addressesBytes(someAddresses(count))
		ends := []int{0}
		for i := range count {
			ends = append(ends, len(addressesBytes(someAddresses(i+1))))
		}
		for at := range len(s) {
			if i := slices.Index(ends, at); i >= 0 {
				wantAddresses(t, "cut between two", s[:at], someAddresses(i), api.OK)
			} else {
				wantAddresses(t, "cut within one", s[:at], nil, api.ErrShort)
			}
		}
	}
}

// TestAddressesMark is promise 16.2 of a byte that is not 4: that is told as soon as it is there.
func TestAddressesMark(t *testing.T) {
	for _, before := range []string{"", addressesBytes(someAddresses(1)), addressesBytes(someAddresses(15)), addressesBytes(someAddresses(16))} {
		for _, id := range []string{"\x00", "\x04", "\x40\x04", wide(4, 8), put(greatest)} {
			wantAddresses(t, "ahead of the byte", before+id, nil, api.ErrShort)
			for mark := range 256 {
				if mark == 4 {
					continue
				}
				s := before + id + string([]byte{byte(mark)})
				for _, more := range []string{"", "\x0a", "\x0a\x00\x00\x01", "\x0a\x00\x00\x01\x20", "\x0a\x00\x00\x01\x08", "\x0a\x00\x00\x01\x21", strings.Repeat("\x00", 16), strings.Repeat("\x04", 100)} {
					wantAddresses(t, "another byte", s+more, nil, api.ErrKind)
				}
			}
		}
	}
}

// TestAddressesPrefix is promise 16.2 of prefixes that are right and that are not.
func TestAddressesPrefix(t *testing.T) {
	for bits := range 256 {
		for _, addr := range []uint32{0, 1, 2, 3, 0x80000000, 0x80000001, 0xc0000000, 0x40000000, 0xffffffff, 0xfffffffe, 0xfffffffc, 0x0a000000, 0x0a000001, 0xffff0000, 0xffff8000} {
			a := addressOf(7, addr, bits)
			s := addressBytes("\x07", a)
			if rightPrefix(a.Prefix) {
				wantAddresses(t, "right", s, []capsule.Address{a}, api.OK)
				wantAssigns(t, "right", true, a)
			} else {
				wantAddresses(t, "not right", s, nil, api.ErrRange)
				wantAssigns(t, "not right", false, a)
			}
		}
	}
	for _, c := range []struct {
		addr  uint32
		bits  int
		right bool
	}{
		{0, 0, true}, {1, 0, false}, {0x80000000, 0, false},
		{0, 1, true}, {0x80000000, 1, true}, {0x40000000, 1, false}, {0x80000001, 1, false},
		{2, 31, true}, {0xfffffffe, 31, true}, {1, 31, false}, {3, 31, false},
		{0, 32, true}, {1, 32, true}, {0xffffffff, 32, true},
		{0, 33, false}, {1, 33, false}, {0xffffffff, 33, false}, {0, 64, false}, {0, 255, false},
	} {
		a := addressOf(0, c.addr, c.bits)
		if c.right {
			wantAddresses(t, "right", addressBytes("\x00", a), []capsule.Address{a}, api.OK)
		} else {
			wantAddresses(t, "not right", addressBytes("\x00", a), nil, api.ErrRange)
		}
		wantAssigns(t, "the same in Assigns", c.right, a)
	}
}

// wrongAddresses are members with a fault, and which one it is.
var wrongAddresses = []struct {
	s string
	e api.Errno
}{
	{"\x00\x05\x0a\x00\x00\x01\x20", api.ErrKind},
	{"\x00\x06", api.ErrKind},
	{"\x00\x04\x0a\x00\x00\x01\x08", api.ErrRange},
	{"\x00\x04\x0a\x00\x00\x00\x21", api.ErrRange},
	{"\x00\x04\x0a\x00\x00\x01", api.ErrShort},
	{"\x00", api.ErrShort},
	{"\x40", api.ErrShort},
}

// TestAddressesFaults is promise 16.2 of two faults: the first one is told, member by member; and of a fault behind the sixteenth member.
func TestAddressesFaults(t *testing.T) {
	for _, first := range wrongAddresses {
		for _, count := range []int{0, 1, 14, 15, 16} {
			before := addressesBytes(someAddresses(count))
			wantAddresses(t, "one fault", before+first.s, nil, first.e)
			for _, second := range wrongAddresses {
				if first.e == api.ErrShort {
					continue // nothing stands behind it
				}
				wantAddresses(t, "two faults", before+first.s+second.s, nil, first.e)
				wantAddresses(t, "two faults, with others around", before+first.s+addressesBytes(someAddresses(3))+second.s, nil, first.e)
			}
			if first.e != api.ErrShort {
				wantAddresses(t, "a fault, and then too many", before+first.s+addressesBytes(someAddresses(17)), nil, first.e)
			}
		}
		wantAddresses(t, "too many, and then a fault", addressesBytes(someAddresses(17))+first.s, nil, api.ErrLong)
	}
}

// TestAssigns is promise 16.2 of addresses' bytes.
func TestAssigns(t *testing.T) {
	if s := capsule.Assigns([]capsule.Address{addressOf(0, 0x0a000001, 32), addressOf(64, 0x0a000000, 8)}); s != "\x00\x04\x0a\x00\x00\x01\x20\x40\x40\x04\x0a\x00\x00\x00\x08" {
		t.Errorf("Assigns is %x", s)
	}
	wantAssigns(t, "none", true)
	if s := capsule.Assigns([]capsule.Address{}); s != "" {
		t.Errorf("Assigns of an empty list is %x", s)
	}
	for count := range 40 {
		wantAssigns(t, "so many", true, someAddresses(count)...)
	}
	wantAssigns(t, "very many", true, slices.Repeat(someAddresses(10), 1000)...)
}

// TestAssignsWrong is promise 16.2 of addresses that cannot be written: one is enough, wherever it stands.
func TestAssignsWrong(t *testing.T) {
	var wrong []capsule.Address
	for _, id := range noNumbers {
		wrong = append(wrong, addressOf(id, 0x0a000000, 8), addressOf(id, 0x0a000001, 8))
	}
	for _, bits := range []int{-1, -2, -8, -32, -224, -256, math.MinInt, 33, 34, 64, 255, 256, 256 + 8, 1<<32 + 8, math.MaxInt} {
		wrong = append(wrong, addressOf(0, 0, bits), addressOf(0, 0x0a000000, bits), addressOf(0, 0xffffffff, bits))
	}
	wrong = append(wrong, addressOf(0, 0x0a000001, 8), addressOf(greatest, 1, 31), addressOf(1, 1, 0))
	for _, a := range wrong {
		wantAssigns(t, "alone", false, a)
		for _, count := range []int{1, 5, 16, 20} {
			for at := range count + 1 {
				wantAssigns(t, "among others", false, slices.Insert(someAddresses(count), at, a)...)
			}
		}
	}
	for _, id := range kinds {
		wantAssigns(t, "an Id that is a number", true, addressOf(id, 0x0a000000, 8))
	}
}

// TestAddressesMemory is promise 16.2 with R4: nothing that is handed in is changed, and answers share nothing.
func TestAddressesMemory(t *testing.T) {
	l := append(make([]capsule.Address, 0, 20), someAddresses(16)...)
	before := fmt.Sprint(l[:cap(l)])
	s := capsule.Assigns(l)
	if fmt.Sprint(l[:cap(l)]) != before {
		t.Error("Assigns changed what was handed in")
	}
	first, _ := capsule.Addresses(s)
	second, _ := capsule.Addresses(s)
	clear(first)
	_ = append(first, addressOf(1, 0, 0))
	if !slices.Equal(second, l) {
		t.Error("a change of an answer changes another")
	}
}
