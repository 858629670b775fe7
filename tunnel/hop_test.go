package tunnel

import (
	"testing"

	"vizard/api"
	"vizard/ipv4"
)

// TestHopOfAnother is promise 22.5 where it is guarded: if what would go is not what was asked of, in whatever field, nothing goes.
func TestHopOfAnother(t *testing.T) {
	h := api.Header{Tos: 1, Id: 2, Frag: 3, Ttl: 64, Proto: 17, Src: 4, Dst: 5, Data: "abcd"}
	s, e := ipv4.Build(h)
	if e != api.OK {
		t.Fatalf("Build: error %d", e)
	}
	behind := h
	behind.Ttl--
	want, _ := ipv4.Build(behind)
	if out, e := hop(s, h); out != want || e != api.OK {
		t.Errorf("hop is %x, %d; want %x", out, e, want)
	}
	others := map[string]api.Header{}
	for name, change := range map[string]func(h *api.Header){
		"Tos":   func(h *api.Header) { h.Tos++ },
		"Id":    func(h *api.Header) { h.Id++ },
		"Frag":  func(h *api.Header) { h.Frag++ },
		"Ttl":   func(h *api.Header) { h.Ttl-- },
		"Proto": func(h *api.Header) { h.Proto-- },
		"Src":   func(h *api.Header) { h.Src++ },
		"Dst":   func(h *api.Header) { h.Dst++ },
		"Data":  func(h *api.Header) { h.Data += "e" },
	} {
		other := h
		change(&other)
		others[name] = other
	}
	others["none"] = api.Header{}
	for name, other := range others {
		if out, e := hop(s, other); out != "" || e != api.ErrDenied {
			t.Errorf("%s: hop is %x, %d; want %d", name, out, e, api.ErrDenied)
		}
	}
	if out, e := hop(s[:19], h); out != "" || e != api.ErrShort {
		t.Errorf("hop of no packet is %x, %d", out, e)
	}
}
