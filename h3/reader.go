package h3

import (
	"vizard/api"
	"vizard/varint"
)

const (
	// maxWhole is how many bytes of data a frame may have that is told whole, for so long they are kept.
	maxWhole = 4096
	// maxNumber is how many bytes a number has at most.
	maxNumber = 8
)

// Reader reads a stream's frames.
type Reader struct {
	control bool
	next    func(s string) string // reads on at the front of s, and answers what it left of it
	kept    string                // what came of a number, or of data that is told whole
	kind    int64                 // the kind of the frame that is being read
	left    int64                 // how many bytes of its data did not come yet
	within  bool                  // the stream may not end here
	opened  bool                  // the frame that must be the first one came
	code    int64                 // the first fault's
	told    []Event               // what came with this Feed
}

// New reads a request's stream, or a control one.
func New(control bool) *Reader {
	r := &Reader{control: control}
	r.next = r.readKind
	if control {
		r.next = r.readFirst
		// A control stream may not end ahead of its first byte.
		r.within = true
	}
	return r
}

// Feed reads bytes; a code that is not 0 ends it.
func (r *Reader) Feed(s string) ([]Event, int64) {
	for rest := s; rest != ""; {
		rest = r.next(rest)
	}
	l := r.told
	r.told = nil
	return l, r.code
}

// End tells whether a stream may end here.
func (r *Reader) End() int64 {
	switch {
	case r.code != 0:
		return r.code
	case r.within:
		return api.CodeFrame
	case !r.control && !r.opened:
		return api.CodeMessage
	}
	return 0
}

func (r *Reader) readFirst(s string) string {
	if s[0] != 0 {
		return r.fail(api.CodeUnexp)
	}
	r.endFrame()
	return s[1:]
}

func (r *Reader) readKind(s string) string {
	r.within = true
	n, rest, all := r.readNumber(s)
	if all {
		r.kind = n
		r.next = r.readCount
	}
	return rest
}

func (r *Reader) readCount(s string) string {
	n, rest, all := r.readNumber(s)
	if !all {
		return rest
	}
	if code := r.headFault(n); code != 0 {
		return r.fail(code)
	}
	r.left = n
	switch r.kind {
	case Data:
		r.next = r.readPiece
	case Headers, Settings, Goaway:
		r.next = r.readWhole
	default:
		r.next = r.passOver
	}
	// It is called even if nothing is left to read, for a frame of no data is over with its count.
	return r.next(rest)
}

// readPiece tells data at once, for there is no bound to how much of it may come.
func (r *Reader) readPiece(s string) string {
	piece, rest := r.cutData(s)
	if piece != "" {
		r.tell(piece)
	}
	return rest
}

func (r *Reader) readWhole(s string) string {
	piece, rest := r.cutData(s)
	r.kept += piece
	if r.left > 0 {
		return rest
	}
	data := r.kept
	r.kept = ""
	if code := dataFault(r.kind, data); code != 0 {
		return r.fail(code)
	}
	// Behind a Goaway it was set already, for none is read ahead of the first frame.
	r.opened = true
	r.tell(data)
	return rest
}

func (r *Reader) passOver(s string) string {
	_, rest := r.cutData(s)
	return rest
}

// readNothing is what is next behind a fault.
func (r *Reader) readNothing(s string) string {
	return ""
}

// readNumber is the number that is kept in part, or not at all, and goes on at the front of s; false: it goes on behind s, too.
func (r *Reader) readNumber(s string) (int64, string, bool) {
	// No more of s is put behind what is kept than a number may need, for s may be long.
	front := r.kept + s[:min(len(s), maxNumber-len(r.kept))]
	n, size, e := varint.Get(front)
	if e != api.OK {
		r.kept = front
		return 0, "", false
	}
	rest := s[size-len(r.kept):]
	r.kept = ""
	return n, rest, true
}

// cutData is the frame's data at the front of s, and what stands behind it.
func (r *Reader) cutData(s string) (string, string) {
	size := min(r.left, int64(len(s)))
	r.left -= size
	if r.left == 0 {
		r.endFrame()
	}
	return s[:size], s[size:]
}

func (r *Reader) endFrame() {
	r.within = false
	r.next = r.readKind
}

func (r *Reader) tell(data string) {
	r.told = append(r.told, Event{Kind: r.kind, Data: data})
}

func (r *Reader) fail(code int64) string {
	r.code = code
	r.next = r.readNothing
	return ""
}

// headFault is what is wrong with a frame of the kind that was read, by its place and its count; 0: nothing.
func (r *Reader) headFault(count int64) int64 {
	if code := r.placeFault(); code != 0 {
		return code
	}
	switch r.kind {
	case Headers, Settings, Goaway:
		if count > maxWhole {
			return api.CodeFrame
		}
	}
	return 0
}

// placeFault is what is wrong with a frame of the kind that was read, in this stream and after what came; 0: nothing.
func (r *Reader) placeFault() int64 {
	switch r.kind {
	case Data:
		if r.control || !r.opened {
			return api.CodeUnexp
		}
	case Headers:
		if r.control || r.opened {
			return api.CodeUnexp
		}
	case Settings:
		if !r.control || r.opened {
			return api.CodeUnexp
		}
	case Goaway:
		if !r.control {
			return api.CodeUnexp
		}
		if !r.opened {
			return api.CodeMissing
		}
	}
	return 0
}

// dataFault is what is wrong with data that is told whole; 0: nothing.
func dataFault(kind int64, data string) int64 {
	switch kind {
	case Goaway:
		if _, size, e := varint.Get(data); e != api.OK || size != len(data) {
			return api.CodeFrame
		}
	case Settings:
		if _, e := Pairs(data); e != api.OK {
			return api.CodeSettings
		}
	}
	return 0
}
