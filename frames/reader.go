package frames

import (
	"vizard/api"
	"vizard/varint"
)

// reader takes frames from the front of bytes. What is wrong with them it throws, as an api.Errno, so that the order of its steps is the order of the errors.
type reader struct {
	rest string
}

// frames is all that are left, but those of FPad.
func (r *reader) frames() []api.Frame {
	var l []api.Frame
	for r.rest != "" {
		f := r.frame()
		if f.Kind == api.FPad {
			continue
		}
		// It is counted when it is read whole: what is wrong within it is told ahead of it being one too many.
		throwIf(len(l) == api.MaxFrames, api.ErrLong)
		l = append(l, f)
	}
	return l
}

func (r *reader) frame() api.Frame {
	kind := r.number()
	fields, known := fieldsOf(kind)
	throwIf(!known, api.ErrKind)
	f := api.Frame{Kind: int(kind)}
	for _, field := range fields {
		switch field {
		case idField:
			f.Id = r.number()
		case offField:
			f.Off = r.number()
		case finField:
			f.Fin = r.flag()
		case codeField:
			f.Code = r.number()
		case dataField:
			f.Data = r.data()
		case rangesField:
			f.Ranges = r.ranges()
		}
	}
	e := Check(f)
	throwIf(e != api.OK, e)
	return f
}

func (r *reader) number() int64 {
	n, size, e := varint.Get(r.rest)
	throwIf(e != api.OK, e)
	r.rest = r.rest[size:]
	return n
}

func (r *reader) flag() bool {
	throwIf(r.rest == "", api.ErrShort)
	b := r.rest[0]
	throwIf(b > 1, api.ErrField)
	r.rest = r.rest[1:]
	return b == 1
}

func (r *reader) data() string {
	s, size, e := varint.Take(r.rest)
	throwIf(e != api.OK, e)
	r.rest = r.rest[size:]
	return s
}

func (r *reader) ranges() []api.Range {
	count := r.number()
	// Ahead of making room for them, for a count may be as great as a number can be.
	throwIf(count == 0 || count > api.MaxRanges, api.ErrField)
	l := make([]api.Range, count)
	for i := range l {
		l[i].High = r.number()
		l[i].Low = r.number()
	}
	return l
}

func throwIf(wrong bool, e api.Errno) {
	if wrong {
		panic(e)
	}
}
