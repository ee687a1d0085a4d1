package codec

import "podium/api"

// reader holds what remains to be read.
type reader struct{ rest []byte }

// require ends the reading, by a panic that Decode recovers, unless ok.
func require(ok bool) {
	if !ok {
		panic(api.ErrCode)
	}
}

// value reads a value of at most the given depth.
func (r *reader) value(depth int) api.Value {
	kind := int(r.next())
	switch kind {
	case api.IntV:
		return api.Value{Kind: kind, N: signed(r.numeral())}
	case api.TextV:
		return api.Value{Kind: kind, S: r.text()}
	case api.ListV:
		return api.Value{Kind: kind, L: r.list(depth)}
	}
	panic(api.ErrCode)
}

func (r *reader) text() string {
	n := r.numeral()
	require(n <= uint64(len(r.rest)))
	return string(r.take(int(n)))
}

// list makes no room for as many elements as are announced, because their number can be anything in bytes that are no encoding.
func (r *reader) list(depth int) []api.Value {
	require(depth > 0)
	var l []api.Value
	for range r.numeral() {
		l = append(l, r.value(depth-1))
	}
	return l
}

// numeral refuses superfluous digits, and a tenth digit beyond the last of the 64 bits.
func (r *reader) numeral() uint64 {
	u := uint64(0)
	for shift := 0; ; shift += 7 {
		b := r.next()
		require(shift < 63 || b <= 1)
		u |= uint64(b%128) << shift
		if b < 128 {
			require(b > 0 || shift == 0)
			return u
		}
	}
}

func (r *reader) next() byte {
	return r.take(1)[0]
}

// take limits both parts, so that neither can be extended into other bytes of the caller.
func (r *reader) take(n int) []byte {
	end := len(r.rest)
	require(n <= end)
	taken := r.rest[:n:n]
	r.rest = r.rest[n:end:end]
	return taken
}
