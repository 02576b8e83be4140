package value

import (
	"math"

	"workflow/api"
	"workflow/wire"
)

// Encode returns the bytes of b, followed by the encoding of v if v is well formed.
func Encode(b []byte, v api.Value) []byte {
	code := append([]byte(nil), b...)
	if !wellFormed(v) {
		return code
	}
	return appendValue(code, v)
}

// appendValue appends the encoding of a well-formed value to a slice that this package has made itself.
func appendValue(b []byte, v api.Value) []byte {
	b = appendInt(b, v.Kind)
	switch v.Kind {
	case api.VBool, api.VInt, api.VFuture:
		return appendInt(b, v.Int)
	case api.VText:
		return appendText(b, v.Text)
	case api.VList, api.VMap:
		return appendItems(b, v)
	}
	return b
}

func appendItems(b []byte, v api.Value) []byte {
	b = appendInt(b, len(v.Items))
	for i, x := range v.Items {
		if v.Kind == api.VMap {
			b = appendText(b, v.Keys[i])
		}
		b = appendValue(b, x)
	}
	return b
}

// appendInt and appendText encode on their own, because wire would copy all bytes so far at each call.
func appendInt(b []byte, n int) []byte { return append(b, wire.PutInt(nil, n)...) }

func appendText(b []byte, s string) []byte { return append(b, wire.PutText(nil, s)...) }

// Decode reads a payload; after an error, which the reader keeps, it returns null.
func Decode(r *wire.Reader) api.Value {
	d := decoder{r: r}
	v := d.value(1)
	if d.failed() {
		return Null()
	}
	return v
}

// decoder reads one value with all its items; begun counts the values that have begun.
type decoder struct {
	r     *wire.Reader
	begun int
}

// value reads a value at the given depth. Its result is of no use if the reader has an error.
func (d *decoder) value(depth int) api.Value {
	if d.begun == api.MaxNodes || depth > api.MaxDepth {
		d.fail()
		return Null()
	}
	d.begun++
	switch d.integer() {
	case api.VNull:
		return Null()
	case api.VBool:
		return Bool(d.bit() == 1)
	case api.VInt:
		return Int(d.integer())
	case api.VText:
		return Text(d.text())
	case api.VList:
		return d.list(depth)
	case api.VMap:
		return d.pairs(depth)
	}
	d.fail()
	return Null()
}

func (d *decoder) list(depth int) api.Value {
	v := api.Value{Kind: api.VList}
	for range d.count() {
		v.Items = append(v.Items, d.value(depth+1))
		if d.failed() {
			break
		}
	}
	return v
}

func (d *decoder) pairs(depth int) api.Value {
	v := api.Value{Kind: api.VMap}
	for range d.count() {
		// After a failed key the reader has an error, so the item reads nothing.
		v.Keys = append(v.Keys, d.keyAfter(v.Keys))
		v.Items = append(v.Items, d.value(depth+1))
		if d.failed() {
			break
		}
	}
	return v
}

// keyAfter reads a key that must follow the keys before it.
func (d *decoder) keyAfter(before []string) string {
	key := d.text()
	if n := len(before); n > 0 && key <= before[n-1] {
		d.fail()
	}
	return key
}

func (d *decoder) bit() int {
	n := d.integer()
	if !isBit(n) {
		d.fail()
	}
	return n
}

// count returns 0 if the number of items is refused, so that the loops over it end at once.
func (d *decoder) count() int {
	n := d.integer()
	if n < 0 || n > api.MaxNodes {
		d.fail()
		return 0
	}
	return n
}

// text reads without a limit of length, because wire would answer a longer string with another error.
func (d *decoder) text() string {
	s := d.r.Text(math.MaxInt)
	if tooLong(s) {
		d.fail()
	}
	return s
}

// integer reads without a range, because wire would answer an integer outside it with another error.
func (d *decoder) integer() int { return d.r.Int(math.MinInt, math.MaxInt) }

func (d *decoder) fail() { d.r.Fail(api.ErrForm) }

func (d *decoder) failed() bool { return d.r.Err() != api.OK }
