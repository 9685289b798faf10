package delta

import (
	"bytes"
	"encoding/binary"
	"math"
	"slices"
	"testing"

	"retorter/api"
)

func checkPut(t *testing.T, b []byte, n int, want []byte) {
	t.Helper()
	if got := Put(b, n); !bytes.Equal(got, want) {
		t.Errorf("P201: Put(%v, %d) = %v; want %v", b, n, got, want)
	}
}

func checkGet(t *testing.T, b []byte, at, want, wantEnd int, wantErr api.Errno) {
	t.Helper()
	got, end, e := Get(b, at)
	if got != want || end != wantEnd || e != wantErr {
		t.Errorf("P201: Get(%v, %d) = %d, %d, %d; want %d, %d, %d", b, at, got, end, e, want, wantEnd, wantErr)
	}
}

// written is a number and its bytes, worked out by hand.
type written struct {
	n int
	b []byte
}

func byHand() []written {
	return []written{
		{0, []byte{0}},
		{1, []byte{1}},
		{127, []byte{127}},
		{128, []byte{128, 1}},
		{129, []byte{129, 1}},
		{255, []byte{255, 1}},
		{256, []byte{128, 2}},
		{300, []byte{172, 2}},
		{16383, []byte{255, 127}},
		{16384, []byte{128, 128, 1}},
		{1<<21 - 1, []byte{255, 255, 127}},
		{1 << 21, []byte{128, 128, 128, 1}},
		{1<<28 - 1, []byte{255, 255, 255, 127}},
		{1 << 28, []byte{128, 128, 128, 128, 1}},
		{math.MaxInt32, []byte{255, 255, 255, 255, 7}},
	}
}

func TestP201Put(t *testing.T) {
	for _, x := range byHand() {
		checkPut(t, nil, x.n, x.b)
		checkPut(t, []byte{}, x.n, x.b)
		checkPut(t, []byte{0, 128, 255}, x.n, slices.Concat([]byte{0, 128, 255}, x.b))
	}
}

func TestP201PutBelowZero(t *testing.T) {
	for _, n := range []int{-1, -2, -128, -300, math.MinInt32, math.MinInt + 1, math.MinInt} {
		checkPut(t, nil, n, nil)
		checkPut(t, []byte{}, n, nil)
		checkPut(t, []byte{7, 200}, n, []byte{7, 200})
	}
}

// The library's own writer of this form is asked for every length of number.
func TestP201PutEveryLength(t *testing.T) {
	for shift := range 63 {
		for _, n := range []int{1<<shift - 1, 1 << shift, 1<<shift + 1, 3 << shift, math.MaxInt >> shift} {
			if n < 0 {
				continue
			}
			checkPut(t, nil, n, binary.AppendUvarint(nil, uint64(n)))
		}
	}
}

func TestP201Get(t *testing.T) {
	for _, x := range byHand() {
		checkGet(t, x.b, 0, x.n, len(x.b), api.OK)
		among := slices.Concat([]byte{9, 200}, x.b, []byte{255, 3})
		checkGet(t, among, 2, x.n, 2+len(x.b), api.OK)
	}
}

func TestP201GetOfEachPut(t *testing.T) {
	for n := range 40000 {
		b := Put(nil, n)
		checkGet(t, b, 0, n, len(b), api.OK)
	}
	for shift := range 31 {
		for _, n := range []int{1<<shift - 1, 1 << shift, math.MaxInt32 >> shift, math.MaxInt32 - 1<<shift} {
			b := Put([]byte{128}, n)
			checkGet(t, b, 1, n, len(b), api.OK)
		}
	}
}

func TestP201GetOneBehindAnother(t *testing.T) {
	want := []int{5, 0, 300, math.MaxInt32, 0, 128, 127}
	var b []byte
	for _, n := range want {
		b = Put(b, n)
	}
	var got []int
	for at := 0; at < len(b); {
		n, end, e := Get(b, at)
		if e != api.OK {
			t.Fatalf("P201: Get(%v, %d): error %d", b, at, e)
		}
		got, at = append(got, n), end
	}
	if !slices.Equal(got, want) {
		t.Errorf("P201: read %v; want %v", got, want)
	}
}

func TestP201GetLastByteZero(t *testing.T) {
	checkGet(t, []byte{128, 0}, 0, 0, 2, api.OK)
	checkGet(t, []byte{133, 0}, 0, 5, 2, api.OK)
	checkGet(t, []byte{133, 128, 0}, 0, 5, 3, api.OK)
	checkGet(t, []byte{128, 128, 128, 0}, 0, 0, 4, api.OK)
	checkGet(t, []byte{128, 128, 128, 128, 0}, 0, 0, 5, api.OK)
	checkGet(t, []byte{255, 255, 255, 255, 0}, 0, 1<<28-1, 5, api.OK)
}

func TestP201GetPlaces(t *testing.T) {
	for _, at := range []int{-1, -5, math.MinInt, 4, 5, math.MaxInt32, math.MaxInt} {
		checkGet(t, []byte{1, 2, 3}, at, 0, 0, api.ErrArg)
	}
	checkGet(t, []byte{1, 2, 3}, 2, 3, 3, api.OK)
	checkGet(t, []byte{1, 2, 3}, 3, 0, 0, api.ErrShort)
	for _, b := range [][]byte{nil, {}} {
		checkGet(t, b, 0, 0, 0, api.ErrShort)
		checkGet(t, b, 1, 0, 0, api.ErrArg)
		checkGet(t, b, -1, 0, 0, api.ErrArg)
	}
}

func TestP201GetShort(t *testing.T) {
	for _, c := range []byte{128, 129, 255} {
		for size := range 5 {
			b := bytes.Repeat([]byte{c}, size)
			checkGet(t, b, 0, 0, 0, api.ErrShort)
			checkGet(t, append([]byte{1}, b...), 1, 0, 0, api.ErrShort)
			checkGet(t, b, size, 0, 0, api.ErrShort)
		}
	}
}

func TestP201GetStopsAtTheLength(t *testing.T) {
	room := []byte{128, 128, 1, 2}
	checkGet(t, room[:2], 0, 0, 0, api.ErrShort)
	checkGet(t, room[:2], 2, 0, 0, api.ErrShort)
	checkGet(t, room[:2], 3, 0, 0, api.ErrArg)
}

func TestP201GetTooManyBytes(t *testing.T) {
	for _, c := range []byte{128, 129, 255} {
		for size := 5; size < 14; size++ {
			b := bytes.Repeat([]byte{c}, size)
			checkGet(t, b, 0, 0, 0, api.ErrLong)
			checkGet(t, append(b, 0), 0, 0, 0, api.ErrLong)
			checkGet(t, append([]byte{1}, b...), 1, 0, 0, api.ErrLong)
		}
	}
	// Five bytes are told by the place that is asked, not by how long b is.
	checkGet(t, []byte{128, 128, 128, 128, 128, 1}, 1, 1<<28, 6, api.OK)
}

func TestP201GetAbove(t *testing.T) {
	for last := range 128 {
		for _, c := range []byte{128, 255} {
			b := []byte{c, c, c, c, byte(last)}
			n := uint64(last)<<28 + uint64(c&127)*(1+1<<7+1<<14+1<<21)
			if n <= math.MaxInt32 {
				checkGet(t, b, 0, int(n), 5, api.OK)
			} else {
				checkGet(t, b, 0, 0, 0, api.ErrLong)
			}
		}
	}
	for _, n := range []int{math.MaxInt32 + 1, math.MaxUint32, math.MaxUint32 + 1, 1 << 35, math.MaxInt} {
		checkGet(t, Put(nil, n), 0, 0, 0, api.ErrLong)
	}
}

// byHandGet is P201 told again, byte by byte, with the library's reader for the number.
func byHandGet(b []byte) (int, int, api.Errno) {
	for i, c := range b {
		if c < 128 {
			n, _ := binary.Uvarint(b[:i+1])
			if n > math.MaxInt32 {
				return 0, 0, api.ErrLong
			}
			return int(n), i + 1, api.OK
		}
		if i == 4 {
			return 0, 0, api.ErrLong
		}
	}
	return 0, 0, api.ErrShort
}

func TestP201GetOfAllShapes(t *testing.T) {
	kinds := []byte{0, 1, 7, 8, 127, 128, 135, 255}
	last := [][]byte{nil}
	for range 7 {
		var longer [][]byte
		for _, b := range last {
			n, end, e := byHandGet(b)
			checkGet(t, b, 0, n, end, e)
			for _, c := range kinds {
				// Behind a last byte one further byte is enough.
				if len(b) < 2 || b[len(b)-2] > 127 {
					longer = append(longer, append(bytes.Clone(b), c))
				}
			}
		}
		last = longer
	}
}

func TestP202ArgumentsStay(t *testing.T) {
	room := []byte{1, 128, 3, 4, 5, 6, 7, 8, 9, 10, 11, 12}
	before := bytes.Clone(room)
	for _, n := range []int{-1, 0, 127, 300, math.MaxInt32, math.MaxInt} {
		for size := range 3 {
			Put(room[:size], n)
		}
	}
	for at := -1; at <= 4; at++ {
		Get(room[:3], at)
	}
	if !bytes.Equal(room, before) {
		t.Errorf("P202: %v became %v", before, room)
	}
}

func TestP202AnswersAreNewMemory(t *testing.T) {
	for _, n := range []int{-1, 0, 300, math.MaxInt} {
		room := make([]byte, 3, 30)
		got := Put(room, n)
		got[0] = 77
		got = got[:cap(got)]
		got[len(got)-1] = 78
		if all := room[:cap(room)]; !bytes.Equal(all, make([]byte, 30)) {
			t.Errorf("P202: Put of %d shares memory with its argument: %v", n, all)
		}
		room[1] = 79
		if got[1] != 0 {
			t.Errorf("P202: Put of %d has kept its argument", n)
		}
	}
}

func TestP202TwoAnswersShareNothing(t *testing.T) {
	front := append(make([]byte, 0, 30), 9)
	first, second := Put(front, 1), Put(front, 300)
	if !bytes.Equal(first, []byte{9, 1}) || !bytes.Equal(second, []byte{9, 172, 2}) {
		t.Errorf("P202: two answers are %v and %v", first, second)
	}
	first[0] = 1
	if second[0] != 9 {
		t.Errorf("P202: two answers share memory")
	}
}

func TestP202NothingIsKept(t *testing.T) {
	for range 3 {
		checkPut(t, nil, 300, []byte{172, 2})
		checkPut(t, []byte{1}, -1, []byte{1})
		checkPut(t, nil, 0, []byte{0})
		checkGet(t, []byte{172, 2}, 0, 300, 2, api.OK)
		checkGet(t, []byte{172}, 0, 0, 0, api.ErrShort)
		checkGet(t, []byte{255, 255, 255, 255, 8}, 0, 0, 0, api.ErrLong)
		checkGet(t, nil, 1, 0, 0, api.ErrArg)
	}
}
