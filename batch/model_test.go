package batch

import (
	"encoding/binary"
	"maps"
	"slices"

	"assart/api"
)

// The model has its numbers from the library, and asks of bytes whether what they may tell has them.

// drawn answers numbers that look at random and are the same each time.
type drawn uint64

func (d *drawn) below(n int) int {
	*d = *d*6364136223846793005 + 1442695040888963407
	return int(uint64(*d)>>33) % n
}

// ops answers so many changes that may be made together, many of them of one key.
func (d *drawn) ops(count int) []api.Op {
	ops := make([]api.Op, count)
	for i := range ops {
		key := make([]byte, 1+d.below(2))
		for j := range key {
			key[j] = []byte{0, 1, 'a', 'b', 255}[d.below(5)]
		}
		ops[i] = api.Op{Kind: d.below(2), Key: string(key)}
		if ops[i].Kind == api.Put {
			ops[i].Val = string(key[:d.below(len(key)+1)]) + string(rune('0'+i))
		}
	}
	return ops
}

func modelText(b []byte, s string) []byte {
	return append(binary.AppendUvarint(b, uint64(len(s))), s...)
}

// modelEncode lays whatever it is given, right or not; an op that is no Put has its value only where it has one.
func modelEncode(seq uint64, count uint32, ops []api.Op) string {
	b := binary.LittleEndian.AppendUint64(nil, seq)
	b = binary.LittleEndian.AppendUint32(b, count)
	for _, o := range ops {
		b = modelText(append(b, byte(o.Kind)), o.Key)
		if o.Kind == api.Put || o.Val != "" {
			b = modelText(b, o.Val)
		}
	}
	return string(b)
}

// modelCut reads a text, in whatever form its count is.
func modelCut(b string) (string, string, bool) {
	count, size := binary.Uvarint([]byte(b))
	if size <= 0 || count > uint64(len(b)-size) {
		return "", "", false
	}
	return b[size : size+int(count)], b[size+int(count):], true
}

// modelDecode reads what stands there loosely, and takes it where it is a batch that has just these bytes.
func modelDecode(b string) (int, []api.Op, bool) {
	if len(b) < 12 {
		return 0, nil, false
	}
	seq := binary.LittleEndian.Uint64([]byte(b))
	count := binary.LittleEndian.Uint32([]byte(b[8:]))
	var ops []api.Op
	for rest, ok := b[12:], true; rest != ""; {
		o := api.Op{Kind: int(rest[0])}
		if o.Key, rest, ok = modelCut(rest[1:]); !ok {
			return 0, nil, false
		}
		if o.Kind == api.Put {
			if o.Val, rest, ok = modelCut(rest); !ok {
				return 0, nil, false
			}
		}
		if o.Kind > api.Put || len(o.Key) < 1 || len(o.Key) > 64 || len(o.Val) > 1000 {
			return 0, nil, false
		}
		ops = append(ops, o)
	}
	if seq < 1 || seq > 1<<56-1 || len(ops) < 1 || len(ops) > 200 || seq+uint64(len(ops))-1 > 1<<56-1 {
		return 0, nil, false
	}
	if uint64(count) != uint64(len(ops)) || modelEncode(seq, count, ops) != b {
		return 0, nil, false
	}
	return int(seq), ops, true
}

// modelLast keeps the changes in a map by their keys.
func modelLast(ops []api.Op) []api.Op {
	byKey := map[string]api.Op{}
	for _, o := range ops {
		byKey[o.Key] = o
	}
	var lasts []api.Op
	for _, key := range slices.Sorted(maps.Keys(byKey)) {
		lasts = append(lasts, byKey[key])
	}
	return lasts
}
