package frame

import (
	"encoding/binary"
	"hash/crc32"
	"math/bits"
	"regexp"
	"strings"
)

// The model has its sums from the library, lays records by the counts of their pieces, and tells which kinds follow by an expression.

// drawn answers numbers that look at random and are the same each time.
type drawn uint64

func (d *drawn) below(n int) int {
	*d = *d*6364136223846793005 + 1442695040888963407
	return int(uint64(*d)>>33) % n
}

func (d *drawn) text(size int) string {
	b := make([]byte, size)
	for i := range b {
		b[i] = byte(d.below(256))
	}
	return string(b)
}

// file answers drawn pieces, of which the most follow as they should.
func (d *drawn) file() string {
	follow := map[byte]string{0: "1222", 1: "1222", 2: "3444", 3: "3444", 4: "1222"}
	file, kind := "", byte(0)
	for range d.below(12) {
		left := 128 - len(file)%128
		if left < 7 {
			file += d.text(left)
			left = 128
		}
		kind = follow[kind][d.below(4)] - '0'
		size := min(left-7, d.below(130))
		if d.below(30) == 0 {
			kind = byte(d.below(5))
		}
		if d.below(40) == 0 {
			size += d.below(4)
		}
		file += pieceOf(kind, d.text(size))
	}
	return file
}

// text answers so many bytes, other ones for another seed.
func text(seed, size int) string {
	d := drawn(seed)
	return d.text(size)
}

func sumOf(s string) uint32 {
	return crc32.Checksum([]byte(s), crc32.MakeTable(crc32.Castagnoli))
}

// bare answers a sum's bytes as they are.
func bare(sum uint32) string {
	return string(binary.LittleEndian.AppendUint32(nil, sum))
}

func masked(sum uint32) string {
	return bare(bits.RotateLeft32(sum, -15) + 0xA282EAD8)
}

// turned answers bytes, the last one first.
func turned(s string) string {
	back := ""
	for i := range len(s) {
		back = s[i:i+1] + back
	}
	return back
}

func pieceOf(kind byte, part string) string {
	return masked(sumOf(string([]byte{kind})+part)) + string(binary.LittleEndian.AppendUint16(nil, uint16(len(part)))) + string([]byte{kind}) + part
}

// modelFrame cuts the record first, and gives the kinds then.
func modelFrame(at int, rec string) string {
	left := 128 - at%128
	b := ""
	if left < 7 {
		b, left = strings.Repeat("\x00", left), 128
	}
	parts := []string{rec[:min(left-7, len(rec))]}
	for rec = rec[len(parts[0]):]; rec != ""; rec = rec[len(parts[len(parts)-1]):] {
		parts = append(parts, rec[:min(121, len(rec))])
	}
	if len(parts) == 1 {
		return b + pieceOf(1, parts[0])
	}
	for i, part := range parts {
		kind := byte(3)
		if i == 0 {
			kind = 2
		}
		if i == len(parts)-1 {
			kind = 4
		}
		b += pieceOf(kind, part)
	}
	return b
}

// allowed is what rows of kinds make records.
var allowed = regexp.MustCompile(`^(1|23*4)*`)

// modelScan tells all right pieces apart first, block by block, and then how many of them are records.
func modelScan(file string) ([]string, int) {
	kinds, parts, ends := "", []string{}, []int{}
	for at := 0; at < len(file); at += 128 {
		block := file[at:min(at+128, len(file))]
		in := 0
		for len(block)-in >= 7 {
			size := int(block[in+4]) + int(block[in+5])*256
			if size > len(block)-in-7 {
				break
			}
			part := block[in+7 : in+7+size]
			if block[in+6] > 9 || block[in:in+7+size] != pieceOf(block[in+6], part) {
				break
			}
			kinds += string(rune('0' + block[in+6]))
			in += 7 + size
			parts, ends = append(parts, part), append(ends, at+in)
		}
		if in < len(block) && in <= 121 {
			break
		}
	}
	var recs []string
	end, rec := 0, ""
	for i, kind := range allowed.FindString(kinds) {
		rec += parts[i]
		if kind == '1' || kind == '4' {
			recs, rec, end = append(recs, rec), "", ends[i]
		}
	}
	return recs, end
}
