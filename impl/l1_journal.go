package impl

import "strings"

const MaxRecord = 8000 // bytes of a record

const (
	wordBytes = 4             // bytes of a number in a frame
	headBytes = 2 * wordBytes // a frame's length and checksum
)

// The steps of a compaction.
const (
	compactWrite = iota + 1
	compactSync
	compactSwap
)

// What four shifts make of the register's lowest four bits. The rule goes bit by
// bit; half a byte at a time is the largest stride whose table is short enough to
// be written out, and so is made once, not with every checksum.
var checksumTable = [16]uint32{
	0x00000000, 0x1db71064, 0x3b6e20c8, 0x26d930ac,
	0x76dc4190, 0x6b6b51f4, 0x4db26158, 0x5005713c,
	0xedb88320, 0xf00f9344, 0xd6d6a3e8, 0xcb61b38c,
	0x9b64c2b0, 0x86d3d2d4, 0xa00ae278, 0xbdbdf21c,
}

// Disk is a stand-in disk with the journal's file and perhaps a second one.
// Loose and TempLoose are what was written but not synced.
type Disk struct {
	Main      string
	Loose     string
	HasTemp   bool
	Temp      string
	TempLoose string
}

// Checksum is the 32-bit cyclic redundancy check of the bytes of s.
func Checksum(s string) uint32 {
	register := ^uint32(0)
	for i := range len(s) {
		register ^= uint32(s[i])
		register = register>>4 ^ checksumTable[register&15]
		register = register>>4 ^ checksumTable[register&15]
	}
	return ^register
}

// Frame is the payload behind its length and its checksum; a payload of more than
// MaxRecord bytes has none.
func Frame(payload string) string {
	if len(payload) > MaxRecord {
		return ""
	}
	return packWord(uint32(len(payload))) + packWord(Checksum(payload)) + payload
}

// Unframe answers the payloads of the whole frames at the front of text, and the
// number of bytes of these frames.
func Unframe(text string) ([]string, int) {
	var payloads []string
	read := 0
frames:
	for len(text)-read >= headBytes {
		size := unpackWord(text[read:])
		sum := unpackWord(text[read+wordBytes:])
		rest := text[read+headBytes:]
		switch {
		// The limit comes first: a greater length need not fit in an int.
		case size > MaxRecord || int(size) > len(rest):
			break frames
		case Checksum(rest[:size]) != sum:
			break frames
		}
		payloads = append(payloads, rest[:size])
		read += headBytes + int(size)
	}
	return payloads, read
}

// Append writes the payload's frame behind what is loose.
func Append(d Disk, payload string) Disk {
	d.Loose += Frame(payload)
	return d
}

// Sync makes sure of what is loose in the journal's file.
func Sync(d Disk) Disk {
	d.Main, d.Loose = d.Main+d.Loose, ""
	return d
}

// Crash lets the first keep bytes of Loose and the first keepTemp bytes of
// TempLoose survive.
func Crash(d Disk, keep, keepTemp int) Disk {
	d.Main, d.Loose = d.Main+front(d.Loose, keep), ""
	d.Temp, d.TempLoose = d.Temp+front(d.TempLoose, keepTemp), ""
	return d
}

// Mount cuts the journal's file at its first bad frame, drops all else, and
// answers the payloads that are left.
func Mount(d Disk) (Disk, []string) {
	payloads, read := Unframe(d.Main)
	return Disk{Main: d.Main[:read]}, payloads
}

// Compact takes the first steps of those that put the frames of the records in
// place of the journal.
func Compact(d Disk, records []string, steps int) Disk {
	for step := compactWrite; step <= compactSwap && step <= steps; step++ {
		d = compactStep(d, records, step)
	}
	return d
}

// The journal's file is left alone until the new one is synced whole, so that a
// crash at any step leaves one of the two.
func compactStep(d Disk, records []string, step int) Disk {
	switch step {
	case compactWrite:
		d.HasTemp, d.Temp, d.TempLoose = true, "", frameAll(records)
	case compactSync:
		d.Temp, d.TempLoose = d.TempLoose, ""
	case compactSwap:
		d = Disk{Main: d.Temp}
	}
	return d
}

func frameAll(payloads []string) string {
	var frames strings.Builder
	for _, payload := range payloads {
		frames.WriteString(Frame(payload))
	}
	return frames.String()
}

// packWord is the four bytes of n, the highest first.
func packWord(n uint32) string {
	return string([]byte{byte(n >> 24), byte(n >> 16), byte(n >> 8), byte(n)})
}

// unpackWord is the number of the first four bytes of s.
func unpackWord(s string) uint32 {
	return uint32(s[0])<<24 | uint32(s[1])<<16 | uint32(s[2])<<8 | uint32(s[3])
}

// front is the first n bytes of s: none if n is less than 0, all if it is more
// than there are.
func front(s string, n int) string {
	return s[:max(0, min(n, len(s)))]
}
