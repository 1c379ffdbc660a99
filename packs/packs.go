// Package packs: the pieces of a text in one string, each in a frame with a
// check.
package packs

import (
	"strings"

	"wattle/api"
	"wattle/parts"
)

const (
	mark       = 119 // a pack's first byte
	bareSize   = 6   // a head without its check
	checkSize  = 4
	headSize   = bareSize + checkSize
	numberSize = 1 // a frame's number
)

// Write makes the pack of these pieces, which go together with the head.
func Write(head api.Head, pieces []string) string {
	bare := bareHead(head)
	pack := []byte(bare + checkOf(bare))
	for number, piece := range pieces {
		body := string([]byte{byte(number)}) + piece
		pack = append(pack, body...)
		pack = append(pack, checkOf(bare+body)...)
	}
	return string(pack)
}

// HeadOf is the head that a pack begins with, and whether there is one. That
// its check is right does not say that its counts and its size may be.
func HeadOf(pack string) (api.Head, bool) {
	if len(pack) < headSize {
		return api.Head{}, false
	}
	bare := pack[:bareSize]
	if bare[0] != mark || bare[1] != api.Version || pack[bareSize:headSize] != checkOf(bare) {
		return api.Head{}, false
	}
	size := int(bare[4])<<8 | int(bare[5])
	return api.Head{Data: int(bare[2]), Spare: int(bare[3]), Size: size}, true
}

// Size is how many bytes a pack with that head has.
func Size(head api.Head) int {
	return headSize + count(head)*frameSize(head)
}

// Pieces are a pack's pieces as they stand in their frames, right or bad. They
// are copies: a part of the pack would keep all of it in memory.
func Pieces(head api.Head, pack string) []string {
	pieces := make([]string, count(head))
	for number := range pieces {
		frame := frameAt(head, pack, number)
		pieces[number] = strings.Clone(frame[numberSize : len(frame)-checkSize])
	}
	return pieces
}

// Bad are the numbers of a pack's bad frames, rising. With one more than may be
// bad the pack is refused anyhow: the frames behind it are not looked at.
func Bad(head api.Head, pack string, most int) []int {
	var bad []int
	tooMany := make(chan struct{})
	for number := range count(head) {
		select {
		case <-tooMany:
			return bad
		default:
		}
		if isRight(pack[:bareSize], frameAt(head, pack, number), number) {
			continue
		}
		bad = append(bad, number)
		if len(bad) == most+1 {
			close(tooMany)
		}
	}
	return bad
}

func isRight(bare, frame string, number int) bool {
	end := len(frame) - checkSize
	return int(frame[0]) == number && frame[end:] == checkOf(bare+frame[:end])
}

func bareHead(head api.Head) string {
	return string([]byte{mark, api.Version, byte(head.Data), byte(head.Spare), byte(head.Size >> 8), byte(head.Size)})
}

func count(head api.Head) int {
	return head.Data + head.Spare
}

func frameSize(head api.Head) int {
	return numberSize + parts.Length(head.Data, head.Size) + checkSize
}

func frameAt(head api.Head, pack string, number int) string {
	start := headSize + number*frameSize(head)
	return pack[start : start+frameSize(head)]
}
