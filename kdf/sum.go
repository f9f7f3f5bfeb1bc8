package kdf

import (
	"math/bits"
)

const (
	sumSize   = 32
	blockSize = 64
	// lengthSize is that of the length, in bits, that ends the last block.
	lengthSize = 8
	wordSize   = 4
	rounds     = 64
)

// roundWords are the first 32 bits behind the point of the cube roots of the first 64 primes.
var roundWords = [rounds]uint32{
	0x428a2f98, 0x71374491, 0xb5c0fbcf, 0xe9b5dba5, 0x3956c25b, 0x59f111f1, 0x923f82a4, 0xab1c5ed5,
	0xd807aa98, 0x12835b01, 0x243185be, 0x550c7dc3, 0x72be5d74, 0x80deb1fe, 0x9bdc06a7, 0xc19bf174,
	0xe49b69c1, 0xefbe4786, 0x0fc19dc6, 0x240ca1cc, 0x2de92c6f, 0x4a7484aa, 0x5cb0a9dc, 0x76f988da,
	0x983e5152, 0xa831c66d, 0xb00327c8, 0xbf597fc7, 0xc6e00bf3, 0xd5a79147, 0x06ca6351, 0x14292967,
	0x27b70a85, 0x2e1b2138, 0x4d2c6dfc, 0x53380d13, 0x650a7354, 0x766a0abb, 0x81c2c92e, 0x92722c85,
	0xa2bfe8a1, 0xa81a664b, 0xc24b8b70, 0xc76c51a3, 0xd192e819, 0xd6990624, 0xf40e3585, 0x106aa070,
	0x19a4c116, 0x1e376c08, 0x2748774c, 0x34b0bcb5, 0x391c0cb3, 0x4ed8aa4a, 0x5b9cca4f, 0x682e6ff3,
	0x748f82ee, 0x78a5636f, 0x84c87814, 0x8cc70208, 0x90befffa, 0xa4506ceb, 0xbef9a3f7, 0xc67178f2,
}

// state is the eight words that each block changes, and that are the sum at the end.
type state [8]uint32

// start is the state ahead of the first block: the first 32 bits behind the point of the square roots of the first eight primes.
func start() state {
	return state{0x6a09e667, 0xbb67ae85, 0x3c6ef372, 0xa54ff53a, 0x510e527f, 0x9b05688c, 0x1f83d9ab, 0x5be0cd19}
}

// takeBlocks takes in b, which is whole blocks, one behind the other.
func (s *state) takeBlocks(b []byte) {
	for at := 0; at < len(b); at += blockSize {
		s.takeBlock(b[at : at+blockSize])
	}
}

// takeBlock mixes the block's words into the state, one a round.
func (s *state) takeBlock(block []byte) {
	words := spread(block)
	mixed := *s
	for round := range rounds {
		mixed.round(words[round] + roundWords[round])
	}
	// Without the state added on, the rounds could be run backwards to another block.
	for i := range s {
		s[i] += mixed[i]
	}
}

// round makes two new words and moves the others one place on; the last one falls out.
func (s *state) round(word uint32) {
	a, b, c, e, f, g := s[0], s[1], s[2], s[4], s[5], s[6]
	turnedE := bits.RotateLeft32(e, -6) ^ bits.RotateLeft32(e, -11) ^ bits.RotateLeft32(e, -25)
	turnedA := bits.RotateLeft32(a, -2) ^ bits.RotateLeft32(a, -13) ^ bits.RotateLeft32(a, -22)
	choice := e&f ^ ^e&g
	majority := a&b ^ a&c ^ b&c
	added := s[7] + turnedE + choice + word
	s[7], s[6], s[5], s[4] = g, f, e, s[3]+added
	s[3], s[2], s[1], s[0] = c, b, a, added+turnedA+majority
}

// spread makes of the sixteen words of a block as many as there are rounds.
func spread(block []byte) [rounds]uint32 {
	var words [rounds]uint32
	for i := range blockSize / wordSize {
		b := block[wordSize*i : wordSize*i+wordSize]
		words[i] = uint32(b[0])<<24 | uint32(b[1])<<16 | uint32(b[2])<<8 | uint32(b[3])
	}
	for i := blockSize / wordSize; i < rounds; i++ {
		near, far := words[i-2], words[i-15]
		near = bits.RotateLeft32(near, -17) ^ bits.RotateLeft32(near, -19) ^ near>>10
		far = bits.RotateLeft32(far, -7) ^ bits.RotateLeft32(far, -18) ^ far>>3
		words[i] = near + words[i-7] + far + words[i-16]
	}
	return words
}

// ending is the last whole blocks, one or two, of a text of size bytes: the rest that filled no block, the bit 1, noughts, and the length in bits.
func ending(rest []byte, size int) []byte {
	blocks := make([]byte, 0, 2*blockSize)
	blocks = append(blocks, rest...)
	blocks = append(blocks, 0x80)
	for len(blocks)%blockSize != blockSize-lengthSize {
		blocks = append(blocks, 0)
	}
	length := uint64(size) * 8
	for shift := 8 * (lengthSize - 1); shift >= 0; shift -= 8 {
		blocks = append(blocks, byte(length>>shift))
	}
	return blocks
}

// bytes are the state's, the highest of each word first.
func (s *state) bytes() []byte {
	b := make([]byte, 0, sumSize)
	for _, word := range s {
		b = append(b, byte(word>>24), byte(word>>16), byte(word>>8), byte(word))
	}
	return b
}
