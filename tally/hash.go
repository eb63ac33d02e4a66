package tally

import "math/bits"

const (
	blockSize  = 64 // bytes
	lengthSize = 8  // bytes at the end of the last block
	roundCount = 64
)

// hashState is what H carries from block to block: an array, so that handing it on copies it.
type hashState [8]uint32

// roundConstants are those of FIPS 180-4: of the cube roots of the first 64 primes, the first 32 bits behind the point.
var roundConstants = [roundCount]uint32{
	0x428a2f98, 0x71374491, 0xb5c0fbcf, 0xe9b5dba5, 0x3956c25b, 0x59f111f1, 0x923f82a4, 0xab1c5ed5,
	0xd807aa98, 0x12835b01, 0x243185be, 0x550c7dc3, 0x72be5d74, 0x80deb1fe, 0x9bdc06a7, 0xc19bf174,
	0xe49b69c1, 0xefbe4786, 0x0fc19dc6, 0x240ca1cc, 0x2de92c6f, 0x4a7484aa, 0x5cb0a9dc, 0x76f988da,
	0x983e5152, 0xa831c66d, 0xb00327c8, 0xbf597fc7, 0xc6e00bf3, 0xd5a79147, 0x06ca6351, 0x14292967,
	0x27b70a85, 0x2e1b2138, 0x4d2c6dfc, 0x53380d13, 0x650a7354, 0x766a0abb, 0x81c2c92e, 0x92722c85,
	0xa2bfe8a1, 0xa81a664b, 0xc24b8b70, 0xc76c51a3, 0xd192e819, 0xd6990624, 0xf40e3585, 0x106aa070,
	0x19a4c116, 0x1e376c08, 0x2748774c, 0x34b0bcb5, 0x391c0cb3, 0x4ed8aa4a, 0x5b9cca4f, 0x682e6ff3,
	0x748f82ee, 0x78a5636f, 0x84c87814, 0x8cc70208, 0x90befffa, 0xa4506ceb, 0xbef9a3f7, 0xc67178f2,
}

// startState is what H starts from, by FIPS 180-4: of the square roots of the first 8 primes, the first 32 bits behind the point.
func startState() hashState {
	return hashState{0x6a09e667, 0xbb67ae85, 0x3c6ef372, 0xa54ff53a, 0x510e527f, 0x9b05688c, 0x1f83d9ab, 0x5be0cd19}
}

// init reckons the constants from the primes, as nobody can check 72 numbers by eye: with a wrong one among them every sum would be wrong, so the program does not even start.
func init() {
	start := startState()
	found := 0
	for n := uint64(2); found < roundCount; n++ {
		if !isPrime(n) {
			continue
		}
		if found < len(start) && start[found] != rootFraction(func(x uint64) bool { return squareIsBelow(x, n) }) {
			panic("tally: a word that H starts from is wrong")
		}
		if roundConstants[found] != rootFraction(func(x uint64) bool { return cubeIsBelow(x, n) }) {
			panic("tally: a constant of H's rounds is wrong")
		}
		found++
	}
}

func isPrime(n uint64) bool {
	for d := uint64(2); d*d <= n; d++ {
		if n%d == 0 {
			return false
		}
	}
	return n >= 2
}

// rootFraction finds the first 32 bits behind the point of a root below 8, in whole numbers, so that no rounding of floats can touch them. isBelow tells of x whether x / 2^32 is below the root.
func rootFraction(isBelow func(x uint64) bool) uint32 {
	root := uint64(0)
	for bit := uint64(1) << 34; bit > 0; bit >>= 1 {
		if isBelow(root | bit) {
			root |= bit
		}
	}
	return uint32(root)
}

// squareIsBelow tells whether x*x < n * 2^64: the lower word of the square can't matter, as that of the bound is 0.
func squareIsBelow(x, n uint64) bool {
	high, _ := bits.Mul64(x, x)
	return high < n
}

// cubeIsBelow tells whether x*x*x < n * 2^96, for x below 2^35: that keeps the cube within two words.
func cubeIsBelow(x, n uint64) bool {
	high, low := bits.Mul64(x, x)
	carry, _ := bits.Mul64(low, x)
	return high*x+carry < n<<32
}

// Hash is SHA-256 (P2).
func Hash(text string) Sum {
	state := startState()
	rest := text
	for ; len(rest) >= blockSize; rest = rest[blockSize:] {
		state = mixBlock(state, rest[:blockSize])
	}
	for end := padded(rest, len(text)); end != ""; end = end[blockSize:] {
		state = mixBlock(state, end[:blockSize])
	}
	return sumOfState(state)
}

// padded fills the last bytes of a text up to whole blocks: only they are copied, however long the text is.
func padded(rest string, length int) string {
	size := blockSize
	if len(rest)+1+lengthSize > blockSize {
		size = 2 * blockSize
	}
	end := make([]byte, size)
	copy(end, rest)
	end[len(rest)] = 0x80
	bitCount := uint64(length) * 8
	for i := range lengthSize {
		end[size-1-i] = byte(bitCount >> (8 * i))
	}
	return string(end)
}

// mixBlock keeps the letters of FIPS 180-4, to be held against it line by line.
func mixBlock(state hashState, block string) hashState {
	words := spreadBlock(block)
	a, b, c, d := state[0], state[1], state[2], state[3]
	e, f, g, h := state[4], state[5], state[6], state[7]
	for i := range roundCount {
		t1 := h + (turnRight(e, 6) ^ turnRight(e, 11) ^ turnRight(e, 25)) + (e&f ^ ^e&g) + roundConstants[i] + words[i]
		t2 := (turnRight(a, 2) ^ turnRight(a, 13) ^ turnRight(a, 22)) + (a&b ^ a&c ^ b&c)
		a, b, c, d, e, f, g, h = t1+t2, a, b, c, d+t1, e, f, g
	}
	return hashState{state[0] + a, state[1] + b, state[2] + c, state[3] + d, state[4] + e, state[5] + f, state[6] + g, state[7] + h}
}

// spreadBlock makes a word for each round out of the block's sixteen.
func spreadBlock(block string) [roundCount]uint32 {
	var words [roundCount]uint32
	for i := range 16 {
		words[i] = uint32(block[4*i])<<24 | uint32(block[4*i+1])<<16 | uint32(block[4*i+2])<<8 | uint32(block[4*i+3])
	}
	for i := 16; i < roundCount; i++ {
		far, near := words[i-15], words[i-2]
		small := turnRight(far, 7) ^ turnRight(far, 18) ^ far>>3
		great := turnRight(near, 17) ^ turnRight(near, 19) ^ near>>10
		words[i] = words[i-16] + small + words[i-7] + great
	}
	return words
}

func turnRight(word uint32, by int) uint32 {
	return bits.RotateLeft32(word, -by)
}

func sumOfState(state hashState) Sum {
	var sum Sum
	for i, word := range state {
		sum[4*i] = byte(word >> 24)
		sum[4*i+1] = byte(word >> 16)
		sum[4*i+2] = byte(word >> 8)
		sum[4*i+3] = byte(word)
	}
	return sum
}
