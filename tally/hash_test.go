package tally

import (
	"crypto/sha256"
	"encoding/hex"
	"math/big"
	"strings"
	"testing"
)

// mixedText has every byte, and no period that a block has.
func mixedText(length int) string {
	text := make([]byte, length)
	for i := range text {
		text[i] = byte(i*7 + i/251)
	}
	return string(text)
}

func TestHashOfKnownTexts(t *testing.T) {
	for _, x := range []struct{ text, want string }{
		{"", "e3b0c44298fc1c149afbf4c8996fb92427ae41e4649b934ca495991b7852b855"},
		{"abc", "ba7816bf8f01cfea414140de5dae2223b00361a396177a9cb410ff61f20015ad"},
		{"abcdbcdecdefdefgefghfghighijhijkijkljklmklmnlmnomnopnopq", "248d6a61d20638b8e5c026930c3e6039a33ce45964ff2167f6ecedd419db06c1"},
		{"abcdefghbcdefghicdefghijdefghijkefghijklfghijklmghijklmnhijklmnoijklmnopjklmnopqklmnopqrlmnopqrsmnopqrstnopqrstu", "cf5b16a778af8380036ce59e7b0492370b249b11e8f07a51afac45037afee9d1"},
		{strings.Repeat("a", 1000000), "cdc76e5c9914fb9281a1c7e284d73e67f1809a48a497200e046d39ccc7112cd0"},
	} {
		if sum := Hash(x.text); hex.EncodeToString(sum[:]) != x.want {
			t.Errorf("P2: Hash(%.20q..) = %x, want %s", x.text, sum, x.want)
		}
	}
}

func TestHashAroundTheEndsOfBlocks(t *testing.T) {
	for length := range 4*blockSize + 2 {
		for _, text := range []string{mixedText(length), strings.Repeat("\x00", length), strings.Repeat("\xff", length), strings.Repeat("\x80", length)} {
			if got, want := Hash(text), Sum(sha256.Sum256([]byte(text))); got != want {
				t.Errorf("P2: Hash of %d bytes = %x, want %x", length, got, want)
			}
		}
	}
}

// The text's length in bits, told in the last block, needs one, two, three, and four bytes.
func TestHashOfLongTexts(t *testing.T) {
	for _, length := range []int{31, 32, 8191, 8192, 8193, 1<<21 - 1, 1 << 21, 1<<21 + 55} {
		text := mixedText(length)
		if got, want := Hash(text), Sum(sha256.Sum256([]byte(text))); got != want {
			t.Errorf("P2: Hash of %d bytes = %x, want %x", length, got, want)
		}
	}
}

// fraction is the first 32 bits behind the point of the root of n of a degree: a search in numbers of any length, unlike the program's.
func fraction(n, degree int) uint32 {
	scaled := new(big.Int).Lsh(big.NewInt(int64(n)), uint(32*degree))
	root := new(big.Int)
	for bit := 64; bit >= 0; bit-- {
		root.SetBit(root, bit, 1)
		if new(big.Int).Exp(root, big.NewInt(int64(degree)), nil).Cmp(scaled) > 0 {
			root.SetBit(root, bit, 0)
		}
	}
	return uint32(root.Uint64())
}

func firstPrimes(count int) []int {
	var primes []int
	for n := 2; len(primes) < count; n++ {
		if big.NewInt(int64(n)).ProbablyPrime(20) {
			primes = append(primes, n)
		}
	}
	return primes
}

func TestConstantsOfHashComeFromTheFirstPrimes(t *testing.T) {
	start := startState()
	for i, prime := range firstPrimes(len(start)) {
		if want := fraction(prime, 2); start[i] != want {
			t.Errorf("P2: word %d that H starts from is %x, want %x, of the prime %d", i, start[i], want, prime)
		}
	}
	for i, prime := range firstPrimes(len(roundConstants)) {
		if want := fraction(prime, 3); roundConstants[i] != want {
			t.Errorf("P2: H's constant of round %d is %x, want %x, of the prime %d", i, roundConstants[i], want, prime)
		}
	}
}

// The numbers as FIPS 180-4 prints them, against an error that both ways of reckoning have.
func TestConstantsOfHashAreThePrintedOnes(t *testing.T) {
	wantStart := hashState{0x6a09e667, 0xbb67ae85, 0x3c6ef372, 0xa54ff53a, 0x510e527f, 0x9b05688c, 0x1f83d9ab, 0x5be0cd19}
	if startState() != wantStart {
		t.Errorf("P2: H starts from %x, want %x", startState(), wantStart)
	}
	for i, want := range map[int]uint32{0: 0x428a2f98, 1: 0x71374491, 31: 0x14292967, 32: 0x27b70a85, 62: 0xbef9a3f7, 63: 0xc67178f2} {
		if roundConstants[i] != want {
			t.Errorf("P2: H's constant %d is %x, want %x", i, roundConstants[i], want)
		}
	}
}

// What init holds the constants against must itself tell the right number, or it would refuse right constants or pass wrong ones.
func TestReckoningOfConstants(t *testing.T) {
	for _, prime := range firstPrimes(64) {
		n := uint64(prime)
		if !isPrime(n) {
			t.Errorf("P2: %d is no prime to init", prime)
		}
		if prime < 64 { // a square root below 8
			if got, want := rootFraction(func(x uint64) bool { return squareIsBelow(x, n) }), fraction(prime, 2); got != want {
				t.Errorf("P2: the square root of %d goes on with %x, want %x", prime, got, want)
			}
		}
		if got, want := rootFraction(func(x uint64) bool { return cubeIsBelow(x, n) }), fraction(prime, 3); got != want {
			t.Errorf("P2: the cube root of %d goes on with %x, want %x", prime, got, want)
		}
	}
}
