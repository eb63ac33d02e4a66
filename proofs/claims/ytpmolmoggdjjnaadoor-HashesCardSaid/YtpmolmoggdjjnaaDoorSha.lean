import Derived.WalkKit
import Derived.Laws.BitsAllLaws
namespace Go.Sha
open Go.RowKit

abbrev Wd := BitVec 32

/-- A word as the number that a cell holds. -/
def V (x : Wd) : Int := (x.toNat : Int)

theorem V_nonneg (x : Wd) : 0 ≤ V x := by unfold V; omega
theorem V_lt (x : Wd) : V x < 4294967296 := by unfold V; have := x.isLt; omega
theorem V_inj {x y : Wd} (h : V x = V y) : x = y := by
  unfold V at h; apply BitVec.eq_of_toNat_eq; omega

theorem u32_wrap_V (n : Int) : IntKind.u32.wrap n = V (BitVec.ofInt 32 n) := by
  rw [IntKind.wrap_u32']; unfold V; rw [BitVec.toNat_ofInt]; simp; omega

theorem ofInt_V (x : Wd) : BitVec.ofInt 32 (V x) = x := by
  unfold V; apply BitVec.eq_of_toNat_eq; rw [BitVec.toNat_ofInt]; simp; have := x.isLt; omega

theorem ofInt_add (a b : Int) : BitVec.ofInt 32 (a + b) = BitVec.ofInt 32 a + BitVec.ofInt 32 b := BitVec.ofInt_add a b

theorem wrap64_eq (n : Int) : wrap64 n = IntKind.i64.wrap n := by
  unfold wrap64; simp [IntKind.wrap, IntKind.bits, IntKind.signed]; omega

theorem ofInt_wrap64 (n : Int) : BitVec.ofInt 32 (wrap64 n) = BitVec.ofInt 32 n := by
  apply BitVec.eq_of_toNat_eq; rw [BitVec.toNat_ofInt, BitVec.toNat_ofInt]
  unfold wrap64; congr 1; simp; omega

theorem add_u32 (a b : Wd) : IntKind.u32.wrap (V a + V b) = V (a + b) := by
  rw [u32_wrap_V, ofInt_add, ofInt_V, ofInt_V]

theorem xor_u32 (a b : Wd) : bits .xor .u32 (V a) (V b) = V (a ^^^ b) := by
  unfold V; rw [u32_xor_nat _ _ a.isLt b.isLt, BitVec.toNat_xor]
theorem and_u32 (a b : Wd) : bits .and .u32 (V a) (V b) = V (a &&& b) := by
  unfold V; rw [u32_and_nat _ _ a.isLt b.isLt, BitVec.toNat_and]
theorem or_u32 (a b : Wd) : bits .or .u32 (V a) (V b) = V (a ||| b) := by
  unfold V; rw [u32_or_nat _ _ a.isLt b.isLt, BitVec.toNat_or]

theorem i64_bv (a : Nat) (_h : a < 4294967296) : BitVec.ofInt 64 (a : Int) = BitVec.ofNat 64 a := by
  apply BitVec.eq_of_toNat_eq; rw [BitVec.toNat_ofInt]; simp; omega

theorem i64_of (n : Nat) (h : n < 4294967296) : IntKind.i64.wrap (n : Int) = (n : Int) := by
  simp [IntKind.wrap, IntKind.bits, IntKind.signed]; omega

theorem xor_i64 (a b : Wd) : bits .xor .i64 (V a) (V b) = V (a ^^^ b) := by
  have e : (BitVec.ofInt 64 (V a) ^^^ BitVec.ofInt 64 (V b)).toNat = (a ^^^ b).toNat := by
    unfold V; rw [i64_bv _ a.isLt, i64_bv _ b.isLt]; simp [BitVec.toNat_xor]
    have ha : a.toNat % 18446744073709551616 = a.toNat := Nat.mod_eq_of_lt (by have := a.isLt; omega)
    have hb : b.toNat % 18446744073709551616 = b.toNat := Nat.mod_eq_of_lt (by have := b.isLt; omega)
    rw [ha, hb]
  show IntKind.i64.wrap ((BitVec.ofInt 64 (V a) ^^^ BitVec.ofInt 64 (V b)).toNat : Int) = _
  rw [e, i64_of _ (a ^^^ b).isLt]; rfl
theorem and_i64 (a b : Wd) : bits .and .i64 (V a) (V b) = V (a &&& b) := by
  have e : (BitVec.ofInt 64 (V a) &&& BitVec.ofInt 64 (V b)).toNat = (a &&& b).toNat := by
    unfold V; rw [i64_bv _ a.isLt, i64_bv _ b.isLt]; simp [BitVec.toNat_and]
    have ha : a.toNat % 18446744073709551616 = a.toNat := Nat.mod_eq_of_lt (by have := a.isLt; omega)
    have hb : b.toNat % 18446744073709551616 = b.toNat := Nat.mod_eq_of_lt (by have := b.isLt; omega)
    rw [ha, hb]
  show IntKind.i64.wrap ((BitVec.ofInt 64 (V a) &&& BitVec.ofInt 64 (V b)).toNat : Int) = _
  rw [e, i64_of _ (a &&& b).isLt]; rfl

/-- 'n & word', whatever n. -/
theorem mask_i64 (n : Int) : bits .and .i64 n 4294967295 = V (BitVec.ofInt 32 n) := by
  have e : (BitVec.ofInt 64 n &&& BitVec.ofInt 64 4294967295).toNat = (BitVec.ofInt 32 n).toNat := by
    have h1 : (BitVec.ofInt 64 4294967295).toNat = 2 ^ 32 - 1 := by decide
    rw [BitVec.toNat_and, h1, Nat.and_two_pow_sub_one_eq_mod, BitVec.toNat_ofInt, BitVec.toNat_ofInt]
    simp; omega
  show IntKind.i64.wrap ((BitVec.ofInt 64 n &&& BitVec.ofInt 64 4294967295).toNat : Int) = _
  rw [e, i64_of _ (BitVec.ofInt 32 n).isLt]; rfl

theorem not_u32 (a : Wd) : (4294967295 : Int) - V a = V (~~~ a) := by
  unfold V; rw [BitVec.toNat_not]; have := a.isLt; omega

theorem div_V (a : Wd) (k : Nat) : V a / 2 ^ k = V (a >>> k) := by
  unfold V; rw [BitVec.toNat_ushiftRight, Nat.shiftRight_eq_div_pow]; simp

/-- turned to the right. -/
def rotr (x : Wd) (n : Nat) : Wd := x >>> n ||| x <<< (32 - n)

theorem rotr_i64 (x : Wd) (n : Nat) (_h0 : 0 < n) (h1 : n < 32) :
    bits .and .i64 (bits .or .i64 (V x / 2 ^ n) (wrap64 (V x * 2 ^ (32 - n)))) 4294967295 = V (rotr x n) := by
  rw [mask_i64]
  congr 1
  have hx := x.isLt
  have hp : (2:Nat) ^ (32 - n) ≤ 2 ^ 32 := Nat.pow_le_pow_right (by decide) (by omega)
  have hm : x.toNat * 2 ^ (32 - n) < 18446744073709551616 := by
    exact Nat.lt_of_le_of_lt (Nat.mul_le_mul_left _ hp) (by omega)
  have hb : bits .or .i64 (V x / 2 ^ n) (wrap64 (V x * 2 ^ (32 - n))) = IntKind.i64.wrap ((((x >>> n).toNat ||| x.toNat * 2 ^ (32 - n)) : Nat) : Int) := by
    rw [div_V]
    show IntKind.i64.wrap ((BitVec.ofInt 64 (V (x >>> n)) ||| BitVec.ofInt 64 (wrap64 (V x * 2 ^ (32 - n)))).toNat : Int) = _
    congr 2
    rw [BitVec.toNat_or]
    congr 1
    · unfold V; rw [i64_bv _ (x >>> n).isLt, BitVec.toNat_ofNat, Nat.mod_eq_of_lt]; have := (x >>> n).isLt; omega
    · have e2 : V x * 2 ^ (32 - n) = ((x.toNat * 2 ^ (32 - n) : Nat) : Int) := by unfold V; simp
      rw [e2, BitVec.toNat_ofInt]
      unfold wrap64
      simp only [Nat.reducePow]
      omega
  rw [hb, ← wrap64_eq, ofInt_wrap64]
  apply BitVec.eq_of_toNat_eq
  rw [BitVec.toNat_ofInt]
  unfold rotr
  rw [BitVec.toNat_or, BitVec.toNat_shiftLeft, Nat.shiftLeft_eq]
  have e3 : (((((x >>> n).toNat ||| x.toNat * 2 ^ (32 - n)) : Nat) : Int) % ((2 ^ 32 : Nat) : Int)).toNat = ((x >>> n).toNat ||| x.toNat * 2 ^ (32 - n)) % 2 ^ 32 := by
    rw [← Int.natCast_emod, Int.toNat_natCast]
  rw [e3, Nat.or_mod_two_pow, Nat.mod_eq_of_lt (x >>> n).isLt]

theorem rotl_u32 (x : Wd) (n : Nat) :
    bits .or .u32 (IntKind.u32.wrap (V x * 2 ^ (32 - n))) (V x / 2 ^ n) = V (rotr x n) := by
  have e : IntKind.u32.wrap (V x * 2 ^ (32 - n)) = V (x <<< (32 - n)) := by
    rw [u32_wrap_V]
    congr 1
    have e2 : V x * 2 ^ (32 - n) = ((x.toNat * 2 ^ (32 - n) : Nat) : Int) := by unfold V; simp
    apply BitVec.eq_of_toNat_eq
    rw [BitVec.toNat_ofInt, e2, BitVec.toNat_shiftLeft, Nat.shiftLeft_eq, ← Int.natCast_emod, Int.toNat_natCast]
  rw [e, div_V, or_u32, rotr, BitVec.or_comm]

def sg0 (x : Wd) : Wd := rotr x 7 ^^^ rotr x 18 ^^^ x >>> 3
def sg1 (x : Wd) : Wd := rotr x 17 ^^^ rotr x 19 ^^^ x >>> 10
def bg0 (x : Wd) : Wd := rotr x 2 ^^^ rotr x 13 ^^^ rotr x 22
def bg1 (x : Wd) : Wd := rotr x 6 ^^^ rotr x 11 ^^^ rotr x 25

/-- The words of a block: the sixteen of it, then each out of four before it. -/
def spread (b : Nat → Wd) (i : Nat) : Wd :=
  if _h : i < 16 then b i else spread b (i - 16) + sg0 (spread b (i - 15)) + spread b (i - 7) + sg1 (spread b (i - 2))
  termination_by i

theorem spread_lo (b : Nat → Wd) (i : Nat) (h : i < 16) : spread b i = b i := by rw [spread, dif_pos h]
theorem spread_hi (b : Nat → Wd) (i : Nat) (h : 16 ≤ i) : spread b i = spread b (i - 16) + sg0 (spread b (i - 15)) + spread b (i - 7) + sg1 (spread b (i - 2)) := by
  rw [spread, dif_neg (by omega)]

/-- The state: eight words. -/
structure St where
  (a b c d e f g h : Wd)

def St.get (s : St) : Nat → Wd
  | 0 => s.a | 1 => s.b | 2 => s.c | 3 => s.d | 4 => s.e | 5 => s.f | 6 => s.g | _ => s.h

def t1 (s : St) (k w : Wd) : Wd := s.h + bg1 s.e + (s.e &&& s.f ^^^ ~~~ s.e &&& s.g) + k + w
def t2 (s : St) : Wd := bg0 s.a + (s.a &&& s.b ^^^ s.a &&& s.c ^^^ s.b &&& s.c)

def round (s : St) (k w : Wd) : St := ⟨t1 s k w + t2 s, s.a, s.b, s.c, s.d + t1 s k w, s.e, s.f, s.g⟩

def rounds (K w : Nat → Wd) (s : St) : Nat → St
  | 0 => s
  | n + 1 => round (rounds K w s n) (K n) (w n)

def St.add (s t : St) : St := ⟨s.a + t.a, s.b + t.b, s.c + t.c, s.d + t.d, s.e + t.e, s.f + t.f, s.g + t.g, s.h + t.h⟩

/-- A block is worked into the state. -/
def mix (K : Nat → Wd) (s : St) (b : Nat → Wd) : St := s.add (rounds K (spread b) s 64)

def kList : List Nat := [1116352408, 1899447441, 3049323471, 3921009573, 961987163, 1508970993, 2453635748, 2870763221, 3624381080, 310598401, 607225278, 1426881987, 1925078388, 2162078206, 2614888103, 3248222580, 3835390401, 4022224774, 264347078, 604807628, 770255983, 1249150122, 1555081692, 1996064986, 2554220882, 2821834349, 2952996808, 3210313671, 3336571891, 3584528711, 113926993, 338241895, 666307205, 773529912, 1294757372, 1396182291, 1695183700, 1986661051, 2177026350, 2456956037, 2730485921, 2820302411, 3259730800, 3345764771, 3516065817, 3600352804, 4094571909, 275423344, 430227734, 506948616, 659060556, 883997877, 958139571, 1322822218, 1537002063, 1747873779, 1955562222, 2024104815, 2227730452, 2361852424, 2428436474, 2756734187, 3204031479, 3329325298]
def kOf (i : Nat) : Wd := BitVec.ofNat 32 (kList.getD i 0)
def start : St := ⟨0x6a09e667#32, 0xbb67ae85#32, 0x3c6ef372#32, 0xa54ff53a#32, 0x510e527f#32, 0x9b05688c#32, 0x1f83d9ab#32, 0x5be0cd19#32⟩

/-- Four bytes, the highest first, from place p on. -/
def wordAt (l : List UInt8) (p : Nat) : Wd :=
  BitVec.ofNat 32 (((((l.getD p 0).toNat * 256 + (l.getD (p + 1) 0).toNat) * 256) + (l.getD (p + 2) 0).toNat) * 256 + (l.getD (p + 3) 0).toNat)

/-- The state behind the first n blocks of a list. -/
def runs (l : List UInt8) : Nat → St
  | 0 => start
  | n + 1 => mix kOf (runs l n) fun i => wordAt l (64 * n + 4 * i)

/-- A word as four bytes. -/
def byteOf (x : Wd) (i : Nat) : UInt8 := UInt8.ofNat (x.toNat / 256 ^ (3 - i))
def wordBytes (x : Wd) : List UInt8 := [byteOf x 0, byteOf x 1, byteOf x 2, byteOf x 3]
def sumBytes (s : St) : List UInt8 := wordBytes s.a ++ wordBytes s.b ++ wordBytes s.c ++ wordBytes s.d ++ wordBytes s.e ++ wordBytes s.f ++ wordBytes s.g ++ wordBytes s.h

/-- A number as so many bytes, the highest first. -/
def be (n : Nat) (many : Nat) : List UInt8 := (List.range many).map fun i => UInt8.ofNat (n / 256 ^ (many - 1 - i))

/-- How many zeros stand between the one bit and the length. -/
def gap (n : Nat) : Nat := (119 - n % 64) % 64
def padded (l : List UInt8) : List UInt8 := l ++ [128] ++ List.replicate (gap l.length) 0 ++ be (8 * l.length) 8
def sha (l : List UInt8) : List UInt8 := sumBytes (runs (padded l) ((padded l).length / 64))

theorem be_length (n many : Nat) : (be n many).length = many := by simp [be]
theorem padded_length (l : List UInt8) : (padded l).length = l.length + 9 + gap l.length := by simp [padded, be_length]; omega
theorem padded_mod (l : List UInt8) : (padded l).length % 64 = 0 := by rw [padded_length]; unfold gap; omega
theorem wordBytes_length (x : Wd) : (wordBytes x).length = 4 := rfl
theorem sumBytes_length (s : St) : (sumBytes s).length = 32 := rfl

end Go.Sha
