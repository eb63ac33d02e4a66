import Derived.Test.YtpmolmoggdjjnaaDoorRows
import Derived.Test.YtpmolmoggdjjnaaDoorSha
import Derived.WalkKit
import Derived.WalkSpells
import Derived.WalkLawsBesides
import Derived.Deep.QuietTactic
import Derived.BigQuiet
namespace Go.Proofs.YtpmolmoggdjjnaaDoor
open Go.RowKit
open Go.Sha

theorem ret_int {k : IntKind} {a b : Int} (h : a = b) : Ending.returned (.int k a) = .returned (.int k b) := by rw [h]

theorem low31 (n : Nat) (h0 : 0 < n) (h1 : n < 32) : bits .and .u64 (IntKind.u64.wrap (-(n : Int))) 31 = ((32 - n : Nat) : Int) := by
  have e : IntKind.u64.wrap (-(n : Int)) = ((18446744073709551616 - n : Nat) : Int) := by rw [IntKind.wrap_u64]; omega
  rw [e, show (31 : Int) = ((31 : Nat) : Int) from rfl, u64_and_nat _ _ (by omega) (by decide), nat_mask5]
  congr 1; omega

set_option maxHeartbeats 400000 in
theorem rot_any (x : Wd) (n : Nat) (w : World) (h0 : 0 < n) (h1 : n < 32) :
    Calls Tryd.prog 17 #[.int .u32 (V x), .int .i64 (-(n : Int))] w fun e w' => e = .returned (.int .u32 (V (rotr x n))) ∧ w' = w := by
  have hl := low31 n h0 h1
  go_enter Tryd.func17, Tryd.ntmps17
  go_wp2
  go_ret
  refine ⟨ret_int ?_, rfl⟩
  rw [show 32 - (32 - n) = n by omega, ← IntKind.wrap_u32', rotl_u32]

set_option maxHeartbeats 400000 in
theorem turn_any (x : Wd) (n : Nat) (w : World) (h0 : 0 < n) (h1 : n < 32) :
    Calls Tryd.prog 16 #[.int .i64 (V x), .int .i64 n] w fun e w' => e = .returned (.int .i64 (V (rotr x n))) ∧ ∃ m, w' = w.drewN m := by
  go_enter Tryd.func16, Tryd.ntmps16
  go_wp2
  go_quiet (fail)
  go_wp2
  go_ret
  refine ⟨ret_int ?_, _, rfl⟩
  exact rotr_i64 x n h0 h1
set_option maxHeartbeats 400000 in
theorem turnRight_any (x : Wd) (n : Nat) (w : World) (h0 : 0 < n) (h1 : n < 32) :
    Calls Tryd.prog 14 #[.int .u32 (V x), .int .i64 n] w fun e w' => e = .returned (.int .u32 (V (rotr x n))) ∧ w' = w := by
  go_enter Tryd.func14, Tryd.ntmps14
  go_wp2_with (go_at_call 17; go_must (refine (rot_any x n _ h0 h1).mono ?_; rintro e w' ⟨rfl, rfl⟩))
  go_ret
  exact ⟨rfl, rfl⟩

theorem asBytes (s : ByteArray) (i : Nat) (h : i < s.size) : (s[i]'h) = s.data.toList.getD i 0 := by
  have h' : i < s.data.toList.length := by simpa using h
  rw [List.getD_eq_getElem?_getD, List.getElem?_eq_getElem h']; rfl

/-- What 'number' has reckoned behind the first k bytes. -/
def numTo (l : List UInt8) : Nat → Nat
  | 0 => 0
  | k + 1 => numTo l k * 256 + (l.getD k 0).toNat

theorem numTo_lt (l : List UInt8) (k : Nat) : numTo l k < 256 ^ k := by
  induction k with
  | zero => simp [numTo]
  | succ k ih =>
    have := (l.getD k 0).toNat_lt
    rw [numTo, Nat.pow_succ]; omega

theorem num_step (m : Nat) (b : UInt8) (hm : m < 16777216) : bits .or .i64 (wrap64 ((m : Int) * 256)) (wrap64 (b.toNat : Int)) = ((m * 256 + b.toNat : Nat) : Int) := by
  have hb := b.toNat_lt
  have e0 : wrap64 ((m : Int) * 256) = ((m * 256 : Nat) : Int) := by unfold wrap64; omega
  have e1 : wrap64 (b.toNat : Int) = (b.toNat : Int) := by unfold wrap64; omega
  rw [e0, e1]
  show IntKind.i64.wrap ((BitVec.ofInt 64 ((m * 256 : Nat) : Int) ||| BitVec.ofInt 64 (b.toNat : Int)).toNat : Int) = _
  rw [BitVec.toNat_or, i64_bv _ (by omega), i64_bv _ (by omega), BitVec.toNat_ofNat, BitVec.toNat_ofNat, Nat.mod_eq_of_lt (by omega), Nat.mod_eq_of_lt (by omega),
    nat_join 8 _ _ (by omega) (by omega), i64_of _ (by omega)]

set_option maxHeartbeats 400000 in
theorem number_any (s : ByteArray) (w : World) (hs : s.size = 4) :
    Calls Tryd.prog 15 #[.string s] w fun e w' => e = .returned (.int .i64 (V (wordAt s.data.toList 0))) ∧ w' = w := by
  go_enter Tryd.func15, Tryd.ntmps15
  go_wp2
  go_loop [3, 4] (fun n i => ∃ k : Nat, k ≤ 4 ∧ i = .int .i64 k ∧ n = .int .i64 (numTo s.data.toList k : Nat)) (fun _ i => 4 - (intOf i).toNat)
  case atStart => exact ⟨0, by omega, rfl, rfl⟩
  case round =>
    obtain ⟨k, hk, rfl, rfl⟩ := hrel
    go_wp2
    · go_round
      case rel =>
        have hlt : (k : Int) < 4 := by assumption
        have hk4 : k < s.size := by omega
        refine ⟨k + 1, by omega, by go_num, ?_⟩
        have hm : numTo s.data.toList k < 16777216 := by
          have := numTo_lt s.data.toList k
          have : (256 : Nat) ^ k ≤ 256 ^ 3 := Nat.pow_le_pow_right (by decide) (by omega)
          omega
        rw [num_step _ _ hm, asBytes s k hk4]; rfl
      case measure => simp [intOf]; omega
    · have hge : (4 : Int) ≤ k := by assumption
      have e : k = 4 := by omega
      subst e
      go_ret
      refine ⟨ret_int ?_, rfl⟩
      unfold V wordAt
      rw [BitVec.toNat_ofNat, Nat.mod_eq_of_lt]
      · simp [numTo]
      · have := numTo_lt s.data.toList 4; simp [numTo] at this ⊢; omega

end Go.Proofs.YtpmolmoggdjjnaaDoor
