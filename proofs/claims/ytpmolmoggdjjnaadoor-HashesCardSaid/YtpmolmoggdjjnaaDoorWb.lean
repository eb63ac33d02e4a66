import Derived.Test.YtpmolmoggdjjnaaDoorWa
import Derived.Test.YtpmolmoggdjjnaaDoorRw
import Derived.Laws.IdiomStrings
namespace Go.Proofs.YtpmolmoggdjjnaaDoor
open Go.RowKit
open Go.Sha

theorem Tryd.infoB : (Tryd.prog.info? 5).map (fun i => (i.zero, i.size, i.bytes)) = some (some (.int .u8 0), 1, 1) := by kernel_rfl
theorem Tryd.infoI : (Tryd.prog.info? 3).map (fun i => (i.zero, i.size, i.bytes)) = some (some (.int .i64 0), 1, 8) := by kernel_rfl

/-- A made row of one-cell elements. -/
theorem made_row {w w' : World} {base e n : Nat} {z : Value} (h : w'.ownsRow base e 1 (.slice (some ⟨w.heap.size, 0, none⟩) n n) n (madeCells z.cells (n * 1)).toList) (hz : z.cells = #[z]) :
    RowIs w' w.heap.size e (Array.replicate n z) := by
  obtain ⟨_, h2⟩ := h
  rcases h2 with ⟨h2, _⟩ | ⟨g, cap, cur, hv, _, hg, _, _, hs, ht⟩
  · cases h2
  · cases hv
    rw [hz, Nat.mul_one, toList_madeCells_one] at ht
    have : cur = Array.replicate n z := by
      apply Array.toList_inj.1
      rw [Array.toList_replicate, ← ht, List.take_of_length_le (by simp [hs])]
    rw [← this]; exact hg

/-- What 'bytes' has laid behind k rounds. -/
def beTo (n many k j : Nat) : UInt8 := if many - k ≤ j then UInt8.ofNat (n / 256 ^ (many - 1 - j)) else 0

theorem low_byte (m : Nat) : bits .and .i64 (m : Int) 255 % 256 = ((UInt8.ofNat m).toNat : Int) := by
  have e : (BitVec.ofInt 64 (m : Int) &&& BitVec.ofInt 64 255).toNat = m % 256 := by
    have h1 : (BitVec.ofInt 64 255).toNat = 2 ^ 8 - 1 := by decide
    rw [BitVec.toNat_and, h1, Nat.and_two_pow_sub_one_eq_mod, BitVec.toNat_ofInt]
    simp; omega
  show IntKind.i64.wrap ((BitVec.ofInt 64 (m : Int) &&& BitVec.ofInt 64 255).toNat : Int) % 256 = _
  rw [e, i64_of _ (by omega)]; simp

theorem be_step (n many k : Nat) (_h : k < many) : UInt8.ofNat (n / 256 ^ k) = beTo n many (k + 1) (many - 1 - k) := by
  unfold beTo; rw [if_pos (by omega), show many - 1 - (many - 1 - k) = k by omega]

theorem beTo_step (n many k j : Nat) (h : k < many) : (if j = many - 1 - k then beTo n many (k + 1) (many - 1 - k) else beTo n many k j) = beTo n many (k + 1) j := by
  by_cases e : j = many - 1 - k
  · rw [if_pos e, e]
  · rw [if_neg e]; unfold beTo
    by_cases h1 : many - k ≤ j
    · rw [if_pos h1, if_pos (by omega)]
    · rw [if_neg h1, if_neg (by omega)]

theorem conv_row {P : Program} {w : World} {g : Nat} {t e : TypeId} {f : Nat → UInt8} {n : Nat} (h : RowIs w g t (bts f n)) (src dst : TypeId) (cap : Nat)
    (hs : P.underlying src = some (.slice e)) (he : P.underlying e = some (.int .u8)) (hd : P.underlying dst = some .string) :
    (convert src dst (.slice (some ⟨g, 0, none⟩) n cap)).run P w = .ok (.string ⟨((List.range n).map f).toArray⟩) w := by
  have := run_convert_bytes_back (P := P) w src dst e ⟨g, 0, none⟩ cap ((List.range n).map f) hs he hd (fun j hj => by
    have hj' : j < n := by simpa using hj
    rw [Addr.add_mid, Nat.zero_add, h.cell, bts_get f n j hj']; simp)
  simpa using this

set_option maxHeartbeats 400000 in
theorem bytes_any (n many : Nat) (w : World) (hm : many ≤ 8) :
    Calls Tryd.prog 11 #[.int .i64 n, .int .i64 many] w fun e w' => e = .returned (.string ⟨(be n many).toArray⟩) ∧ Below w.heap.size w w' := by
  obtain ⟨i0, hi, hz0, hz1, hz2⟩ := info_parts Tryd.infoB
  go_enter Tryd.func11, Tryd.ntmps11
  go_wp2_with (at_make; go_must (refine wpList_make_full _ rfl _ _ 35 rfl w.heap.size 5 i0 (.int .u8 0) 1 Tryd.underlying35 hi hz0 hz1 .i64 .i64 _ _ many rfl rfl rfl rfl (by rw [hz2]; omega) (by unfold maxLen; omega) (Nat.le_refl _) ?_; intro w1 hown hgrow))
  have hrow := made_row hown rfl
  rw [bts_zero] at hrow
  have hb1 := (Below.refl w.heap.size w).grown hgrow (Nat.le_refl _) (by intro k hk; cases hk)
  clear hown hgrow hi hz0 hz1 hz2
  go_loopw [0, 6] (fun nn i wr => ∃ k : Nat, k ≤ many ∧ nn = .int .i64 (n / 256 ^ k : Nat) ∧ i = .int .i64 ((many : Int) - 1 - k) ∧ RowIs wr w.heap.size 5 (bts (beTo n many k) many) ∧ Below w.heap.size w wr) (fun _ i _ => (intOf i + 1).toNat)
  case atStart => exact ⟨0, by omega, by simp, by simp, hrow.eq (bts_congr (fun j hj => by simp [beTo]; omega)), hb1⟩
  case round =>
    clear hrow hb1
    obtain ⟨k, hk, rfl, rfl, hrow, hb⟩ := hrel
    have hc : k < many → wr.cell? ⟨w.heap.size, many - 1 - k, none⟩ = some (.int .u8 ((beTo n many k (many - 1 - k)).toNat : Int)) := fun h => by rw [hrow.cell, bts_get _ _ _ (by omega)]
    have hf : wr.frozen? ⟨w.heap.size, many - 1 - k, none⟩ = false := hrow.frozen _
    by_cases hlt : k < many
    · have hcc := hc hlt
      clear hc
      go_wp2
      go_roundw
      case rel =>
        have e1 : (n : Int) / 256 ^ k = ((n / 256 ^ k : Nat) : Int) := by simp
        refine ⟨k + 1, by omega, ?_, by go_num, ?_, hb.setCell (Nat.le_refl _) _⟩
        · rw [Nat.pow_succ, ← Nat.div_div_eq_div_mul]; simp
        · rw [e1, low_byte, be_step n many k hlt]
          refine (hrow.set _ _).eq ?_
          rw [bts_set]
          exact bts_congr (fun j hj => beTo_step n many k j hlt)
      case measure => simp [intOf]; omega
    · have e : k = many := by omega
      subst e
      have hcv := conv_row (P := Tryd.prog) hrow 35 9 k Tryd.underlying35 Tryd.underlying5 Tryd.underlying9
      rw [show (List.range k).map (beTo n k k) = be n k from List.map_congr_left (fun j _ => by simp [beTo])] at hcv
      go_wp2
      go_ret
      exact ⟨rfl, hb⟩

end Go.Proofs.YtpmolmoggdjjnaaDoor
