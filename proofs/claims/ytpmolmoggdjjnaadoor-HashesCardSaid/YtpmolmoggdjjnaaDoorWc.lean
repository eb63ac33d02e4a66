import Derived.Test.YtpmolmoggdjjnaaDoorWb
import Derived.BigRegion
namespace Go.Proofs.YtpmolmoggdjjnaaDoor
open Go.RowKit
open Go.Sha

/-- Words up to k, noughts behind. -/
def upTo (f : Nat → Wd) (k j : Nat) : Wd := if j < k then f j else 0

theorem upTo_step (f : Nat → Wd) (k j : Nat) : (if j = k then f k else upTo f k j) = upTo f (k + 1) j := by
  unfold upTo
  by_cases e : j = k
  · subst e; simp
  · by_cases h : j < k
    · rw [if_neg e, if_pos h, if_pos (by omega)]
    · rw [if_neg e, if_neg h, if_neg (by omega)]

theorem zero64 : (#[Value.int .u32 0, .int .u32 0, .int .u32 0, .int .u32 0, .int .u32 0, .int .u32 0, .int .u32 0, .int .u32 0, .int .u32 0, .int .u32 0, .int .u32 0, .int .u32 0, .int .u32 0, .int .u32 0, .int .u32 0, .int .u32 0, .int .u32 0, .int .u32 0, .int .u32 0, .int .u32 0, .int .u32 0, .int .u32 0, .int .u32 0, .int .u32 0, .int .u32 0, .int .u32 0, .int .u32 0, .int .u32 0, .int .u32 0, .int .u32 0, .int .u32 0, .int .u32 0, .int .u32 0, .int .u32 0, .int .u32 0, .int .u32 0, .int .u32 0, .int .u32 0, .int .u32 0, .int .u32 0, .int .u32 0, .int .u32 0, .int .u32 0, .int .u32 0, .int .u32 0, .int .u32 0, .int .u32 0, .int .u32 0, .int .u32 0, .int .u32 0, .int .u32 0, .int .u32 0, .int .u32 0, .int .u32 0, .int .u32 0, .int .u32 0, .int .u32 0, .int .u32 0, .int .u32 0, .int .u32 0, .int .u32 0, .int .u32 0, .int .u32 0, .int .u32 0] : Array Value) = wds .u32 (fun _ => 0) 64 :=
  wds_zero .u32 64

theorem Tryd.size40 : (Tryd.prog.info? 40).map (·.size) = some 64 := by kernel_rfl

theorem turnRight_at (x : Wd) (m : Int) (w : World) (h0 : 0 < m) (h1 : m < 32) :
    Calls Tryd.prog 14 #[.int .u32 (V x), .int .i64 m] w fun e w' => e = .returned (.int .u32 (V (rotr x m.toNat))) ∧ w' = w := by
  have := turnRight_any x m.toNat w (by omega) (by omega)
  rwa [show ((m.toNat : Nat) : Int) = m by omega] at this

theorem add_m (a b : Wd) : (V a + V b) % 4294967296 = V (a + b) := by rw [← IntKind.wrap_u32', add_u32]
theorem mod_V (n : Int) : n % 4294967296 = V (BitVec.ofInt 32 n) := by rw [← IntKind.wrap_u32', u32_wrap_V]
theorem div8 (a : Wd) : V a / (8 : Int) = V (a >>> 3) := div_V a 3
theorem div1024 (a : Wd) : V a / (1024 : Int) = V (a >>> 10) := div_V a 10
theorem spread_val (p q r t : Wd) : (V p + bits .xor .u32 (bits .xor .u32 (V (rotr q 7)) (V (rotr q 18))) (V q / 8) + V r + bits .xor .u32 (bits .xor .u32 (V (rotr t 17)) (V (rotr t 19))) (V t / 1024)) % 4294967296 = V (p + sg0 q + r + sg1 t) := by
  rw [div8, div1024, xor_u32, xor_u32, xor_u32, xor_u32, mod_V, ofInt_add, ofInt_add, ofInt_add, ofInt_V, ofInt_V, ofInt_V, ofInt_V]; rfl

theorem upTo_16 (b : Nat → Wd) (j : Nat) : upTo b 16 j = upTo (spread b) 16 j := by
  unfold upTo
  by_cases h : j < 16
  · rw [if_pos h, if_pos h, spread_lo b j h]
  · rw [if_neg h, if_neg h]

theorem word_u32 (a b c d : UInt8) : bits .or .u32 (bits .or .u32 (bits .or .u32 ((a.toNat : Int) % 4294967296 * 16777216 % 4294967296) ((b.toNat : Int) % 4294967296 * 65536 % 4294967296))
      ((c.toNat : Int) % 4294967296 * 256 % 4294967296)) ((d.toNat : Int) % 4294967296) = V (BitVec.ofNat 32 (((a.toNat * 256 + b.toNat) * 256 + c.toNat) * 256 + d.toNat)) := by
  have ha := a.toNat_lt
  have hb := b.toNat_lt
  have hc := c.toNat_lt
  have hd := d.toNat_lt
  have e1 : (a.toNat : Int) % 4294967296 * 16777216 % 4294967296 = ((a.toNat * 16777216 : Nat) : Int) := by omega
  have e2 : (b.toNat : Int) % 4294967296 * 65536 % 4294967296 = ((b.toNat * 65536 : Nat) : Int) := by omega
  have e3 : (c.toNat : Int) % 4294967296 * 256 % 4294967296 = ((c.toNat * 256 : Nat) : Int) := by omega
  have e4 : (d.toNat : Int) % 4294967296 = (d.toNat : Int) := by omega
  rw [e1, e2, e3, e4, u32_or_nat _ _ (by omega) (by omega), nat_join 24 _ _ (by omega) (by omega), u32_or_nat _ _ (by omega) (by omega), nat_join 16 _ _ (by omega) (by omega),
    u32_or_nat _ _ (by omega) (by omega), nat_join 8 _ _ (by omega) (by omega)]
  unfold V
  rw [BitVec.toNat_ofNat, Nat.mod_eq_of_lt (by omega), show a.toNat * 16777216 + b.toNat * 65536 + c.toNat * 256 + d.toNat = ((a.toNat * 256 + b.toNat) * 256 + c.toNat) * 256 + d.toNat by omega]

set_option maxRecDepth 10000 in
set_option maxHeartbeats 400000 in
theorem spread_any (s : ByteArray) (w : World) (hs : s.size = 64) :
    Calls Tryd.prog 13 #[.string s] w fun e w' => e = .returned (.agg (wds .u32 (spread (fun i => wordAt s.data.toList (4 * i))) 64)) ∧ Below w.heap.size w w' := by
  obtain ⟨b, hb⟩ : ∃ b : Nat → Wd, b = fun i => wordAt s.data.toList (4 * i) := ⟨_, rfl⟩
  rw [← hb]
  have HB : Hid (b = fun i => wordAt s.data.toList (4 * i)) := hb
  clear hb
  go_enter Tryd.func13, Tryd.ntmps13
  go_wp2
  go_loopw [10] (fun i wr => ∃ k : Nat, k ≤ 16 ∧ i = .int .i64 k ∧ RowIs wr (w.heap.size + 1) 40 (wds .u32 (upTo b k) 64) ∧ RowIs wr w.heap.size 40 (wds .u32 (fun _ => 0) 64) ∧ Below w.heap.size w wr) (fun i _ => 16 - (intOf i).toNat)
  case atStart =>
    rw [zero64]
    refine ⟨0, by omega, rfl, ?_, (RowIs.new w 40 _).alloc _, ((Below.refl _ _).alloc (Nat.le_refl _) _).alloc (by simp) _⟩
    have := RowIs.new (w.alloc (.cells (wds .u32 (fun _ => 0) 64) 40)) 40 (wds .u32 (fun _ => 0) 64)
    rw [World.size_alloc] at this
    exact this
  case round =>
    obtain ⟨k, hk, rfl, hrow, hres, hbel⟩ := hrel
    by_cases hlt : k < 16
    · have hc : wr.cell? ⟨w.heap.size + 1, k, none⟩ = some (.int .u32 (V (upTo b k k))) := by rw [hrow.cell, wds_get _ _ _ _ (by omega)]
      have hf : wr.frozen? ⟨w.heap.size + 1, k, none⟩ = false := hrow.frozen _
      have i0 : (0 : Int) ≤ 4 * k ∧ (4 * k : Int) < 64 := by omega
      have i1 : (0 : Int) ≤ 4 * k + 1 ∧ (4 * k + 1 : Int) < 64 := by omega
      have i2 : (0 : Int) ≤ 4 * k + 2 ∧ (4 * k + 2 : Int) < 64 := by omega
      have i3 : (0 : Int) ≤ 4 * k + 3 ∧ (4 * k + 3 : Int) < 64 := by omega
      go_wp2
      go_region
      go_wp2
      go_roundw
      case rel =>
        refine ⟨k + 1, by omega, by go_num, ?_, ?_, ?_⟩
        · rw [word_u32, asBytes s _ (by omega), asBytes s _ (by omega), asBytes s _ (by omega), asBytes s _ (by omega), show BitVec.ofNat 32 _ = b k from (congrFun HB.out k).symm]
          refine ((hrow.set _ _).eq ?_).drew
          rw [wds_set]
          exact wds_congr (fun j _ => upTo_step b k j)
        · exact (hres.other (by simp) _).drew
        · exact (hbel.setCell (by simp) _).drew
      case measure => simp [intOf]; omega
    · have e : k = 16 := by omega
      subst e
      have hrow' := hrow.eq (wds_congr (fun j _ => upTo_16 b j))
      clear hrow
      go_wp2
      go_loopw [5] (fun i wr => ∃ k : Nat, 16 ≤ k ∧ k ≤ 64 ∧ i = .int .i64 k ∧ RowIs wr (w.heap.size + 1) 40 (wds .u32 (upTo (spread b) k) 64) ∧ RowIs wr w.heap.size 40 (wds .u32 (fun _ => 0) 64) ∧ Below w.heap.size w wr) (fun i _ => 64 - (intOf i).toNat)
      case atStart => exact ⟨16, by omega, by omega, rfl, hrow', hres, hbel⟩
      case round =>
        clear hrow' hres hbel
        rename_i wr0 _ _ _
        obtain ⟨k, hk0, hk, rfl, hrow, hres, hbel⟩ := hrel
        by_cases hlt : k < 64
        · have c15 : wr.cell? ⟨w.heap.size + 1, k - 15, none⟩ = some (.int .u32 (V (spread b (k - 15)))) := by rw [hrow.cell, wds_get _ _ _ _ (by omega), upTo, if_pos (by omega)]
          have c2 : wr.cell? ⟨w.heap.size + 1, k - 2, none⟩ = some (.int .u32 (V (spread b (k - 2)))) := by rw [hrow.cell, wds_get _ _ _ _ (by omega), upTo, if_pos (by omega)]
          have c16 : wr.cell? ⟨w.heap.size + 1, k - 16, none⟩ = some (.int .u32 (V (spread b (k - 16)))) := by rw [hrow.cell, wds_get _ _ _ _ (by omega), upTo, if_pos (by omega)]
          have c7 : wr.cell? ⟨w.heap.size + 1, k - 7, none⟩ = some (.int .u32 (V (spread b (k - 7)))) := by rw [hrow.cell, wds_get _ _ _ _ (by omega), upTo, if_pos (by omega)]
          have c0 : wr.cell? ⟨w.heap.size + 1, k, none⟩ = some (.int .u32 (V (upTo (spread b) k k))) := by rw [hrow.cell, wds_get _ _ _ _ (by omega)]
          have hf : wr.frozen? ⟨w.heap.size + 1, k, none⟩ = false := hrow.frozen _
          go_wp2
          go_quiet (fail)
          go_wp2_with (go_at_call 14; go_must (refine (turnRight_at _ _ _ (by decide) (by decide)).mono ?_; rintro e w' ⟨rfl, rfl⟩))
          go_region
          go_wp2
          go_roundw
          case rel =>
            (repeat apply Exists.intro)
            refine ⟨⟨k + 1, by omega, by omega, by go_num, ?_, ?_, ?_⟩, rfl⟩
            · rw [spread_val, ← spread_hi b k hk0]
              refine ((hrow.drewN _).set _ _).eq ?_
              rw [wds_set]
              exact wds_congr (fun j _ => upTo_step (spread b) k j)
            · exact (hres.other (by simp) _).drewN _
            · exact (hbel.setCell (by simp) _).trans (bel_drewN _ _ _)
          case measure => simp [intOf]; omega
        · have e : k = 64 := by omega
          subst e
          have hrow' := hrow.eq (wds_congr (g := spread b) (fun j hj => by unfold upTo; rw [if_pos hj]))
          clear hrow
          go_wp2_with (first | (refine wpList_load_row rfl 40 _ rfl (w.heap.size + 1) rfl 40 _ (0, 0) _ hrow' Tryd.underlying40 rfl (by rw [wds_size]; exact Tryd.size40) ?_) | (refine wpList_store_row rfl 40 _ _ rfl w.heap.size _ rfl rfl 40 _ hres (by rw [wds_size]; exact Tryd.size40) (by simp) (wds_one _ _ _) ?_))
          refine bodyPost_ret (v := .agg (wds .u32 (spread b) 64)) ?_ rfl ⟨rfl, below_row hbel (Nat.le_refl _) _⟩
          exact results_cell_row rfl _ _ w.heap.size 40 _ (0, 0) _ rfl (hres.setRow _) Tryd.underlying40 rfl (by rw [wds_size]; exact Tryd.size40)
end Go.Proofs.YtpmolmoggdjjnaaDoor
