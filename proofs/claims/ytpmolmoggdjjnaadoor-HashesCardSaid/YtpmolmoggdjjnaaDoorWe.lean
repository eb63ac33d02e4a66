import Derived.Test.YtpmolmoggdjjnaaDoorWd
namespace Go.Proofs.YtpmolmoggdjjnaaDoor
open Go.RowKit
open Go.Sha

/-- Byte j of a state's sum. -/
def outB (st : St) (j : Nat) : UInt8 := Go.Sha.byteOf (st.get (j / 4)) (j % 4)
def outTo (st : St) (k j : Nat) : UInt8 := if j < k then outB st j else 0

theorem sumBytes_eq (st : St) : sumBytes st = (List.range 32).map (outB st) := rfl
theorem outTo_step (st : St) (k j : Nat) : (if j = k then outB st k else outTo st k j) = outTo st (k + 1) j := by
  unfold outTo
  by_cases e : j = k
  · subst e; simp
  · by_cases h : j < k
    · rw [if_neg e, if_pos h, if_pos (by omega)]
    · rw [if_neg e, if_neg h, if_neg (by omega)]

theorem outRow_step {w : World} {g : Nat} {t : TypeId} {st : St} {k : Nat} (h : RowIs w g t (bts (outTo st k) 32)) : RowIs (w.setCell ⟨g, k, none⟩ (.int .u8 ((outB st k).toNat : Int))) g t (bts (outTo st (k + 1)) 32) :=
  (h.set k _).eq (by rw [bts_set]; exact bts_congr (fun j _ => outTo_step st k j))
theorem ob0 (st : St) (k : Nat) : V (st.get k) / 16777216 % 256 = ((outB st (4 * k)).toNat : Int) := by
  unfold outB Go.Sha.byteOf V
  rw [show 4 * k / 4 = k by omega, show 4 * k % 4 = 0 by omega, UInt8.toNat_ofNat']
  simp only [Nat.reducePow, Nat.reduceSub]; omega
theorem ob1 (st : St) (k : Nat) : V (st.get k) / 65536 % 256 = ((outB st (4 * k + 1)).toNat : Int) := by
  unfold outB Go.Sha.byteOf V
  rw [show (4 * k + 1) / 4 = k by omega, show (4 * k + 1) % 4 = 1 by omega, UInt8.toNat_ofNat']
  simp only [Nat.reducePow, Nat.reduceSub]; omega
theorem ob2 (st : St) (k : Nat) : V (st.get k) / 256 % 256 = ((outB st (4 * k + 2)).toNat : Int) := by
  unfold outB Go.Sha.byteOf V
  rw [show (4 * k + 2) / 4 = k by omega, show (4 * k + 2) % 4 = 2 by omega, UInt8.toNat_ofNat']
  simp only [Nat.reducePow, Nat.reduceSub]; omega
theorem ob3 (st : St) (k : Nat) : V (st.get k) % 256 = ((outB st (4 * k + 3)).toNat : Int) := by
  unfold outB Go.Sha.byteOf V
  rw [show (4 * k + 3) / 4 = k by omega, show (4 * k + 3) % 4 = 3 by omega, UInt8.toNat_ofNat']
  simp only [Nat.reducePow, Nat.reduceSub]; omega

theorem Tryd.size23 : (Tryd.prog.info? 23).map (·.size) = some 32 := by kernel_rfl
theorem idx0 (st : St) (w : World) : (Instr.index 30 (.agg (stc .u32 st)) (.int .i64 0)).run Tryd.prog w = .ok (.int .u32 (V st.a)) w := by kernel_rfl
theorem idx1 (st : St) (w : World) : (Instr.index 30 (.agg (stc .u32 st)) (.int .i64 1)).run Tryd.prog w = .ok (.int .u32 (V st.b)) w := by kernel_rfl
theorem idx2 (st : St) (w : World) : (Instr.index 30 (.agg (stc .u32 st)) (.int .i64 2)).run Tryd.prog w = .ok (.int .u32 (V st.c)) w := by kernel_rfl
theorem idx3 (st : St) (w : World) : (Instr.index 30 (.agg (stc .u32 st)) (.int .i64 3)).run Tryd.prog w = .ok (.int .u32 (V st.d)) w := by kernel_rfl
theorem idx4 (st : St) (w : World) : (Instr.index 30 (.agg (stc .u32 st)) (.int .i64 4)).run Tryd.prog w = .ok (.int .u32 (V st.e)) w := by kernel_rfl
theorem idx5 (st : St) (w : World) : (Instr.index 30 (.agg (stc .u32 st)) (.int .i64 5)).run Tryd.prog w = .ok (.int .u32 (V st.f)) w := by kernel_rfl
theorem idx6 (st : St) (w : World) : (Instr.index 30 (.agg (stc .u32 st)) (.int .i64 6)).run Tryd.prog w = .ok (.int .u32 (V st.g)) w := by kernel_rfl
theorem idx7 (st : St) (w : World) : (Instr.index 30 (.agg (stc .u32 st)) (.int .i64 7)).run Tryd.prog w = .ok (.int .u32 (V st.h)) w := by kernel_rfl
theorem idx_st (st : St) (k : Nat) (hk : k < 8) (w : World) : (Instr.index 30 (.agg (stc .u32 st)) (.int .i64 (k : Int))).run Tryd.prog w = .ok (.int .u32 (V (st.get k))) w := by
  have h : k = 0 ∨ k = 1 ∨ k = 2 ∨ k = 3 ∨ k = 4 ∨ k = 5 ∨ k = 6 ∨ k = 7 := by omega
  rcases h with rfl | rfl | rfl | rfl | rfl | rfl | rfl | rfl
  · exact idx0 st w
  · exact idx1 st w
  · exact idx2 st w
  · exact idx3 st w
  · exact idx4 st w
  · exact idx5 st w
  · exact idx6 st w
  · exact idx7 st w

theorem zero32 : (#[Value.int .u8 0, .int .u8 0, .int .u8 0, .int .u8 0, .int .u8 0, .int .u8 0, .int .u8 0, .int .u8 0, .int .u8 0, .int .u8 0, .int .u8 0, .int .u8 0, .int .u8 0, .int .u8 0, .int .u8 0, .int .u8 0, .int .u8 0, .int .u8 0, .int .u8 0, .int .u8 0, .int .u8 0, .int .u8 0, .int .u8 0, .int .u8 0, .int .u8 0, .int .u8 0, .int .u8 0, .int .u8 0, .int .u8 0, .int .u8 0, .int .u8 0, .int .u8 0] : Array Value) = bts (fun _ => 0) 32 :=
  bts_zero 32

set_option maxRecDepth 10000 in
set_option maxHeartbeats 400000 in
theorem sumOf_any (st : St) (w : World) :
    Calls Tryd.prog 10 #[.agg (stc .u32 st)] w fun e w' => e = .returned (.agg (bts (outB st) 32)) ∧ Below w.heap.size w w' := by
  go_enter Tryd.func10, Tryd.ntmps10
  go_wp2
  rw [zero32]
  go_loopw [7] (fun i wr => ∃ k : Nat, k ≤ 8 ∧ i = .int .i64 k ∧ RowIs wr (w.heap.size + 1 + 1) 23 (bts (outTo st (4 * k)) 32) ∧ RowIs wr (w.heap.size + 1) 23 (bts (fun _ => 0) 32) ∧ Below w.heap.size w wr) (fun i _ => 8 - (intOf i).toNat)
  case atStart =>
    refine ⟨0, by omega, rfl, ?_, ?_, (((Below.refl _ _).alloc (Nat.le_refl _) _).alloc (by simp) _).alloc (by simp; omega) _⟩
    · have := RowIs.new ((w.alloc (.cells (stc .u32 st) 30)).alloc (.cells (bts (fun _ => 0) 32) 23)) 23 (bts (fun _ => 0) 32)
      rw [World.size_alloc, World.size_alloc] at this
      exact this
    · have := (RowIs.new (w.alloc (.cells (stc .u32 st) 30)) 23 (bts (fun _ => 0) 32)).alloc (.cells (bts (fun _ => 0) 32) 23)
      rw [World.size_alloc] at this
      exact this
  case round =>
    obtain ⟨k, hk, rfl, hrow, hres, hbel⟩ := hrel
    by_cases hlt : k < 8
    · have hix := fun w => idx_st st k hlt w
      have c0 : wr.cell? ⟨w.heap.size + 1 + 1, 4 * k, none⟩ = some (.int .u8 ((outTo st (4 * k) (4 * k)).toNat : Int)) := by rw [hrow.cell, bts_get _ _ _ (by omega)]
      have c1 : wr.cell? ⟨w.heap.size + 1 + 1, 4 * k + 1, none⟩ = some (.int .u8 ((outTo st (4 * k) (4 * k + 1)).toNat : Int)) := by rw [hrow.cell, bts_get _ _ _ (by omega)]
      have c2 : wr.cell? ⟨w.heap.size + 1 + 1, 4 * k + 2, none⟩ = some (.int .u8 ((outTo st (4 * k) (4 * k + 2)).toNat : Int)) := by rw [hrow.cell, bts_get _ _ _ (by omega)]
      have c3 : wr.cell? ⟨w.heap.size + 1 + 1, 4 * k + 3, none⟩ = some (.int .u8 ((outTo st (4 * k) (4 * k + 3)).toNat : Int)) := by rw [hrow.cell, bts_get _ _ _ (by omega)]
      have f0 : wr.frozen? ⟨w.heap.size + 1 + 1, 4 * k, none⟩ = false := hrow.frozen _
      have f1 : wr.frozen? ⟨w.heap.size + 1 + 1, 4 * k + 1, none⟩ = false := hrow.frozen _
      have f2 : wr.frozen? ⟨w.heap.size + 1 + 1, 4 * k + 2, none⟩ = false := hrow.frozen _
      have f3 : wr.frozen? ⟨w.heap.size + 1 + 1, 4 * k + 3, none⟩ = false := hrow.frozen _
      go_wp2
      go_roundw
      case rel =>
        refine ⟨k + 1, by omega, by go_num, ?_, ?_, ?_⟩
        · rw [show (4 * (k + 1)) = 4 * k + 1 + 1 + 1 + 1 by omega]
          rw [ob0 st k, ob1 st k, ob2 st k, ob3 st k]
          exact outRow_step (outRow_step (outRow_step (outRow_step hrow)))
        · exact (((hres.other (by simp) _).other (by simp) _).other (by simp) _).other (by simp) _
        · exact (((hbel.setCell (by simp; omega) _).setCell (by simp; omega) _).setCell (by simp; omega) _).setCell (by simp; omega) _
      case measure => simp [intOf]; omega
    · have e : k = 8 := by omega
      subst e
      have hrow' := hrow.eq (bts_congr (g := outB st) (fun j hj => by unfold outTo; rw [if_pos (by omega)]))
      clear hrow
      go_wp2_with (first | (refine wpList_load_row rfl 23 _ rfl (w.heap.size + 1 + 1) rfl 23 _ (0, 0) _ hrow' Tryd.underlying23 rfl (by rw [bts_size]; exact Tryd.size23) ?_) | (refine wpList_store_row rfl 23 _ _ rfl (w.heap.size + 1) (bts (outB st) 32) rfl rfl 23 _ hres (by rw [bts_size]; exact Tryd.size23) (by simp) (bts_one _ _) ?_))
      refine bodyPost_ret (v := .agg (bts (outB st) 32)) ?_ rfl ⟨rfl, below_row hbel (by omega) _⟩
      exact results_cell_row rfl _ _ (w.heap.size + 1) 23 _ (0, 0) _ rfl (hres.setRow _) Tryd.underlying23 rfl (by rw [bts_size]; exact Tryd.size23)

end Go.Proofs.YtpmolmoggdjjnaaDoor
