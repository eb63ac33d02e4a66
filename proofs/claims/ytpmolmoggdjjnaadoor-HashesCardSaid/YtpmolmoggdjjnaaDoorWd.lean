import Derived.Test.YtpmolmoggdjjnaaDoorWc
namespace Go.Proofs.YtpmolmoggdjjnaaDoor
open Go.RowKit
open Go.Sha

/-- The state's cells. -/
abbrev stc (k : IntKind) (s : St) : Array Value := #[.int k (V s.a), .int k (V s.b), .int k (V s.c), .int k (V s.d), .int k (V s.e), .int k (V s.f), .int k (V s.g), .int k (V s.h)]

/-- The rounds' constants, as the program's variable holds them. -/
def KIs (w : World) : Prop := ∀ i, i < 64 → w.cell? ⟨1, i, none⟩ = some (.int .u32 (V (kOf i)))

theorem KIs.pos {w : World} (h : KIs w) : 1 < w.heap.size := block_lt_of_cell (h 0 (by decide))
theorem KIs.below {w w' : World} {B : Nat} (h : KIs w) (hb : Below B w w') (hB : 1 < B) : KIs w' := fun i hi => (hb.cell (p := ⟨1, i, none⟩) hB).trans (h i hi)

theorem Tryd.size30 : (Tryd.prog.info? 30).map (·.size) = some 8 := by kernel_rfl

/-- Eight numbers in cells. -/
abbrev c8 (k : IntKind) (a b c d e f g h : Int) : Array Value := #[.int k a, .int k b, .int k c, .int k d, .int k e, .int k f, .int k g, .int k h]
theorem c8_one (k : IntKind) (a b c d e f g h : Int) : (c8 k a b c d e f g h).all (·.oneCell') = true := by simp [c8, Value.oneCell']

theorem max_u32 : (if IntKind.u32.signed = true then (-1 : Int) else IntKind.u32.max) = V (BitVec.allOnes 32) := by decide
theorem t1_u32 (t : St) (k x : Wd) : (V t.h + bits .xor .u32 (bits .xor .u32 (V (rotr t.e 6)) (V (rotr t.e 11))) (V (rotr t.e 25)) +
    bits .xor .u32 (bits .and .u32 (V t.e) (V t.f)) (bits .and .u32 (bits .xor .u32 (if IntKind.u32.signed = true then -1 else IntKind.u32.max) (V t.e)) (V t.g)) + V k + V x) % 4294967296 = V (t1 t k x) := by
  rw [max_u32, xor_u32, xor_u32, and_u32, xor_u32, and_u32, xor_u32, mod_V, ofInt_add, ofInt_add, ofInt_add, ofInt_add, ofInt_V, ofInt_V, ofInt_V, ofInt_V, ofInt_V,
    BitVec.allOnes_xor]; rfl
theorem t2_u32 (t : St) : (bits .xor .u32 (bits .xor .u32 (V (rotr t.a 2)) (V (rotr t.a 13))) (V (rotr t.a 22)) +
    bits .xor .u32 (bits .xor .u32 (bits .and .u32 (V t.a) (V t.b)) (bits .and .u32 (V t.a) (V t.c))) (bits .and .u32 (V t.b) (V t.c))) % 4294967296 = V (t2 t) := by
  rw [xor_u32, xor_u32, and_u32, and_u32, and_u32, xor_u32, xor_u32, add_m]; rfl

structure MixW (w : World) (b : Nat → Wd) (st : St) (g : Nat) (wr : World) : Prop where
  row : RowIs wr g 40 (wds .u32 (spread b) 64)
  box : RowIs wr w.heap.size 30 (stc .u32 st)
  res : RowIs wr (w.heap.size + 1) 30 (stc .u32 ⟨0, 0, 0, 0, 0, 0, 0, 0⟩)
  ks : KIs wr
  bel : Below w.heap.size w wr

theorem MixW.drewN {w : World} {b : Nat → Wd} {st : St} {g : Nat} {wr : World} (h : MixW w b st g wr) (n : Nat) : MixW w b st g (wr.drewN n) :=
  ⟨h.row.drewN n, h.box.drewN n, h.res.drewN n, h.ks, h.bel.trans (bel_drewN _ _ _)⟩

set_option maxRecDepth 10000 in
set_option maxHeartbeats 400000 in
theorem mix_any (st : St) (s : ByteArray) (w : World) (hs : s.size = 64) (hK : KIs w) :
    Calls Tryd.prog 8 #[.agg (stc .u32 st), .string s] w fun e w' => e = .returned (.agg (stc .u32 (mix kOf st (fun i => wordAt s.data.toList (4 * i))))) ∧ Below w.heap.size w w' := by
  have hp := hK.pos
  obtain ⟨b, hb⟩ : ∃ b : Nat → Wd, b = fun i => wordAt s.data.toList (4 * i) := ⟨_, rfl⟩
  have hS : ∀ w, Calls Tryd.prog 13 #[.string s] w fun e w' => e = .returned (.agg (wds .u32 (spread b) 64)) ∧ Below w.heap.size w w' := by
    subst hb; exact fun w => spread_any s w hs
  rw [← hb]
  clear hb
  go_enter Tryd.func8, Tryd.ntmps8
  go_wp2_with (first | (go_at_call 13; go_must (refine (hS _).mono ?_; rintro e w1 ⟨rfl, hb1⟩)) | (refine wpList_store_row rfl 40 _ _ rfl w1.heap.size _ rfl rfl 40 _ (RowIs.new w1 40 _) (by rw [wds_size]; exact Tryd.size40) (by rw [wds_size]; rfl) (wds_one _ _ _) ?_; rw [World.setRow_alloc_new]; simp only [Act.put]))
  have hsz : w.heap.size + 1 < w1.heap.size := by have := hb1.size; simp at this; omega
  have hbx : RowIs w1 w.heap.size 30 (stc .u32 st) := RowIs.below hb1 ((RowIs.new _ _ _).alloc _) (by simp; omega)
  have hrx : RowIs w1 (w.heap.size + 1) 30 (stc .u32 ⟨0, 0, 0, 0, 0, 0, 0, 0⟩) := by
    have := RowIs.new (w.alloc (.cells (stc .u32 st) 30)) 30 (stc .u32 ⟨0, 0, 0, 0, 0, 0, 0, 0⟩)
    rw [World.size_alloc] at this
    exact RowIs.below hb1 this (by simp)
  have hbw : Below w.heap.size w w1 := (((Below.refl _ _).alloc (Nat.le_refl _) _).alloc (by simp) _).trans (hb1.mono (by simp; omega))
  obtain ⟨W, g, hW, hg, hrow, hbx, hrx, hbw, hsz⟩ : ∃ (W : World) (g : Nat), W = w1.alloc (.cells (wds .u32 (spread b) 64) 40) ∧ g = w1.heap.size ∧ RowIs W g 40 (wds .u32 (spread b) 64) ∧ RowIs W w.heap.size 30 (stc .u32 st) ∧
      RowIs W (w.heap.size + 1) 30 (stc .u32 ⟨0, 0, 0, 0, 0, 0, 0, 0⟩) ∧ Below w.heap.size w W ∧ w.heap.size + 1 < g :=
    ⟨_, _, rfl, rfl, RowIs.new _ _ _, hbx.alloc _, hrx.alloc _, hbw.alloc (by omega) _, hsz⟩
  rw [← hW, ← hg]
  clear hW hg hb1
  have hKW := hK.below hbw hp
  have c0 : W.cell? ⟨w.heap.size, 0, none⟩ = some (.int .u32 (V st.a)) := by rw [hbx.cell]; rfl
  have c1 : W.cell? ⟨w.heap.size, 1, none⟩ = some (.int .u32 (V st.b)) := by rw [hbx.cell]; rfl
  have c2 : W.cell? ⟨w.heap.size, 2, none⟩ = some (.int .u32 (V st.c)) := by rw [hbx.cell]; rfl
  have c3 : W.cell? ⟨w.heap.size, 3, none⟩ = some (.int .u32 (V st.d)) := by rw [hbx.cell]; rfl
  have c4 : W.cell? ⟨w.heap.size, 4, none⟩ = some (.int .u32 (V st.e)) := by rw [hbx.cell]; rfl
  have c5 : W.cell? ⟨w.heap.size, 5, none⟩ = some (.int .u32 (V st.f)) := by rw [hbx.cell]; rfl
  have c6 : W.cell? ⟨w.heap.size, 6, none⟩ = some (.int .u32 (V st.g)) := by rw [hbx.cell]; rfl
  have c7 : W.cell? ⟨w.heap.size, 7, none⟩ = some (.int .u32 (V st.h)) := by rw [hbx.cell]; rfl
  go_quiet (fail)
  go_wp2
  go_quiet (fail)
  go_wp2
  go_loopw [6, 7, 8, 9, 10, 11, 12, 13, 35] (fun xa xb xc xd xe xf xg xh i wr => ∃ (k : Nat) (t : St), k ≤ 64 ∧ t = rounds kOf (spread b) st k ∧ i = .int .i64 k ∧ MixW w b st g wr ∧
      xa = .int .u32 (V t.a) ∧ xb = .int .u32 (V t.b) ∧ xc = .int .u32 (V t.c) ∧ xd = .int .u32 (V t.d) ∧ xe = .int .u32 (V t.e) ∧ xf = .int .u32 (V t.f) ∧ xg = .int .u32 (V t.g) ∧ xh = .int .u32 (V t.h)) (fun _ _ _ _ _ _ _ _ i _ => 64 - (intOf i).toNat)
  case atStart => exact ⟨0, st, by omega, rfl, rfl, ⟨hrow, hbx, hrx, hKW, (hbw.trans (bel_drewN _ _ _)).trans (bel_drewN _ _ _)⟩, rfl, rfl, rfl, rfl, rfl, rfl, rfl, rfl⟩
  case round =>
    clear hrow hbx hrx hKW hbw c0 c1 c2 c3 c4 c5 c6 c7
    obtain ⟨k, t, hk, ht, rfl, hM, rfl, rfl, rfl, rfl, rfl, rfl, rfl, rfl⟩ := hrel
    have HT : Hid (t = rounds kOf (spread b) st k) := ht
    clear ht
    by_cases hlt : k < 64
    · have hk1 : wr.cell? ⟨1, k, none⟩ = some (.int .u32 (V (kOf k))) := hM.ks k hlt
      have hw1 : wr.cell? ⟨g, k, none⟩ = some (.int .u32 (V (spread b k))) := by rw [hM.row.cell, wds_get _ _ _ _ hlt]
      go_wp2
      go_quiet ((go_at_call 14; exact Calls.quiet_of_same (turnRight_at _ _ _ (by decide) (by decide))))
      go_wp2_with (go_at_call 14; go_must (refine (turnRight_at _ _ _ (by decide) (by decide)).mono ?_; rintro e w' ⟨rfl, rfl⟩))
      go_roundw
      case rel =>
        refine ⟨k + 1, round t (kOf k) (spread b k), by omega, by rw [HT.out]; rfl, by go_num, hM.drewN _, ?_, rfl, rfl, rfl, ?_, rfl, rfl, rfl⟩
        · rw [t1_u32, t2_u32, add_m]; rfl
        · rw [t1_u32, add_m]; rfl
      case measure => simp [intOf]; omega
    · have c0 : wr.cell? ⟨w.heap.size, 0, none⟩ = some (.int .u32 (V st.a)) := by rw [hM.box.cell]; rfl
      have c1 : wr.cell? ⟨w.heap.size, 1, none⟩ = some (.int .u32 (V st.b)) := by rw [hM.box.cell]; rfl
      have c2 : wr.cell? ⟨w.heap.size, 2, none⟩ = some (.int .u32 (V st.c)) := by rw [hM.box.cell]; rfl
      have c3 : wr.cell? ⟨w.heap.size, 3, none⟩ = some (.int .u32 (V st.d)) := by rw [hM.box.cell]; rfl
      have c4 : wr.cell? ⟨w.heap.size, 4, none⟩ = some (.int .u32 (V st.e)) := by rw [hM.box.cell]; rfl
      have c5 : wr.cell? ⟨w.heap.size, 5, none⟩ = some (.int .u32 (V st.f)) := by rw [hM.box.cell]; rfl
      have c6 : wr.cell? ⟨w.heap.size, 6, none⟩ = some (.int .u32 (V st.g)) := by rw [hM.box.cell]; rfl
      have c7 : wr.cell? ⟨w.heap.size, 7, none⟩ = some (.int .u32 (V st.h)) := by rw [hM.box.cell]; rfl
      have e : k = 64 := by omega
      subst e
      go_wp2_with (refine wpList_store_row rfl 30 _ _ rfl (w.heap.size + 1) (c8 .u32 _ _ _ _ _ _ _ _) rfl rfl 30 _ hM.res Tryd.size30 rfl (c8_one _ _ _ _ _ _ _ _ _) ?_)
      refine bodyPost_ret (v := .agg (stc .u32 (mix kOf st b))) ?_ rfl ⟨rfl, below_row hM.bel (by omega) _⟩
      have hv : stc .u32 (mix kOf st b) = c8 .u32 ((V st.a + V t.a) % 4294967296) ((V st.b + V t.b) % 4294967296) ((V st.c + V t.c) % 4294967296) ((V st.d + V t.d) % 4294967296) ((V st.e + V t.e) % 4294967296) ((V st.f + V t.f) % 4294967296) ((V st.g + V t.g) % 4294967296) ((V st.h + V t.h) % 4294967296) := by
        rw [add_m, add_m, add_m, add_m, add_m, add_m, add_m, add_m, HT.out]; rfl
      rw [hv]
      exact results_cell_row rfl _ _ (w.heap.size + 1) 30 _ (0, 0) _ rfl (hM.res.setRow _) Tryd.underlying30 rfl Tryd.size30

end Go.Proofs.YtpmolmoggdjjnaaDoor
