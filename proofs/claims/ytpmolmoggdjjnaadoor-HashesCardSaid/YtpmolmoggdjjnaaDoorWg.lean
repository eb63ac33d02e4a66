import Derived.Test.YtpmolmoggdjjnaaDoorPd
import Derived.Deep.RegionWith
import Derived.Lib.IndexBytes
namespace Go.Proofs.YtpmolmoggdjjnaaDoor
open Go.RowKit
open Go.Sha

/-- The program's constants. -/
structure CIs (w : World) : Prop where
  k : KIs w

theorem CIs.below {w w' : World} {B : Nat} (h : CIs w) (hb : Below B w w') (hB : 1 < B) : CIs w' := ⟨h.k.below hb hB⟩

/-- What H starts from. -/
theorem start_any (w : World) : Calls Tryd.prog 7 #[] w fun e w' => e = .returned (.agg (stc .u32 Go.Sha.start)) ∧ Below w.heap.size w w' := by
  have hv : stc .u32 Go.Sha.start = c8 .u32 1779033703 3144134277 1013904242 2773480762 1359893119 2600822924 528734635 1541459225 := by kernel_rfl
  rw [hv]
  go_enter Tryd.func7, Tryd.ntmps7
  go_wp2_with (refine wpList_store_row rfl 30 _ _ rfl w.heap.size (c8 .u32 _ _ _ _ _ _ _ _) rfl rfl 30 _ (RowIs.new w 30 _) Tryd.size30 rfl (c8_one _ _ _ _ _ _ _ _ _) ?_; rw [World.setRow_alloc_new]; simp only [Act.put])
  refine bodyPost_ret (v := .agg (c8 .u32 1779033703 3144134277 1013904242 2773480762 1359893119 2600822924 528734635 1541459225)) ?_ rfl ⟨rfl, (Below.refl _ _).alloc (Nat.le_refl _) _⟩
  exact results_cell_row rfl _ _ w.heap.size 30 _ (0, 0) _ rfl (RowIs.new w 30 _) Tryd.underlying30 rfl Tryd.size30

/-- How long the string in a slot is. -/
def strLen : Value → Nat | .string r => r.size | _ => 0

structure HashW (w : World) (g : Nat) (st : St) (wr : World) : Prop where
  row : RowIs wr g 30 (stc .u32 st)
  lt : w.heap.size < g
  res : RowIs wr w.heap.size 23 (bts (fun _ => 0) 32)
  bel : Below w.heap.size w wr

/-- Eight cells, one by one. -/
theorem row8 {w : World} {g : Nat} {t : TypeId} {st : St} (h : RowIs w g t (stc .u32 st)) :
    w.cell? ⟨g, 0, none⟩ = some (.int .u32 (V st.a)) ∧ w.cell? ⟨g, 1, none⟩ = some (.int .u32 (V st.b)) ∧ w.cell? ⟨g, 2, none⟩ = some (.int .u32 (V st.c)) ∧ w.cell? ⟨g, 3, none⟩ = some (.int .u32 (V st.d)) ∧
    w.cell? ⟨g, 4, none⟩ = some (.int .u32 (V st.e)) ∧ w.cell? ⟨g, 5, none⟩ = some (.int .u32 (V st.f)) ∧ w.cell? ⟨g, 6, none⟩ = some (.int .u32 (V st.g)) ∧ w.cell? ⟨g, 7, none⟩ = some (.int .u32 (V st.h)) :=
  ⟨(h.cell 0).trans rfl, (h.cell 1).trans rfl, (h.cell 2).trans rfl, (h.cell 3).trans rfl, (h.cell 4).trans rfl, (h.cell 5).trans rfl, (h.cell 6).trans rfl, (h.cell 7).trans rfl⟩
theorem free8 {w : World} {g : Nat} {t : TypeId} {st : St} (h : RowIs w g t (stc .u32 st)) :
    w.frozen? ⟨g, 0, none⟩ = false ∧ w.frozen? ⟨g, 1, none⟩ = false ∧ w.frozen? ⟨g, 2, none⟩ = false ∧ w.frozen? ⟨g, 3, none⟩ = false ∧
    w.frozen? ⟨g, 4, none⟩ = false ∧ w.frozen? ⟨g, 5, none⟩ = false ∧ w.frozen? ⟨g, 6, none⟩ = false ∧ w.frozen? ⟨g, 7, none⟩ = false :=
  ⟨h.frozen 0, h.frozen 1, h.frozen 2, h.frozen 3, h.frozen 4, h.frozen 5, h.frozen 6, h.frozen 7⟩

theorem set8 {w : World} {g : Nat} {t : TypeId} {st : St} (h : RowIs w g t (stc .u32 st)) (u : St) :
    RowIs ((((((((w.setCell ⟨g, 0, none⟩ (.int .u32 (V u.a))).setCell ⟨g, 1, none⟩ (.int .u32 (V u.b))).setCell ⟨g, 2, none⟩ (.int .u32 (V u.c))).setCell ⟨g, 3, none⟩ (.int .u32 (V u.d))).setCell ⟨g, 4, none⟩ (.int .u32 (V u.e))).setCell
      ⟨g, 5, none⟩ (.int .u32 (V u.f))).setCell ⟨g, 6, none⟩ (.int .u32 (V u.g))).setCell ⟨g, 7, none⟩ (.int .u32 (V u.h))) g t (stc .u32 u) :=
  ((((((((h.set 0 _).set 1 _).set 2 _).set 3 _).set 4 _).set 5 _).set 6 _).set 7 _).eq (by kernel_rfl)

theorem HashW.after {w : World} {g : Nat} {st : St} {wr w1 : World} (h : HashW w g st wr) (hb : Below wr.heap.size wr w1) : HashW w g st w1 :=
  ⟨RowIs.below hb h.row h.row.lt, h.lt, RowIs.below hb h.res h.res.lt, h.bel.trans (hb.mono (by have := h.bel.size; omega))⟩
theorem HashW.step {w : World} {g : Nat} {st : St} {wr w1 : World} (h : HashW w g st wr) (hb : Below wr.drew.heap.size wr.drew w1) (u : St) :
    HashW w g u ((((((((w1.setCell ⟨g, 0, none⟩ (.int .u32 (V u.a))).setCell ⟨g, 1, none⟩ (.int .u32 (V u.b))).setCell ⟨g, 2, none⟩ (.int .u32 (V u.c))).setCell ⟨g, 3, none⟩ (.int .u32 (V u.d))).setCell
      ⟨g, 4, none⟩ (.int .u32 (V u.e))).setCell ⟨g, 5, none⟩ (.int .u32 (V u.f))).setCell ⟨g, 6, none⟩ (.int .u32 (V u.g))).setCell ⟨g, 7, none⟩ (.int .u32 (V u.h))) := by
  have h1 : HashW w g st w1 := HashW.after (wr := wr.drew) ⟨h.row, h.lt, h.res, h.bel.drew⟩ hb
  have hne : w.heap.size ≠ g := by have := h.lt; omega
  have hle : w.heap.size ≤ g := by have := h.lt; omega
  refine ⟨set8 h1.row u, h.lt, ?_, ?_⟩
  · exact (((((((h1.res.other hne _).other hne _).other hne _).other hne _).other hne _).other hne _).other hne _).other hne _
  · exact (((((((h1.bel.setCell hle _).setCell hle _).setCell hle _).setCell hle _).setCell hle _).setCell hle _).setCell hle _).setCell hle _

theorem isEmpty_no (s : ByteArray) (h : 0 < s.size) : s.toList.isEmpty = false := by
  rw [ByteArray.toList_eq]
  have : s.data.toList.length = s.size := by simp
  cases e : s.data.toList with
  | nil => rw [e] at this; simp at this; omega
  | cons a t => rfl
theorem isEmpty_yes (s : ByteArray) (h : s.size = 0) : s.toList.isEmpty = true := by
  rw [ByteArray.toList_eq]
  have : s.data.toList.length = s.size := by simp
  cases e : s.data.toList with
  | nil => rfl
  | cons a t => rw [e] at this; simp at this; omega

theorem getD_drop (l : List UInt8) (a j : Nat) : (l.drop a).getD j 0 = l.getD (a + j) 0 := by
  rw [List.getD_eq_getElem?_getD, List.getD_eq_getElem?_getD, List.getElem?_drop]

theorem mix_step (l : List UInt8) (q : Nat) (r : ByteArray) (hr : r.data.toList = l.drop (64 * q)) :
    mix kOf (runs l q) (fun i => wordAt (r.extract 0 64).data.toList (4 * i)) = runs l (q + 1) := by
  rw [runs]
  refine mix_congr (fun i hi => wordAt_congr (fun k hk => ?_))
  rw [Lib.extract_data, List.drop_zero, List.getD_eq_getElem?_getD, List.getElem?_take_of_lt (by omega), ← List.getD_eq_getElem?_getD, hr, getD_drop, Nat.add_assoc]

theorem list_ext_getD {l m : List UInt8} (hl : l.length = m.length) (h : ∀ j, j < m.length → l.getD j 0 = m.getD j 0) : l = m := by
  apply List.ext_getElem hl
  intro j h1 h2
  have := h j h2
  rwa [List.getD_eq_getElem?_getD, List.getD_eq_getElem?_getD, List.getElem?_eq_getElem h1, List.getElem?_eq_getElem h2] at this

theorem pad_call (s r : ByteArray) (l : List UInt8) (q : Nat) (hl : l = s.data.toList) (hq : 64 * q + r.size = s.size) (hr : r.data.toList = l.drop (64 * q)) (hlt : r.size < 64) (hs : s.size ≤ 140737488355328) :
    ∃ P : ByteArray, P.data.toList = (padded l).drop (64 * q) ∧ 64 * q + P.size = (padded l).length ∧
      ∀ wx, Calls Tryd.prog 9 #[.string r, .int .i64 s.size] wx fun e w' => e = .returned (.string P) ∧ Below wx.heap.size wx w' := by
  have h1 : s.data.toList.length = s.size := by simp
  have h2 : r.data.toList.length = r.size := by simp
  have hlen := padded_len l q r.size (by rw [hl, h1]; exact hq) hlt
  refine ⟨⟨((List.range (tailSize r.size)).map (padF r.data.toList s.size (tailSize r.size) 8)).toArray⟩, ?_, ?_, fun wx => padded_at r s.size (tailSize r.size) wx (by unfold tailSize; split <;> omega) hs (by unfold tailSize; split <;> omega)⟩
  · apply list_ext_getD
    · simp [hlen]
    · intro j hj
      have hj' : j < tailSize r.size := by simp [hlen] at hj; omega
      rw [getD_drop, padded_tail l q j r.data.toList (by rw [h2, hl, h1]; exact hq) (by omega) (fun i hi => by rw [hr, getD_drop]) (by rw [h2]; exact hj'), h2,
        show l.length = s.size by rw [hl, h1]]
      simp only [List.getD_eq_getElem?_getD, List.getElem?_map, List.getElem?_range hj']
      rfl
  · rw [hlen]; show 64 * q + (List.toArray _).size = _; rw [List.size_toArray, List.length_map, List.length_range]

set_option maxRecDepth 10000 in
set_option maxHeartbeats 400000 in
theorem hash_any (s : ByteArray) (w : World) (hs : s.size ≤ 140737488355328) (hC : CIs w) :
    Calls Tryd.prog 4 #[.string s] w fun e w' => e = .returned (.agg (bts (outB (runs (padded s.data.toList) ((padded s.data.toList).length / 64))) 32)) ∧ Below w.heap.size w w' := by
  obtain ⟨l, hl⟩ : ∃ l : List UInt8, l = s.data.toList := ⟨_, rfl⟩
  rw [← hl]
  have HL : Hid (l = s.data.toList) := hl
  clear hl
  have hp := hC.k.pos
  go_enter Tryd.func4, Tryd.ntmps4
  go_wp2_with (first | (go_at_call 7; go_must (refine (start_any _).mono ?_; rintro e w1 ⟨rfl, hb1⟩)) | (refine wpList_store_row rfl 30 _ _ rfl w1.heap.size (stc .u32 Go.Sha.start) rfl rfl 30 _ (RowIs.new w1 30 _) Tryd.size30 rfl (c8_one _ _ _ _ _ _ _ _ _) ?_; rw [World.setRow_alloc_new]; simp only [Act.put]))
  rw [zero32] at hb1
  obtain ⟨W, g, hWe, hge, hW0⟩ : ∃ (W : World) (g : Nat), W = w1.alloc (.cells (stc .u32 Go.Sha.start) 30) ∧ g = w1.heap.size ∧ HashW w g Go.Sha.start W := by
    refine ⟨_, _, rfl, rfl, RowIs.new _ _ _, ?_, ?_, ?_⟩
    · have := hb1.size; simp at this; omega
    · exact (RowIs.below hb1 (RowIs.new _ _ _) (by simp)).alloc _
    · exact (((Below.refl _ _).alloc (Nat.le_refl _) _).trans (hb1.mono (by simp))).alloc (by have := hb1.size; simp at this; omega) _
  rw [← hWe, ← hge]
  clear hWe hge hb1
  go_loopw [4] (fun r wr => ∃ (q : Nat) (r' : ByteArray), 64 * q + r'.size = s.size ∧ Hid (r'.data.toList = l.drop (64 * q)) ∧ r = .string r' ∧ HashW w g (runs l q) wr) (fun r _ => strLen r)
  case atStart =>
    refine ⟨0, s, by omega, ?_, rfl, hW0⟩
    show _ = _
    rw [HL.out]; simp
  case round =>
    obtain ⟨q, r, hq, hr, rfl, hW⟩ := hrel
    have hKr := hC.k.below hW.bel hp
    by_cases hlt : 64 ≤ r.size
    · obtain ⟨c0, c1, c2, c3, c4, c5, c6, c7⟩ := row8 hW.row
      have hmix : ∀ wx, KIs wx → Calls Tryd.prog 8 #[.agg (stc .u32 (runs l q)), .string (r.extract 0 64)] wx fun e w' => e = .returned (.agg (stc .u32 (runs l (q + 1)))) ∧ Below wx.heap.size wx w' := fun wx hk => by
        rw [← mix_step l q r hr.out]
        exact mix_any (runs l q) (r.extract 0 64) wx (by simp; omega) hk
      go_wp2
      go_region_with (go_at_call 8; refine (hmix wr.drew hKr).mono ?_; rintro e w1 ⟨rfl, hb1⟩; have hst1 : RowIs w1 g 30 (stc .u32 (runs l q)) := RowIs.below hb1 hW.row hW.row.lt; obtain ⟨d0, d1, d2, d3, d4, d5, d6, d7⟩ := row8 hst1; obtain ⟨f0, f1, f2, f3, f4, f5, f6, f7⟩ := free8 hst1)
      go_wp2
      go_roundw
      case rel =>
        refine ⟨q + 1, r.extract 64 r.size, by simp; omega, ?_, rfl, ?_⟩
        · show _ = _
          rw [Lib.extract_to_end, hr.out, List.drop_drop]; rfl
        · exact hW.step hb1 (runs l (q + 1))
      case measure => simp [strLen]; omega
    · obtain ⟨P, hP, hPs, hpad⟩ := pad_call s r l q HL.out hq hr.out (by omega) hs
      have HP : Hid (P.data.toList = (padded l).drop (64 * q)) := hP
      clear hP
      go_wp2_with (go_at_call 9; go_must (refine (hpad _).mono ?_; rintro e w1 ⟨rfl, hb1⟩))
      have hW1 : HashW w g (runs (padded l) q) w1 := by
        rw [← runs_congr (l := l) q (fun j hj => (padded_front l j (by rw [HL.out]; simp; omega)).symm)]
        exact hW.after hb1
      have hmod := padded_mod l
      clear hW hb1 hKr hpad hr hlt hq
      go_loopw [5] (fun x wr => ∃ (q : Nat) (P : ByteArray), 64 * q + P.size = (padded l).length ∧ Hid (P.data.toList = (padded l).drop (64 * q)) ∧ x = .string P ∧ HashW w g (runs (padded l) q) wr) (fun x _ => strLen x)
      case atStart => exact ⟨q, P, hPs, HP, rfl, hW1⟩
      case round =>
        clear HP hPs hW1
        obtain ⟨q', P', hq, hr, rfl, hW⟩ := hrel
        have hKr := hC.k.below hW.bel hp
        by_cases hlt : 64 ≤ P'.size
        · have hne : P'.toList.isEmpty = false := isEmpty_no P' (by omega)
          obtain ⟨c0, c1, c2, c3, c4, c5, c6, c7⟩ := row8 hW.row
          have hmix : ∀ wx, KIs wx → Calls Tryd.prog 8 #[.agg (stc .u32 (runs (padded l) q')), .string (P'.extract 0 64)] wx fun e w' => e = .returned (.agg (stc .u32 (runs (padded l) (q' + 1)))) ∧ Below wx.heap.size wx w' := fun wx hk => by
            rw [← mix_step (padded l) q' P' hr.out]
            exact mix_any (runs (padded l) q') (P'.extract 0 64) wx (by simp; omega) hk
          go_wp2
          go_region_with (go_at_call 8; refine (hmix wr.drew hKr).mono ?_; rintro e w1 ⟨rfl, hb1⟩; have hst1 : RowIs w1 g 30 (stc .u32 (runs (padded l) q')) := RowIs.below hb1 hW.row hW.row.lt; obtain ⟨d0, d1, d2, d3, d4, d5, d6, d7⟩ := row8 hst1; obtain ⟨f0, f1, f2, f3, f4, f5, f6, f7⟩ := free8 hst1)
          all_goals
            go_wp2
            go_roundw
            case rel =>
              refine ⟨q' + 1, P'.extract 64 P'.size, by simp; omega, ?_, rfl, ?_⟩
              · show _ = _
                rw [Lib.extract_to_end, hr.out, List.drop_drop]; rfl
              · exact hW.step hb1 (runs (padded l) (q' + 1))
            case measure => simp [strLen]; omega
        · have hz : P'.size = 0 := by omega
          have he : P'.toList.isEmpty = true := isEmpty_yes P' hz
          have hqq : q' = (padded l).length / 64 := by omega
          obtain ⟨c0, c1, c2, c3, c4, c5, c6, c7⟩ := row8 hW.row
          have hsum := fun wx => sumOf_any (runs (padded l) q') wx
          have HQ : Hid (q' = (padded l).length / 64) := hqq
          clear hqq hq hr hlt hz hmod
          go_wp2_with (first | (go_at_call 10; go_must (refine (hsum _).mono ?_; rintro e w2 ⟨rfl, hb2⟩)) | (refine wpList_store_row rfl 23 _ _ rfl w.heap.size (bts (outB (runs (padded l) q')) 32) rfl rfl 23 _ (hW.after hb2).res (by rw [bts_size]; exact Tryd.size23) (by simp) (bts_one _ _) ?_))
          refine bodyPost_ret (v := .agg (bts (outB (runs (padded l) q')) 32)) ?_ rfl ⟨by rw [← HQ.out], below_row (hW.after hb2).bel (Nat.le_refl _) _⟩
          exact results_cell_row rfl _ _ w.heap.size 23 _ (0, 0) _ rfl ((hW.after hb2).res.setRow _) Tryd.underlying23 rfl (by rw [bts_size]; exact Tryd.size23)

end Go.Proofs.YtpmolmoggdjjnaaDoor
