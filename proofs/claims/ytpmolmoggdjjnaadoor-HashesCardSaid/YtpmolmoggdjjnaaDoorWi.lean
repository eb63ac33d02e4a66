import Derived.Test.YtpmolmoggdjjnaaDoorWh
namespace Go.Proofs.YtpmolmoggdjjnaaDoor
open Go.RowKit
open Go.Sha

/-- The reference's constants of the rounds. -/
def RIs (w : World) : Prop := ∀ i, i < 64 → w.cell? ⟨2, i, none⟩ = some (.int .i64 (V (kOf i)))
theorem RIs.pos {w : World} (h : RIs w) : 2 < w.heap.size := block_lt_of_cell (h 0 (by decide))
theorem RIs.below {w w' : World} {B : Nat} (h : RIs w) (hb : Below B w w') (hB : 2 < B) : RIs w' := fun i hi => (hb.cell (p := ⟨2, i, none⟩) hB).trans (h i hi)

/-- A state in the first eight cells of a block. -/
def At8 (w : World) (g : Nat) (st : St) : Prop := ∀ i, i < 8 → w.cell? ⟨g, i, none⟩ = some (.int .i64 (V (st.get i)))
theorem At8.lt {w : World} {g : Nat} {st : St} (h : At8 w g st) : g < w.heap.size := block_lt_of_cell (h 0 (by decide))
theorem At8.below {w w' : World} {B g : Nat} {st : St} (h : At8 w g st) (hb : Below B w w') (hB : g < B) : At8 w' g st := fun i hi => (hb.cell (p := ⟨g, i, none⟩) hB).trans (h i hi)

theorem number_at (s : ByteArray) (k : Nat) (w : World) (hs : s.size = 64) (hk : k < 16) :
    Calls Tryd.prog 15 #[.string (s.extract (4 * k) (4 * k + 4))] w fun e w' => e = .returned (.int .i64 (V (wordAt s.data.toList (4 * k)))) ∧ w' = w := by
  have h := number_any (s.extract (4 * k) (4 * k + 4)) w (by simp; omega)
  rw [show wordAt (s.extract (4 * k) (4 * k + 4)).data.toList 0 = wordAt s.data.toList (4 * k) from wordAt_congr (fun i hi => by
    rw [Lib.extract_data, Nat.zero_add, List.getD_eq_getElem?_getD, List.getElem?_take_of_lt (by omega), ← List.getD_eq_getElem?_getD, getD_drop])] at h
  exact h

theorem turn_at (x : Wd) (m : Int) (w : World) (h0 : 0 < m) (h1 : m < 32) :
    Calls Tryd.prog 16 #[.int .i64 (V x), .int .i64 m] w fun e w' => e = .returned (.int .i64 (V (rotr x m.toNat))) ∧ ∃ n, w' = w.drewN n := by
  have := turn_any x m.toNat w (by omega) (by omega)
  rwa [show ((m.toNat : Nat) : Int) = m by omega] at this

theorem spread_val64 (p q r t : Wd) : bits .and .i64 (wrap64 (wrap64 (wrap64 (V p + bits .xor .i64 (bits .xor .i64 (V (rotr q 7)) (V (rotr q 18))) (V q / 8)) + V r) + bits .xor .i64 (bits .xor .i64 (V (rotr t 17)) (V (rotr t 19))) (V t / 1024))) 4294967295 = V (p + sg0 q + r + sg1 t) := by
  rw [div8, div1024, xor_i64, xor_i64, xor_i64, xor_i64, mask_i64, ofInt_wrap64, ofInt_add, ofInt_wrap64, ofInt_add, ofInt_wrap64, ofInt_add, ofInt_V, ofInt_V, ofInt_V, ofInt_V]; rfl

theorem get8 (k : IntKind) (st : St) : wds k (upTo st.get 8) 8 = stc k st := by
  have : wds k (upTo st.get 8) 8 = wds k st.get 8 := wds_congr (fun j hj => by unfold upTo; rw [if_pos hj])
  rw [this]; rfl
/-- Eight cells, one by one. -/
theorem row8k {w : World} {k : IntKind} {g : Nat} {t : TypeId} {st : St} (h : RowIs w g t (stc k st)) :
    w.cell? ⟨g, 0, none⟩ = some (.int k (V st.a)) ∧ w.cell? ⟨g, 1, none⟩ = some (.int k (V st.b)) ∧ w.cell? ⟨g, 2, none⟩ = some (.int k (V st.c)) ∧ w.cell? ⟨g, 3, none⟩ = some (.int k (V st.d)) ∧
    w.cell? ⟨g, 4, none⟩ = some (.int k (V st.e)) ∧ w.cell? ⟨g, 5, none⟩ = some (.int k (V st.f)) ∧ w.cell? ⟨g, 6, none⟩ = some (.int k (V st.g)) ∧ w.cell? ⟨g, 7, none⟩ = some (.int k (V st.h)) :=
  ⟨(h.cell 0).trans rfl, (h.cell 1).trans rfl, (h.cell 2).trans rfl, (h.cell 3).trans rfl, (h.cell 4).trans rfl, (h.cell 5).trans rfl, (h.cell 6).trans rfl, (h.cell 7).trans rfl⟩

theorem one64 (t : St) (k x : Wd) : BitVec.ofInt 32 (wrap64 (wrap64 (wrap64 (wrap64 (V t.h + bits .xor .i64 (bits .xor .i64 (V (rotr t.e 6)) (V (rotr t.e 11))) (V (rotr t.e 25))) +
    bits .xor .i64 (bits .and .i64 (V t.e) (V t.f)) (bits .and .i64 (wrap64 (4294967295 - V t.e)) (V t.g))) + V k) + V x)) = t1 t k x := by
  have e : wrap64 (4294967295 - V t.e) = V (~~~ t.e) := by
    rw [not_u32]
    have h0 := V_nonneg (~~~ t.e)
    have h1 := V_lt (~~~ t.e)
    unfold wrap64; omega
  rw [e, xor_i64, xor_i64, and_i64, and_i64, xor_i64, ofInt_wrap64, ofInt_add, ofInt_wrap64, ofInt_add, ofInt_wrap64, ofInt_add, ofInt_wrap64, ofInt_add, ofInt_V, ofInt_V, ofInt_V, ofInt_V, ofInt_V]; rfl
theorem two64 (t : St) : BitVec.ofInt 32 (wrap64 (bits .xor .i64 (bits .xor .i64 (V (rotr t.a 2)) (V (rotr t.a 13))) (V (rotr t.a 22)) +
    bits .xor .i64 (bits .xor .i64 (bits .and .i64 (V t.a) (V t.b)) (bits .and .i64 (V t.a) (V t.c))) (bits .and .i64 (V t.b) (V t.c)))) = t2 t := by
  rw [xor_i64, xor_i64, and_i64, and_i64, and_i64, xor_i64, xor_i64, ofInt_wrap64, ofInt_add, ofInt_V, ofInt_V]; rfl

/-- The sums up to k, the state behind. -/
def sumTo (st t : St) (k j : Nat) : Wd := if j < k then (st.add t).get j else t.get j
theorem add_get (st t : St) (k : Nat) (hk : k < 8) : t.get k + st.get k = (st.add t).get k := by
  have h : k = 0 ∨ k = 1 ∨ k = 2 ∨ k = 3 ∨ k = 4 ∨ k = 5 ∨ k = 6 ∨ k = 7 := by omega
  rcases h with rfl | rfl | rfl | rfl | rfl | rfl | rfl | rfl <;> exact BitVec.add_comm _ _
theorem sumTo_step (st t : St) (k j : Nat) (hk : k < 8) : (if j = k then t.get k + st.get k else sumTo st t k j) = sumTo st t (k + 1) j := by
  unfold sumTo
  by_cases e : j = k
  · subst e; rw [if_pos rfl, if_pos (by omega), add_get st t j hk]
  · by_cases h : j < k
    · rw [if_neg e, if_pos h, if_pos (by omega)]
    · rw [if_neg e, if_neg h, if_neg (by omega)]

theorem wds_row_step {w : World} {g : Nat} {t : TypeId} {k : IntKind} {f : Nat → Wd} {n i : Nat} (h : RowIs w g t (wds k (upTo f i) n)) : RowIs (w.setCell ⟨g, i, none⟩ (.int k (V (f i)))) g t (wds k (upTo f (i + 1)) n) :=
  (h.set i _).eq (by rw [wds_set]; exact wds_congr (fun j _ => upTo_step f i j))

set_option maxRecDepth 10000 in
set_option maxHeartbeats 2000000 in
theorem block_any (st : St) (g c : Nat) (s : ByteArray) (w : World) (hs : s.size = 64) (hR : RIs w) (hh : At8 w g st) :
    Calls Tryd.prog 12 #[.slice (some ⟨g, 0, none⟩) 8 c, .string s] w fun e w' => ∃ g' c', e = .returned (.slice (some ⟨g', 0, none⟩) 8 c') ∧ At8 w' g' (mix kOf st (fun i => wordAt s.data.toList (4 * i))) ∧ Below w.heap.size w w' := by
  obtain ⟨i0, hi, hz0, hz1, hz2⟩ := info_parts Tryd.infoI
  obtain ⟨b, hb⟩ : ∃ b : Nat → Wd, b = fun i => wordAt s.data.toList (4 * i) := ⟨_, rfl⟩
  have hN : ∀ k w, k < 16 → Calls Tryd.prog 15 #[.string (s.extract (4 * k) (4 * k + 4))] w fun e w' => e = .returned (.int .i64 (V (b k))) ∧ w' = w := by
    subst hb; exact fun k w hk => number_at s k w hs hk
  rw [← hb]
  clear hb
  have hp := hR.pos
  have hg := hh.lt
  go_enter Tryd.func12, Tryd.ntmps12
  go_wp2_with (at_make; go_must (refine wpList_make_full _ rfl _ _ 37 rfl w.heap.size 3 i0 (.int .i64 0) 1 Tryd.underlying37 hi hz0 hz1 .i64 .i64 _ _ 64 rfl rfl rfl rfl (by rw [hz2]; omega) (by unfold maxLen; omega) (Nat.le_refl _) ?_; intro w1 hown hgrow))
  have hrow1 := (made_row hown rfl).eq (wds_zero _ _)
  have hbel1 := (Below.refl w.heap.size w).grown hgrow (Nat.le_refl _) (by intro k hk; cases hk)
  clear hown hgrow
  go_loopw [6] (fun i wr => ∃ k : Nat, k ≤ 16 ∧ i = .int .i64 k ∧ RowIs wr w.heap.size 3 (wds .i64 (upTo b k) 64) ∧ Below w.heap.size w wr) (fun i _ => 16 - (intOf i).toNat)
  case atStart => exact ⟨0, by omega, rfl, hrow1.eq (wds_congr (fun j _ => by simp [upTo])), hbel1⟩
  case round =>
    clear hrow1 hbel1
    obtain ⟨k, hk, rfl, hrow, hbel⟩ := hrel
    by_cases hlt : k < 16
    · have hc : wr.cell? ⟨w.heap.size, k, none⟩ = some (.int .i64 (V (upTo b k k))) := by rw [hrow.cell, wds_get _ _ _ _ (by omega)]
      have hf : wr.frozen? ⟨w.heap.size, k, none⟩ = false := hrow.frozen _
      have hn := fun w => hN k w hlt
      go_wp2_with (go_at_call 15; go_must (refine (hn _).mono ?_; rintro e w' ⟨rfl, rfl⟩))
      go_roundw
      case rel => exact ⟨k + 1, by omega, by go_num, wds_row_step hrow, hbel.setCell (Nat.le_refl _) _⟩
      case measure => simp [intOf]; omega
    · have e : k = 16 := by omega
      subst e
      have hrow' := hrow.eq (wds_congr (fun j _ => upTo_16 b j))
      clear hrow
      go_wp2
      go_loopw [7] (fun i wr => ∃ k : Nat, 16 ≤ k ∧ k ≤ 64 ∧ i = .int .i64 k ∧ RowIs wr w.heap.size 3 (wds .i64 (upTo (spread b) k) 64) ∧ Below w.heap.size w wr) (fun i _ => 64 - (intOf i).toNat)
      case atStart => exact ⟨16, by omega, by omega, rfl, hrow', hbel⟩
      case round =>
        clear hrow' hbel
        rename_i wr0 _ _ _
        obtain ⟨k, hk0, hk, rfl, hrow, hbel⟩ := hrel
        by_cases hlt : k < 64
        · have c15 : wr.cell? ⟨w.heap.size, k - 15, none⟩ = some (.int .i64 (V (spread b (k - 15)))) := by rw [hrow.cell, wds_get _ _ _ _ (by omega), upTo, if_pos (by omega)]
          go_wp2
          go_quiet ((go_at_call 16; exact Calls.quiet_of (turn_at _ _ _ (by decide) (by decide))))
          go_wp2
          obtain ⟨wq, hwq, hrow, hbel⟩ : ∃ wq, wq = wr.drewN nq ∧ RowIs wq w.heap.size 3 (wds .i64 (upTo (spread b) k) 64) ∧ Below w.heap.size w wq := ⟨_, rfl, hrow.drewN _, hbel.trans (bel_drewN _ _ _)⟩
          rw [← hwq]
          clear hwq c15
          have c2 : wq.cell? ⟨w.heap.size, k - 2, none⟩ = some (.int .i64 (V (spread b (k - 2)))) := by rw [hrow.cell, wds_get _ _ _ _ (by omega), upTo, if_pos (by omega)]
          go_quiet ((go_at_call 16; exact Calls.quiet_of (turn_at _ _ _ (by decide) (by decide))))
          go_wp2
          obtain ⟨wp, hwp, hrow, hbel⟩ : ∃ wp, wp = wq.drewN nq ∧ RowIs wp w.heap.size 3 (wds .i64 (upTo (spread b) k) 64) ∧ Below w.heap.size w wp := ⟨_, rfl, hrow.drewN _, hbel.trans (bel_drewN _ _ _)⟩
          rw [← hwp]
          clear hwp c2
          have c16 : wp.cell? ⟨w.heap.size, k - 16, none⟩ = some (.int .i64 (V (spread b (k - 16)))) := by rw [hrow.cell, wds_get _ _ _ _ (by omega), upTo, if_pos (by omega)]
          have c7 : wp.cell? ⟨w.heap.size, k - 7, none⟩ = some (.int .i64 (V (spread b (k - 7)))) := by rw [hrow.cell, wds_get _ _ _ _ (by omega), upTo, if_pos (by omega)]
          have c0 : wp.cell? ⟨w.heap.size, k, none⟩ = some (.int .i64 (V (upTo (spread b) k k))) := by rw [hrow.cell, wds_get _ _ _ _ (by omega)]
          have hf : wp.frozen? ⟨w.heap.size, k, none⟩ = false := hrow.frozen _
          go_region
          go_wp2
          go_roundw
          case rel =>
            refine ⟨k + 1, by omega, by omega, by go_num, ?_, (hbel.setCell (Nat.le_refl _) _).drew⟩
            rw [spread_val64, ← spread_hi b k hk0]
            exact (wds_row_step hrow).drew
          case measure => simp [intOf]; omega
        · have e : k = 64 := by omega
          subst e
          have hrow' := hrow.eq (wds_congr (g := spread b) (fun j hj => by unfold upTo; rw [if_pos hj]))
          clear hrow
          go_wp2_with (at_make; go_must (refine wpList_make_full _ rfl _ _ 37 rfl wr.heap.size 3 i0 (.int .i64 0) 1 Tryd.underlying37 hi hz0 hz1 .i64 .i64 _ _ 8 rfl rfl rfl rfl (by rw [hz2]; omega) (by unfold maxLen; omega) (Nat.le_refl _) ?_; intro w2 hown hgrow))
          have hrow2 := (made_row hown rfl).eq (wds_zero _ _)
          have hbel2 := (Below.refl wr.heap.size wr).grown hgrow (Nat.le_refl _) (by intro k hk; cases hk)
          have hrow'' := RowIs.below hbel2 hrow' hrow'.lt
          have hgv : w.heap.size < wr.heap.size := hrow'.lt
          have hbel3 := hbel.trans (hbel2.mono (by omega))
          clear hown hgrow hbel2 hrow' hbel hi hz0 hz1 hz2 hN
          obtain ⟨gv, hgw⟩ : ∃ gv, gv = wr.heap.size := ⟨_, rfl⟩
          rw [← hgw] at hrow2 hgv ⊢
          clear hgw
          go_loopw [11] (fun i wr => ∃ k : Nat, k ≤ 8 ∧ i = .int .i64 k ∧ RowIs wr gv 3 (wds .i64 (upTo st.get k) 8) ∧ RowIs wr w.heap.size 3 (wds .i64 (spread b) 64) ∧ Below w.heap.size w wr) (fun i _ => 8 - (intOf i).toNat)
          case atStart => exact ⟨0, by omega, rfl, hrow2.eq (wds_congr (fun j _ => by simp [upTo])), hrow'', hbel3⟩
          case round =>
            clear hrow2 hrow'' hbel3
            obtain ⟨k, hk, rfl, hrow, hws, hbel⟩ := hrel
            by_cases hlt : k < 8
            · have hc : wr.cell? ⟨gv, k, none⟩ = some (.int .i64 (V (upTo st.get k k))) := by rw [hrow.cell, wds_get _ _ _ _ (by omega)]
              have hf : wr.frozen? ⟨gv, k, none⟩ = false := hrow.frozen _
              have hhc : wr.cell? ⟨g, k, none⟩ = some (.int .i64 (V (st.get k))) := (hh.below hbel hg) k hlt
              go_wp2
              go_roundw
              case rel => exact ⟨k + 1, by omega, by go_num, wds_row_step hrow, hws.other (by simp; omega) _, hbel.setCell (by simp; omega) _⟩
              case measure => simp [intOf]; omega
            · have e : k = 8 := by omega
              subst e
              have hrow' : RowIs wr gv 3 (stc .i64 st) := hrow.eq (get8 .i64 st)
              clear hrow
              go_wp2
              go_loopw [10, 12] (fun v i wr => ∃ (k gv' : Nat) (t : St), k ≤ 64 ∧ Hid (t = rounds kOf (spread b) st k) ∧ i = .int .i64 k ∧ v = .slice (some ⟨gv', 0, none⟩) 8 8 ∧ RowIs wr gv' 3 (stc .i64 t) ∧ w.heap.size < gv' ∧ RowIs wr w.heap.size 3 (wds .i64 (spread b) 64) ∧ Below w.heap.size w wr) (fun _ i _ => 64 - (intOf i).toNat)
              case atStart => exact ⟨0, gv, st, by omega, rfl, rfl, rfl, hrow', hgv, hws, hbel⟩
              case round =>
                clear hrow' hws hbel hgv
                obtain ⟨k, gv', t, hk, HT, rfl, rfl, hrow, hgv, hws, hbel⟩ := hrel
                by_cases hlt : k < 64
                · obtain ⟨c0, c1, c2, c3, c4, c5, c6, c7⟩ := row8k hrow
                  have hr2 : wr.cell? ⟨2, k, none⟩ = some (.int .i64 (V (kOf k))) := (hR.below hbel hp) k hlt
                  have hwk : wr.cell? ⟨w.heap.size, k, none⟩ = some (.int .i64 (V (spread b k))) := by rw [hws.cell, wds_get _ _ _ _ hlt]
                  go_wp2
                  go_quiet ((go_at_call 16; exact Calls.quiet_of (turn_at _ _ _ (by decide) (by decide))))
                  go_wp2
                  obtain ⟨wq, hwq, hrow, hws, hbel⟩ : ∃ wq, wq = wr.drewN nq ∧ RowIs wq gv' 3 (stc .i64 t) ∧ RowIs wq w.heap.size 3 (wds .i64 (spread b) 64) ∧ Below w.heap.size w wq := ⟨_, rfl, hrow.drewN _, hws.drewN _, hbel.trans (bel_drewN _ _ _)⟩
                  rw [← hwq]
                  clear hwq c0 c1 c2 c3 c4 c5 c6 c7 hr2 hwk
                  obtain ⟨c0, c1, c2, c3, c4, c5, c6, c7⟩ := row8k hrow
                  go_quiet ((go_at_call 16; exact Calls.quiet_of (turn_at _ _ _ (by decide) (by decide))))
                  go_wp2
                  obtain ⟨wp, hwp, hrow, hws, hbel⟩ : ∃ wp, wp = wq.drewN nq ∧ RowIs wp gv' 3 (stc .i64 t) ∧ RowIs wp w.heap.size 3 (wds .i64 (spread b) 64) ∧ Below w.heap.size w wp := ⟨_, rfl, hrow.drewN _, hws.drewN _, hbel.trans (bel_drewN _ _ _)⟩
                  rw [← hwp]
                  clear hwp c0 c1 c2 c3 c4 c5 c6 c7
                  obtain ⟨c0, c1, c2, c3, c4, c5, c6, c7⟩ := row8k hrow
                  go_region
                  go_wp2
                  go_roundw
                  case rel =>
                    refine ⟨k + 1, wp.heap.size, round t (kOf k) (spread b k), by omega, ?_, by go_num, rfl, ?_, hrow.lt |> Nat.lt_trans hgv, (hws.alloc _).drew, (hbel.alloc (by have := hrow.lt; omega) _).drew⟩
                    · show _ = _
                      rw [HT.out]; rfl
                    · refine (RowIs.new _ _ _).drew.eq ?_
                      rw [mask_i64, ofInt_wrap64, ofInt_add, one64, two64, mask_i64, ofInt_wrap64, ofInt_add, ofInt_V, one64]
                      rfl
                  case measure => simp [intOf]; omega
                · have e : k = 64 := by omega
                  subst e
                  have hrow' : RowIs wr gv' 3 (wds .i64 (sumTo st t 0) 8) := hrow.eq (by rw [← get8]; exact wds_congr (fun j hj => by simp [sumTo, upTo]; omega))
                  clear hrow hws
                  go_wp2
                  go_loopw [17] (fun i wr => ∃ k : Nat, k ≤ 8 ∧ i = .int .i64 k ∧ RowIs wr gv' 3 (wds .i64 (sumTo st t k) 8) ∧ Below w.heap.size w wr) (fun i _ => 8 - (intOf i).toNat)
                  case atStart => exact ⟨0, by omega, rfl, hrow', hbel⟩
                  case round =>
                    clear hrow' hbel
                    obtain ⟨k, hk, rfl, hrow, hbel⟩ := hrel
                    by_cases hlt : k < 8
                    · have hc : wr.cell? ⟨gv', k, none⟩ = some (.int .i64 (V (t.get k))) := by rw [hrow.cell, wds_get _ _ _ _ (by omega), sumTo, if_neg (by omega)]
                      have hf : wr.frozen? ⟨gv', k, none⟩ = false := hrow.frozen _
                      have hhc : wr.cell? ⟨g, k, none⟩ = some (.int .i64 (V (st.get k))) := (hh.below hbel hg) k hlt
                      go_wp2
                      go_region
                      go_wp2
                      go_roundw
                      case rel =>
                        refine ⟨k + 1, by omega, by go_num, ?_, (hbel.setCell (by simp; omega) _).drew⟩
                        rw [mask_i64, ofInt_wrap64, ofInt_add, ofInt_V, ofInt_V]
                        refine ((hrow.set _ _).eq ?_).drew
                        rw [wds_set]
                        exact wds_congr (fun j hj => sumTo_step st t k j hlt)
                      case measure => simp [intOf]; omega
                    · have e : k = 8 := by omega
                      subst e
                      have hfin : At8 wr gv' (mix kOf st b) := fun i hi => by
                        rw [hrow.cell, wds_get _ _ _ _ hi, sumTo, if_pos hi, HT.out]; rfl
                      go_wp2
                      go_ret
                      exact ⟨gv', 8, rfl, hfin, hbel⟩

end Go.Proofs.YtpmolmoggdjjnaaDoor
