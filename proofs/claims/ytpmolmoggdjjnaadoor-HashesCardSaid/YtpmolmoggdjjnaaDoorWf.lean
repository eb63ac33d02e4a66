import Derived.Test.YtpmolmoggdjjnaaDoorWe
import Derived.Lib.BufferWrite
namespace Go.Proofs.YtpmolmoggdjjnaaDoor
open Go.RowKit
open Go.Sha

theorem copy_cells (f : Nat → UInt8) (n : Nat) (s : ByteArray) (hs : s.size ≤ n) :
    ((bts f n).toList.take 0 ++ Lib.byteCells s.data.toList ++ (bts f n).toList.drop (0 + s.size)).toArray = bts (fun j => if j < s.size then s.data.toList.getD j 0 else f j) n := by
  apply Array.ext_getElem?
  intro j
  have hl : (Lib.byteCells s.data.toList).length = s.size := by rw [Lib.byteCells_length, ← Lib.size_eq]
  rw [List.getElem?_toArray, List.take_zero, List.nil_append, Nat.zero_add]
  by_cases hj : j < n
  · rw [bts_get (fun j => if j < s.size then s.data.toList.getD j 0 else f j) n j hj]
    by_cases h : j < s.size
    · rw [List.getElem?_append_left (by omega), if_pos h]
      unfold Lib.byteCells
      have h' : j < s.data.toList.length := by simpa using h
      rw [List.getElem?_map, List.getElem?_eq_getElem h', List.getD_eq_getElem?_getD, List.getElem?_eq_getElem h']
      rfl
    · rw [List.getElem?_append_right (by omega), hl, List.getElem?_drop, show s.size + (j - s.size) = j by omega, if_neg h, Array.getElem?_toList, bts_get f n j hj]
  · have h2 : (bts (fun j => if j < s.size then s.data.toList.getD j 0 else f j) n)[j]? = none := by simp; omega
    rw [h2, List.getElem?_eq_none]
    simp [hl]; omega

theorem wpList_copy_str {P : Program} {w : World} {ops : Array Oper} {rest : List Oper} {o : Oper} {a : Act} {Q : Exit → Act → World → Prop} (hgd : o.guard = none) (d x : Operand) (dT sT : TypeId)
    (ho : o.op = .call { callee := .builtin .copy, args := #[d, x], argTypes := #[dT, sT] }) (elem : TypeId) (hu : P.underlying dT = some (.slice elem)) (hsz : (P.info? elem).map (·.size) = some 1)
    (g n : Nat) (s : ByteArray) (hd : a.eval d = .slice (some ⟨g, 0, none⟩) n n) (hx : a.eval x = .string s)
    (f : Nat → UInt8) (t : TypeId) (hg : RowIs w g t (bts f n)) (hle : s.size ≤ n)
    (B : Nat) (w0 : World) (hb : Below B w0 w) (hBg : B ≤ g)
    (h : ∀ w', RowIs w' g t (bts (fun j => if j < s.size then s.data.toList.getD j 0 else f j) n) → Below B w0 w' → wpList P ops Q rest (a.put o.dst (goInt s.size)) w') :
    wpList P ops Q (o :: rest) a w := by
  refine wpList_plain hgd fun K hK => ?_
  have hrun := Lib.run_copy_row_string (P := P) w dT sT o.type elem g 0 n n s (bts f n) t hu hsz hg hle (by rw [bts_size]; omega)
  rw [copy_cells f n s hle] at hrun
  have hr := hg.setRow (bts (fun j => if j < s.size then s.data.toList.getD j 0 else f j) n)
  generalize bts (fun j => if j < s.size then s.data.toList.getD j 0 else f j) n = C at hrun hr h
  unfold Oper.wp
  simp [execOp, ho, resolve, invoke, builtin, hd, hx, hrun, Result.andThen]
  exact hK _ _ (h _ hr (below_row hb hBg _))

/-- What 'padded' has laid behind k rounds. -/
def padF (l : List UInt8) (n size k j : Nat) : UInt8 :=
  if j < l.length then l.getD j 0 else if j = l.length then 128 else if size - k ≤ j then UInt8.ofNat (8 * n / 256 ^ (size - 1 - j)) else 0

theorem pad_start (s : ByteArray) (n size : Nat) :
    (bts (fun j => if j < s.size then s.data.toList.getD j 0 else 0) size).setIfInBounds s.size (.int .u8 128) = bts (padF s.data.toList n size 0) size := by
  have := bts_set (fun j => if j < s.size then s.data.toList.getD j 0 else 0) size s.size 128
  rw [show ((128 : UInt8).toNat : Int) = 128 from rfl] at this
  rw [this]
  apply bts_congr
  intro j hj
  have hl : s.data.toList.length = s.size := by simp
  unfold padF
  rw [hl]
  by_cases h1 : j < s.size
  · rw [if_neg (by omega), if_pos h1, if_pos h1]
  · by_cases h2 : j = s.size
    · rw [if_pos h2, if_neg h1, if_pos h2]
    · rw [if_neg h2, if_neg h1, if_neg h1, if_neg h2, if_neg (by omega)]

theorem pad_val (n k : Nat) : (n : Int) * 8 / 2 ^ (8 * k) % 256 = ((UInt8.ofNat (8 * n / 256 ^ k)).toNat : Int) := by
  rw [UInt8.toNat_ofNat', show (2 : Int) ^ (8 * k) = ((256 ^ k : Nat) : Int) by rw [Int.pow_mul]; simp, show (n : Int) * 8 = ((8 * n : Nat) : Int) by omega]
  simp only [← Int.natCast_ediv, Nat.reducePow]
  omega

theorem pad_step (s : ByteArray) (n size k : Nat) (hs : s.size + 9 ≤ size) (hk : k < 8) :
    (bts (padF s.data.toList n size k) size).setIfInBounds (size - 1 - k) (.int .u8 ((n : Int) * 8 / 2 ^ (8 * k) % 256)) = bts (padF s.data.toList n size (k + 1)) size := by
  rw [pad_val, bts_set]
  apply bts_congr
  intro j hj
  have hl : s.data.toList.length = s.size := by simp
  unfold padF
  rw [hl]
  by_cases h0 : j = size - 1 - k
  · rw [if_pos h0, if_neg (by omega), if_neg (by omega), if_pos (by omega), show size - 1 - j = k by omega]
  · rw [if_neg h0]
    by_cases h1 : j < s.size
    · rw [if_pos h1, if_pos h1]
    · by_cases h2 : j = s.size
      · rw [if_neg h1, if_neg h1, if_pos h2, if_pos h2]
      · rw [if_neg h1, if_neg h1, if_neg h2, if_neg h2]
        by_cases h3 : size - k ≤ j
        · rw [if_pos h3, if_pos (by omega)]
        · rw [if_neg h3, if_neg (by omega)]

theorem Tryd.size5 : (Tryd.prog.info? 5).map (·.size) = some 1 := by kernel_rfl

set_option maxRecDepth 10000 in
set_option maxHeartbeats 400000 in
theorem padded_at (s : ByteArray) (n size : Nat) (w : World) (hs : s.size + 9 ≤ size) (hn : n ≤ 140737488355328) (hsz : (size = 64) ∨ (size = 128 ∧ 64 < s.size + 9)) :
    Calls Tryd.prog 9 #[.string s, .int .i64 n] w fun e w' => e = .returned (.string ⟨((List.range size).map (padF s.data.toList n size 8)).toArray⟩) ∧ Below w.heap.size w w' := by
  obtain ⟨i0, hi, hz0, hz1, hz2⟩ := info_parts Tryd.infoB
  rcases hsz with rfl | ⟨rfl, hbig⟩
  · have hb1 : ¬ ((64 : Int) < (s.size : Int) + 1 + 8) := by omega
    go_enter Tryd.func9, Tryd.ntmps9
    go_wp2_with (first | (at_make; go_must (refine wpList_make_full _ rfl _ _ 35 rfl w.heap.size 5 i0 (.int .u8 0) 1 Tryd.underlying35 hi hz0 hz1 .i64 .i64 _ _ 64 rfl rfl rfl rfl (by rw [hz2]; omega) (by unfold maxLen; omega) (Nat.le_refl _) ?_; intro w1 hown hgrow)) | (refine wpList_copy_str rfl _ _ 35 9 rfl 5 Tryd.underlying35 Tryd.size5 w.heap.size 64 s rfl rfl (fun _ => 0) 5 ((made_row hown rfl).eq (bts_zero _)) (by omega) w.heap.size w ((Below.refl w.heap.size w).grown hgrow (Nat.le_refl _) (by intro k hk; cases hk)) (Nat.le_refl _) ?_; intro w2 hrow hbel; have hcc : w2.cell? ⟨w.heap.size, s.size, none⟩ = some (.int .u8 0) := (by rw [hrow.cell, bts_get _ _ _ (by omega), if_neg (by omega)]; rfl); have hff : w2.frozen? ⟨w.heap.size, s.size, none⟩ = false := hrow.frozen _))
    have hrow2 : RowIs (w2.setCell ⟨w.heap.size, s.size, none⟩ (.int .u8 128)) w.heap.size 5 (bts (padF s.data.toList n 64 0) 64) :=
      (hrow.set s.size _).eq (pad_start s n 64)
    have hbel2 := hbel.setCell (p := ⟨w.heap.size, s.size, none⟩) (Nat.le_refl _) (.int .u8 128)
    clear hrow hcc hff hown hgrow hi hz0 hz1 hz2
    go_loopw [26] (fun i wr => ∃ k : Nat, k ≤ 8 ∧ i = .int .i64 k ∧ RowIs wr w.heap.size 5 (bts (padF s.data.toList n 64 k) 64) ∧ Below w.heap.size w wr) (fun i _ => 8 - (intOf i).toNat)
    case atStart => exact ⟨0, by omega, rfl, hrow2, hbel2⟩
    case round =>
      clear hrow2 hbel2 hbel
      obtain ⟨k, hk, rfl, hrow, hbel⟩ := hrel
      by_cases hlt : k < 8
      · have hcc : wr.cell? ⟨w.heap.size, 63 - k, none⟩ = some (.int .u8 ((padF s.data.toList n 64 k (63 - k)).toNat : Int)) := by rw [hrow.cell, bts_get _ _ _ (by omega)]
        have hff : wr.frozen? ⟨w.heap.size, 63 - k, none⟩ = false := hrow.frozen _
        go_wp2
        go_roundw
        case rel =>
          refine ⟨k + 1, by omega, by go_num, ?_, hbel.setCell (Nat.le_refl _) _⟩
          exact (hrow.set _ _).eq (pad_step s n 64 k hs hlt)
        case measure => simp [intOf]; omega
      · have e : k = 8 := by omega
        subst e
        have hcv := conv_row (P := Tryd.prog) hrow 35 9 64 Tryd.underlying35 Tryd.underlying5 Tryd.underlying9
        go_wp2
        go_ret
        exact ⟨rfl, hbel⟩
  · have hb1 : (64 : Int) < (s.size : Int) + 1 + 8 := by omega
    go_enter Tryd.func9, Tryd.ntmps9
    go_wp2_with (first | (at_make; go_must (refine wpList_make_full _ rfl _ _ 35 rfl w.heap.size 5 i0 (.int .u8 0) 1 Tryd.underlying35 hi hz0 hz1 .i64 .i64 _ _ 128 rfl rfl rfl rfl (by rw [hz2]; omega) (by unfold maxLen; omega) (Nat.le_refl _) ?_; intro w1 hown hgrow)) | (refine wpList_copy_str rfl _ _ 35 9 rfl 5 Tryd.underlying35 Tryd.size5 w.heap.size 128 s rfl rfl (fun _ => 0) 5 ((made_row hown rfl).eq (bts_zero _)) (by omega) w.heap.size w ((Below.refl w.heap.size w).grown hgrow (Nat.le_refl _) (by intro k hk; cases hk)) (Nat.le_refl _) ?_; intro w2 hrow hbel; have hcc : w2.cell? ⟨w.heap.size, s.size, none⟩ = some (.int .u8 0) := (by rw [hrow.cell, bts_get _ _ _ (by omega), if_neg (by omega)]; rfl); have hff : w2.frozen? ⟨w.heap.size, s.size, none⟩ = false := hrow.frozen _))
    have hrow2 : RowIs (w2.setCell ⟨w.heap.size, s.size, none⟩ (.int .u8 128)) w.heap.size 5 (bts (padF s.data.toList n 128 0) 128) :=
      (hrow.set s.size _).eq (pad_start s n 128)
    have hbel2 := hbel.setCell (p := ⟨w.heap.size, s.size, none⟩) (Nat.le_refl _) (.int .u8 128)
    clear hrow hcc hff hown hgrow hi hz0 hz1 hz2
    go_loopw [26] (fun i wr => ∃ k : Nat, k ≤ 8 ∧ i = .int .i64 k ∧ RowIs wr w.heap.size 5 (bts (padF s.data.toList n 128 k) 128) ∧ Below w.heap.size w wr) (fun i _ => 8 - (intOf i).toNat)
    case atStart => exact ⟨0, by omega, rfl, hrow2, hbel2⟩
    case round =>
      clear hrow2 hbel2 hbel
      obtain ⟨k, hk, rfl, hrow, hbel⟩ := hrel
      by_cases hlt : k < 8
      · have hcc : wr.cell? ⟨w.heap.size, 127 - k, none⟩ = some (.int .u8 ((padF s.data.toList n 128 k (127 - k)).toNat : Int)) := by rw [hrow.cell, bts_get _ _ _ (by omega)]
        have hff : wr.frozen? ⟨w.heap.size, 127 - k, none⟩ = false := hrow.frozen _
        go_wp2
        go_roundw
        case rel =>
          refine ⟨k + 1, by omega, by go_num, ?_, hbel.setCell (Nat.le_refl _) _⟩
          exact (hrow.set _ _).eq (pad_step s n 128 k hs hlt)
        case measure => simp [intOf]; omega
      · have e : k = 8 := by omega
        subst e
        have hcv := conv_row (P := Tryd.prog) hrow 35 9 128 Tryd.underlying35 Tryd.underlying5 Tryd.underlying9
        go_wp2
        go_ret
        exact ⟨rfl, hbel⟩

end Go.Proofs.YtpmolmoggdjjnaaDoor
