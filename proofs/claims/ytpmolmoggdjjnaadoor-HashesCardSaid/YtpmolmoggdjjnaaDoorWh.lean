import Derived.Test.YtpmolmoggdjjnaaDoorWg
namespace Go.Proofs.YtpmolmoggdjjnaaDoor
open Go.RowKit
open Go.Sha

/-- The first k bytes, in cells. -/
def bl (f : Nat → UInt8) (k : Nat) : List Value := (List.range k).map fun j => .int .u8 ((f j).toNat : Int)
theorem bl_succ (f : Nat → UInt8) (k : Nat) : bl f (k + 1) = bl f k ++ [.int .u8 ((f k).toNat : Int)] := by simp [bl, List.range_succ]
theorem bl_len (f : Nat → UInt8) (k : Nat) : (bl f k).length = k := by simp [bl]

theorem conv_own {P : Program} {w : World} {base e : Nat} {v : Value} {f : Nat → UInt8} {n : Nat} (h : w.ownsRow base e 1 v n (bl f n)) (hn : 0 < n) (src dst : TypeId)
    (hs : P.underlying src = some (.slice e)) (he : P.underlying e = some (.int .u8)) (hd : P.underlying dst = some .string) :
    ∃ g cap, v = .slice (some ⟨g, 0, none⟩) n cap ∧ (convert src dst (.slice (some ⟨g, 0, none⟩) n cap)).run P w = .ok (.string ⟨((List.range n).map f).toArray⟩) w := by
  have h' := h
  obtain ⟨_, h2⟩ := h
  rcases h2 with ⟨_, h0⟩ | ⟨g, cap, cur, rfl, _, _, _, _, _, _⟩
  · omega
  · refine ⟨g, cap, rfl, ?_⟩
    have := run_convert_bytes_back (P := P) w src dst e ⟨g, 0, none⟩ cap ((List.range n).map f) hs he hd (fun j hj => by
      have hj' : j < n := by simpa using hj
      rw [Addr.add_mid, Nat.zero_add, h'.cellAt j (by omega)]
      simp [bl, hj'])
    simpa using this

set_option maxRecDepth 10000 in
set_option maxHeartbeats 400000 in
theorem text_any (f : Nat → UInt8) (w : World) :
    Calls Tryd.prog 5 #[.agg (bts f 32)] w fun e w' => e = .returned (.string ⟨((List.range 32).map f).toArray⟩) ∧ Below w.heap.size w w' := by
  obtain ⟨i0, hi, hz0, hz1, hz2⟩ := info_parts Tryd.infoB
  go_enter Tryd.func5, Tryd.ntmps5
  go_wp2
  go_loopw [3, 4] (fun v i wr => ∃ k : Nat, k ≤ 32 ∧ i = .int .i64 k ∧ wr.ownsRow (w.heap.size + 1) 5 1 v k (bl f k) ∧ RowIs wr w.heap.size 23 (bts f 32) ∧ Below w.heap.size w wr ∧ w.heap.size + 1 ≤ wr.heap.size) (fun _ i _ => 32 - (intOf i).toNat)
  case atStart => exact ⟨0, by omega, rfl, World.ownsRow_nil _ _ _ _, RowIs.new _ _ _, (Below.refl _ _).alloc (Nat.le_refl _) _, by simp⟩
  case round =>
    obtain ⟨k, hk, rfl, hown, hrow, hbel, hsz⟩ := hrel
    by_cases hlt : k < 32
    · have hc : wr.cell? ⟨w.heap.size, k, none⟩ = some (.int .u8 ((f k).toNat : Int)) := by rw [hrow.cell, bts_get _ _ _ hlt]
      go_wp2_with (at_builtin; go_must (refine wpList_append_own _ rfl _ _ 35 rfl (w.heap.size + 1) 5 i0 (.int .u8 0) 1 1 Tryd.underlying35 hi hz0 hz1 hz2 rfl (by decide) _ _ _ rfl (hown.alloc _) ⟨wr.heap.size, 0, none⟩ 1 1 [.int .u8 ((f k).toNat : Int)] rfl rfl ?c1 ?c2 ?c3 ?c4 ?c5 ?_))
      case c1 => exact (cell_one_new _ _ _)
      case c2 => intro u hu; simp at hu; subst hu; rfl
      case c3 => unfold maxLen; omega
      case c4 => omega
      case c5 => simp; omega
      · intro v' w1 hown' hgrow _
        have hb1 := (Below.refl (w.heap.size + 1) _).grown hgrow (by simp; omega) (fun k hk => (hown.lt k hk).1)
        have hrow1 := RowIs.below hb1 (hrow.alloc _) (by omega)
        have hbel1 := (hbel.alloc (by omega) _).trans (hb1.mono (by omega))
        have hsz1 : w.heap.size + 1 ≤ w1.heap.size := by have := hb1.size; simp at this; omega
        rw [← bl_succ] at hown'
        clear hb1 hrow hbel hown hgrow hc
        go_wp2
        go_roundw
        case rel => exact ⟨k + 1, by omega, by go_num, hown', hrow1, hbel1, hsz1⟩
        case measure => simp [intOf]; omega
    · have e : k = 32 := by omega
      subst e
      obtain ⟨g, cap, rfl, hcv⟩ := conv_own (P := Tryd.prog) hown (by decide) 35 9 Tryd.underlying35 Tryd.underlying5 Tryd.underlying9
      go_wp2
      go_ret
      exact ⟨rfl, hbel⟩

end Go.Proofs.YtpmolmoggdjjnaaDoor
