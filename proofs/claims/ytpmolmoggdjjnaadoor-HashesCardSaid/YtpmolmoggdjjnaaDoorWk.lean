import Derived.Test.YtpmolmoggdjjnaaDoorWj
namespace Go.Proofs.YtpmolmoggdjjnaaDoor
open Go.RowKit
open Go.Sha

set_option maxRecDepth 10000 in
set_option maxHeartbeats 400000 in
theorem hashes_any (s : ByteArray) (w : World) (hs : s.size ≤ 140737488351232) (hC : CIs w) (hF : FIs w) (hR : RIs w) :
    Calls Tryd.prog 3 #[.string s] w fun e w' => e = .returned (.bool true) ∧ Below w.heap.size w w' := by
  obtain ⟨f, hf⟩ : ∃ f : Nat → UInt8, f = outB (runs (padded s.data.toList) ((padded s.data.toList).length / 64)) := ⟨_, rfl⟩
  have hp := hR.pos
  have h4 : Calls Tryd.prog 4 #[.string s] w fun e w' => e = .returned (.agg (bts f 32)) ∧ Below w.heap.size w w' := by
    rw [hf]; exact hash_any s w (by omega) hC
  obtain ⟨T, h5, h6⟩ : ∃ T : ByteArray, (∀ wx, Calls Tryd.prog 5 #[.agg (bts f 32)] wx fun e w' => e = .returned (.string T) ∧ Below wx.heap.size wx w') ∧
      (∀ wx, FIs wx → RIs wx → Calls Tryd.prog 6 #[.string s] wx fun e w' => e = .returned (.string T) ∧ Below wx.heap.size wx w') :=
    ⟨⟨(sha s.data.toList).toArray⟩, fun wx => by
      have := text_any f wx
      rw [hf] at this ⊢
      exact this, fun wx h1 h2 => refHash_any s wx hs h1 h2⟩
  clear hf
  go_enter Tryd.func3, Tryd.ntmps3
  go_wp2_with (first | (go_at_call 4; go_must (refine h4.mono ?_; rintro e w1 ⟨rfl, hb1⟩)) | (refine wpList_store_row rfl 23 _ _ rfl w1.heap.size (bts f 32) rfl rfl 23 _ (RowIs.new w1 23 _) (by rw [bts_size]; exact Tryd.size23) (by rw [bts_size]; rfl) (bts_one _ _) ?_; rw [World.setRow_alloc_new]; simp only [Act.put]) | (refine wpList_load_row rfl 23 _ rfl w1.heap.size rfl 23 (bts f 32) (0, 0) _ (RowIs.new w1 23 (bts f 32)) Tryd.underlying23 rfl (by rw [bts_size]; exact Tryd.size23) ?_) | (go_at_call 5; go_must (refine (h5 _).mono ?_; rintro e w2 ⟨rfl, hb2⟩)))
  have hbA : Below w.heap.size w w2 := (hb1.alloc hb1.size _).trans (hb2.mono (by have := hb1.size; simp; omega))
  refine (h6 _ (hF.below hbA (by omega)) (hR.below hbA hp)).mono ?_
  rintro e w3 ⟨rfl, hb3⟩
  go_wp2
  go_ret
  exact ⟨rfl, hbA.trans (hb3.mono hbA.size)⟩

end Go.Proofs.YtpmolmoggdjjnaaDoor
