import Derived.Test.YtpmolmoggdjjnaaDoorWi
namespace Go.Proofs.YtpmolmoggdjjnaaDoor
open Go.RowKit
open Go.Sha

/-- The reference's first state. -/
def FIs (w : World) : Prop := ∀ i, i < 8 → w.cell? ⟨0, i, none⟩ = some (.int .i64 (V (Go.Sha.start.get i)))
theorem FIs.pos {w : World} (h : FIs w) : 0 < w.heap.size := block_lt_of_cell (h 0 (by decide))
theorem FIs.below {w w' : World} {B : Nat} (h : FIs w) (hb : Below B w w') (hB : 0 < B) : FIs w' := fun i hi => (hb.cell (p := ⟨0, i, none⟩) hB).trans (h i hi)

theorem app_data (a b : ByteArray) : (a ++ b).data.toList = a.data.toList ++ b.data.toList := by simp
theorem app_size (a b : ByteArray) : (a ++ b).size = a.size + b.size := by simp
theorem sz (l : List UInt8) : (ByteArray.mk l.toArray).size = l.length := by simp [ByteArray.size]
theorem sz1 (x : UInt8) : (ByteArray.mk #[x]).size = 1 := rfl

theorem bytes8 (n : Nat) : ∃ B : ByteArray, B.size = 8 ∧ B.data.toList = be (8 * n) 8 ∧ ∀ w, Calls Tryd.prog 11 #[.int .i64 (8 * (n : Int)), .int .i64 8] w fun e w' => e = .returned (.string B) ∧ Below w.heap.size w w' := by
  refine ⟨⟨(be (8 * n) 8).toArray⟩, by rw [sz, be_length], rfl, fun w => ?_⟩
  have := bytes_any (8 * n) 8 w (by decide)
  rwa [show ((8 * n : Nat) : Int) = 8 * (n : Int) by omega] at this

/-- The first k words of a state, in cells. -/
def wl (st : St) (k : Nat) : List Value := (List.range k).map fun j => .int .i64 (V (st.get j))
theorem wl_succ (st : St) (k : Nat) : wl st (k + 1) = wl st k ++ [.int .i64 (V (st.get k))] := by simp [wl, List.range_succ]

theorem at8_own {w : World} {base e : Nat} {v : Value} {st : St} (h : w.ownsRow base e 1 v 8 (wl st 8)) : ∃ g c, v = .slice (some ⟨g, 0, none⟩) 8 c ∧ At8 w g st := by
  have h' := h
  obtain ⟨_, h2⟩ := h
  rcases h2 with ⟨_, h0⟩ | ⟨g, cap, cur, rfl, _, _, _, _, _, _⟩
  · omega
  · exact ⟨g, cap, rfl, fun i hi => by rw [h'.cellAt i (by omega)]; simp [wl, hi]⟩

theorem block_at (M : ByteArray) (l : List UInt8) (q : Nat) (hM : M.data.toList = padded l) (hq : 64 * q + 64 ≤ M.size) (w : World) (g c : Nat) (hR : RIs w) (h8 : At8 w g (runs (padded l) q)) :
    Calls Tryd.prog 12 #[.slice (some ⟨g, 0, none⟩) 8 c, .string (M.extract (64 * q) (64 * q + 64))] w fun e w' => ∃ g' c', e = .returned (.slice (some ⟨g', 0, none⟩) 8 c') ∧ At8 w' g' (runs (padded l) (q + 1)) ∧ Below w.heap.size w w' := by
  have h := block_any (runs (padded l) q) g c (M.extract (64 * q) (64 * q + 64)) w (by simp; omega) hR h8
  rw [show mix kOf (runs (padded l) q) (fun i => wordAt (M.extract (64 * q) (64 * q + 64)).data.toList (4 * i)) = runs (padded l) (q + 1) from by
    rw [runs]
    refine mix_congr (fun i hi => wordAt_congr (fun k hk => ?_))
    rw [Lib.extract_data, List.getD_eq_getElem?_getD, List.getElem?_take_of_lt (by omega), ← List.getD_eq_getElem?_getD, getD_drop, hM, Nat.add_assoc]] at h
  exact h

theorem wordBytes_be (x : Wd) : be x.toNat 4 = wordBytes x := rfl
theorem bytes4 (x : Wd) : ∃ B : ByteArray, B.size = 4 ∧ B.data.toList = wordBytes x ∧ ∀ w, Calls Tryd.prog 11 #[.int .i64 (V x), .int .i64 4] w fun e w' => e = .returned (.string B) ∧ Below w.heap.size w w' := by
  refine ⟨⟨(be x.toNat 4).toArray⟩, by rw [sz, be_length], rfl, fun w => ?_⟩
  exact bytes_any x.toNat 4 w (by decide)

/-- The first k words of a sum, as bytes. -/
def outL (st : St) (k : Nat) : List UInt8 := (List.range (4 * k)).map (outB st)
theorem outL_succ (st : St) (k : Nat) : outL st (k + 1) = outL st k ++ wordBytes (st.get k) := by
  unfold outL
  rw [show 4 * (k + 1) = 4 * k + 1 + 1 + 1 + 1 by omega, List.range_succ, List.range_succ, List.range_succ, List.range_succ]
  simp only [List.map_append, List.map_cons, List.map_nil, List.append_assoc, List.cons_append, List.nil_append]
  congr 1
  unfold outB wordBytes
  rw [show 4 * k / 4 = k by omega, show 4 * k % 4 = 0 by omega, show (4 * k + 1) / 4 = k by omega, show (4 * k + 1) % 4 = 1 by omega, show (4 * k + 1 + 1) / 4 = k by omega, show (4 * k + 1 + 1) % 4 = 2 by omega,
    show (4 * k + 1 + 1 + 1) / 4 = k by omega, show (4 * k + 1 + 1 + 1) % 4 = 3 by omega]

set_option maxRecDepth 10000 in
set_option maxHeartbeats 1000000 in
theorem refHash_any (d : ByteArray) (w : World) (hd : d.size ≤ 140737488351232) (hF : FIs w) (hR : RIs w) :
    Calls Tryd.prog 6 #[.string d] w fun e w' => e = .returned (.string ⟨(sha d.data.toList).toArray⟩) ∧ Below w.heap.size w w' := by
  obtain ⟨i0, hi, hz0, hz1, hz2⟩ := info_parts Tryd.infoI
  obtain ⟨l, hl⟩ : ∃ l : List UInt8, l = d.data.toList := ⟨_, rfl⟩
  rw [← hl]
  have HL : Hid (l = d.data.toList) := hl
  clear hl
  go_enter Tryd.func6, Tryd.ntmps6
  go_wp2
  go_loop [3] (fun x => ∃ (m : Nat) (p : ByteArray), m ≤ gap d.size ∧ p.size ≤ d.size + 65 ∧ Hid (p.size = d.size + 1 + m) ∧ Hid (p.data.toList = l ++ [128] ++ List.replicate m 0) ∧ x = .string p) (fun x => d.size + 65 - strLen x)
  case atStart => exact ⟨0, d ++ ⟨#[128]⟩, Nat.zero_le _, by rw [app_size, sz1]; omega, by show _ = _; rw [app_size, sz1], by show _ = _; rw [app_data, HL.out, List.replicate_zero, List.append_nil], rfl⟩
  case round =>
    obtain ⟨m, p, hm, hle, hsz, hp, rfl⟩ := hrel
    by_cases hlt : m < gap d.size
    · have h56 : ¬ ((p.size : Int) % 64 = 56) := by have := hsz.out; unfold gap at hlt; omega
      go_wp2
      go_round
      case rel =>
        have hs0 := hsz.out
        have hg : gap d.size < 64 := by unfold gap; omega
        refine ⟨m + 1, p ++ ⟨#[0]⟩, by omega, by rw [app_size, sz1]; omega, ?_, ?_, rfl⟩
        · show _ = _
          rw [app_size, sz1]; omega
        · show _ = _
          rw [app_data, hp.out, List.replicate_succ']; simp
      case measure =>
        have hs0 := hsz.out
        have hg : gap d.size < 64 := by unfold gap; omega
        simp only [strLen]; rw [app_size, sz1]; omega
    · have h56 : (p.size : Int) % 64 = 56 := by have := hsz.out; unfold gap at hlt hm; omega
      obtain ⟨B, hB8, hB, hby⟩ := bytes8 d.size
      have HB : Hid (B.data.toList = be (8 * d.size) 8) := hB
      clear hB
      go_wp2_with (go_at_call 11; go_must (refine (hby _).mono ?_; rintro e w1 ⟨rfl, hb1⟩))
      have hmg : m = gap d.size := by omega
      have hM : (p ++ B).data.toList = padded l := by
        have hdl : l.length = d.size := by rw [HL.out]; simp
        rw [app_data, hp.out, HB.out, hmg]; unfold padded; rw [hdl]
      have hMs : (p ++ B).size = (padded l).length := by rw [← hM]; simp
      have hMb : (p ++ B).size ≤ d.size + 73 := by rw [app_size]; omega
      obtain ⟨M, hMe⟩ : ∃ M, M = p ++ B := ⟨_, rfl⟩
      rw [← hMe] at hM hMs hMb ⊢
      have HM : Hid (M.data.toList = padded l) := hM
      have HMs : Hid (M.size = (padded l).length) := hMs
      clear hMe hM hMs hmg hp hsz h56 hB8 hby hlt hm hle
      go_loopw [4, 5] (fun v i wr => ∃ k : Nat, k ≤ 8 ∧ i = .int .i64 k ∧ wr.ownsRow w.heap.size 3 1 v k (wl Go.Sha.start k) ∧ Below w.heap.size w wr) (fun _ i _ => 8 - (intOf i).toNat)
      case atStart => exact ⟨0, by omega, rfl, World.ownsRow_nil _ _ _ _, hb1⟩
      case round =>
        clear hb1
        obtain ⟨k, hk, rfl, hown, hbel⟩ := hrel
        have hsz := hbel.size
        by_cases hlt : k < 8
        · have hc : wr.cell? ⟨0, k, none⟩ = some (.int .i64 (V (Go.Sha.start.get k))) := (hF.below hbel hF.pos) k hlt
          go_wp2_with (at_builtin; go_must (refine wpList_append_own _ rfl _ _ 37 rfl w.heap.size 3 i0 (.int .i64 0) 1 8 Tryd.underlying37 hi hz0 hz1 hz2 rfl (by decide) _ _ _ rfl (hown.alloc _) ⟨wr.heap.size, 0, none⟩ 1 1 [.int .i64 (V (Go.Sha.start.get k))] rfl rfl ?c1 ?c2 ?c3 ?c4 ?c5 ?_))
          case c1 => exact (cell_one_new _ _ _)
          case c2 => intro u hu; simp at hu; subst hu; rfl
          case c3 => unfold maxLen; omega
          case c4 => omega
          case c5 => simp; omega
          · intro v' w2 hown' hgrow _
            have hb1 := (Below.refl w.heap.size _).grown hgrow (by simp; omega) (fun k hk => (hown.lt k hk).1)
            have hbel1 := (hbel.alloc (by omega) _).trans hb1
            rw [← wl_succ] at hown'
            clear hb1 hbel hown hgrow hc
            go_wp2
            go_roundw
            case rel => exact ⟨k + 1, by omega, by go_num, hown', hbel1⟩
            case measure => simp [intOf]; omega
        · have e : k = 8 := by omega
          subst e
          obtain ⟨gh, ch, rfl, h8⟩ := at8_own hown
          clear hown hi hz0 hz1 hz2
          have hmod : M.size % 64 = 0 := by rw [HMs.out]; exact padded_mod l
          go_wp2
          go_loopw [4, 6] (fun v i wr => ∃ q g c : Nat, 64 * q ≤ M.size ∧ i = .int .i64 (64 * (q : Int)) ∧ v = .slice (some ⟨g, 0, none⟩) 8 c ∧ At8 wr g (runs (padded l) q) ∧ Below w.heap.size w wr) (fun _ i _ => M.size - (intOf i).toNat)
          case atStart => exact ⟨0, gh, ch, by omega, rfl, rfl, h8, hbel⟩
          case round =>
            clear h8 hbel hsz
            obtain ⟨q, g, c, hq, rfl, rfl, h8, hbel⟩ := hrel
            by_cases hlt : 64 * q < M.size
            · have hblk := block_at M l q HM.out (by omega) wr g c (hR.below hbel hR.pos) h8
              go_wp2_with (go_at_call 12; go_must (refine hblk.mono ?_; rintro e w2 ⟨g', c', rfl, h8', hb2⟩))
              go_roundw
              case rel =>
                (repeat apply Exists.intro)
                exact ⟨⟨q + 1, g', c', by omega, by go_num, rfl, h8', hbel.trans (hb2.mono hbel.size)⟩, rfl⟩
              case measure => simp [intOf]; omega
            · have hqq : q = (padded l).length / 64 := by have := HMs.out; omega
              have HQ : Hid (q = (padded l).length / 64) := hqq
              clear hqq hmod HMs hMb
              go_wp2
              go_loopw [7, 8] (fun x i wr => ∃ (k : Nat) (o : ByteArray), k ≤ 8 ∧ i = .int .i64 k ∧ o.size = 4 * k ∧ Hid (o.data.toList = outL (runs (padded l) q) k) ∧ x = .string o ∧ At8 wr g (runs (padded l) q) ∧ Below w.heap.size w wr) (fun _ i _ => 8 - (intOf i).toNat)
              case atStart => exact ⟨0, ⟨#[]⟩, by omega, rfl, rfl, rfl, rfl, h8, hbel⟩
              case round =>
                clear h8 hbel
                obtain ⟨k, o, hk, rfl, hos, ho, rfl, h8, hbel⟩ := hrel
                by_cases hlt : k < 8
                · have hc : wr.cell? ⟨g, k, none⟩ = some (.int .i64 (V ((runs (padded l) q).get k))) := h8 k hlt
                  obtain ⟨B4, hB4, hB, hby⟩ := bytes4 ((runs (padded l) q).get k)
                  have HB4 : Hid (B4.data.toList = wordBytes ((runs (padded l) q).get k)) := hB
                  clear hB
                  go_wp2_with (go_at_call 11; go_must (refine (hby _).mono ?_; rintro e w3 ⟨rfl, hb3⟩))
                  go_roundw
                  case rel =>
                    (repeat apply Exists.intro)
                    refine ⟨⟨k + 1, o ++ B4, by omega, by go_num, by rw [app_size]; omega, ?_, rfl, h8.below hb3 h8.lt, hbel.trans (hb3.mono hbel.size)⟩, rfl⟩
                    show _ = _
                    rw [app_data, ho.out, HB4.out, outL_succ]
                  case measure => simp [intOf]; omega
                · have e : k = 8 := by omega
                  subst e
                  go_wp2
                  go_ret
                  refine ⟨?_, hbel⟩
                  have : o = ⟨(sha l).toArray⟩ := by
                    apply ByteArray.ext
                    apply Array.toList_inj.1
                    rw [ho.out, HQ.out]; rfl
                  rw [this]; rfl

end Go.Proofs.YtpmolmoggdjjnaaDoor
