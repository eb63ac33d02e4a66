import Derived.Test.YtpmolmoggdjjnaaDoorWk
import Derived.Test.YtpmolmoggdjjnaaDoorCards
import Derived.Test.YtpmolmoggdjjnaaDoorTie
import Derived.ProofKit
import Derived.OpenShut
import Derived.Deep.DeepHandedRow
import Derived.Lib.LaidTab
import Derived.Stop.LaidErr
namespace Go.Proofs.YtpmolmoggdjjnaaDoor
open Go.ChangeShapes Go.WideShapes Go.ChangeAt Go.RowKit
open Go.ChangeMaps (open_string shut_string)
open Go.Sha

theorem hOwn : ownKnob Tryd.prog.godebug = none := by kernel_rfl
theorem gC : Tryd.prog.globalNamed "tally/tally.roundConstants" = some 1 := by kernel_rfl
theorem gCType : (Tryd.prog.globals[1]?).map (·.type) = some 40 := by kernel_rfl
theorem gF : Tryd.prog.globalNamed "tally/tallyref.first" = some 0 := by kernel_rfl
theorem gFType : (Tryd.prog.globals[0]?).map (·.type) = some 38 := by kernel_rfl
theorem gR : Tryd.prog.globalNamed "tally/tallyref.round" = some 2 := by kernel_rfl
theorem gRType : (Tryd.prog.globals[2]?).map (·.type) = some 47 := by kernel_rfl
theorem cells3' : Tryd.prog.cellsOf 3 = 1 := by kernel_rfl
theorem cells28' : Tryd.prog.cellsOf 28 = 1 := by kernel_rfl
theorem cells30' : Tryd.prog.cellsOf 30 = 8 := by kernel_rfl
theorem cells40' : Tryd.prog.cellsOf 40 = 64 := by kernel_rfl
theorem cells38' : Tryd.prog.cellsOf 38 = 8 := by kernel_rfl
theorem cells47' : Tryd.prog.cellsOf 47 = 64 := by kernel_rfl

def kInts : List Int := [1116352408, 1899447441, 3049323471, 3921009573, 961987163, 1508970993, 2453635748, 2870763221, 3624381080, 310598401, 607225278, 1426881987, 1925078388, 2162078206, 2614888103, 3248222580, 3835390401, 4022224774, 264347078, 604807628, 770255983, 1249150122, 1555081692, 1996064986, 2554220882, 2821834349, 2952996808, 3210313671, 3336571891, 3584528711, 113926993, 338241895, 666307205, 773529912, 1294757372, 1396182291, 1695183700, 1986661051, 2177026350, 2456956037, 2730485921, 2820302411, 3259730800, 3345764771, 3516065817, 3600352804, 4094571909, 275423344, 430227734, 506948616, 659060556, 883997877, 958139571, 1322822218, 1537002063, 1747873779, 1955562222, 2024104815, 2227730452, 2361852424, 2428436474, 2756734187, 3204031479, 3329325298]
def sInts : List Int := [1779033703, 3144134277, 1013904242, 2773480762, 1359893119, 2600822924, 528734635, 1541459225]

theorem k_val (i : Nat) (hi : i < 64) : kInts.getD i 0 = V (kOf i) := by
  have h : ∀ j : Fin 64, kInts.getD j.val 0 = V (kOf j.val) := by decide +kernel
  exact h ⟨i, hi⟩
theorem s_val (i : Nat) (hi : i < 8) : sInts.getD i 0 = V (Go.Sha.start.get i) := by
  have h : ∀ j : Fin 8, sInts.getD j.val 0 = V (Go.Sha.start.get j.val) := by decide +kernel
  exact h ⟨i, hi⟩

theorem laid_tail {P : Program} {x : String × DataW Unit} {rest : List (String × DataW Unit)} {W : World} (h : laidMet P (x :: rest) W) : laidMet P rest W := laidMet.tail h

theorem constantsOf {W : World} (h : laidMetH Tryd.prog Rows.hashesRow.laid W) : CIs W := ⟨fun i hi => by
  have h' : laidMet Tryd.prog [("tally/tallyref.round", Rows.laid_tally_tallyref_round), ("tally/tallyref.first", Rows.laid_tally_tallyref_first), ("tally/tally.roundConstants", Lib.tabData .u32 kInts)] W := h
  have t := Lib.tabIs_of_head gC gCType Tryd.underlying40 Tryd.underlying28 cells28' cells40' (laid_tail (laid_tail h'))
  rw [t.cell gC i hi, k_val i hi]⟩
theorem roundOf {W : World} (h : laidMetH Tryd.prog Rows.hashesRow.laid W) : RIs W := fun i hi => by
  have h' : laidMet Tryd.prog [("tally/tallyref.round", Lib.tabData .i64 kInts), ("tally/tallyref.first", Rows.laid_tally_tallyref_first), ("tally/tally.roundConstants", Rows.laid_tally_tally_roundConstants)] W := h
  have t := Lib.tabIs_of_head gR gRType Tryd.underlying47 Tryd.underlying3 cells3' cells47' h'
  rw [t.cell gR i hi, k_val i hi]
theorem firstOf {W : World} (h : laidMetH Tryd.prog Rows.hashesRow.laid W) : FIs W := fun i hi => by
  have h' : laidMet Tryd.prog [("tally/tallyref.round", Rows.laid_tally_tallyref_round), ("tally/tallyref.first", Lib.tabData .i64 sInts), ("tally/tally.roundConstants", Rows.laid_tally_tally_roundConstants)] W := h
  have t := Lib.tabIs_of_head gF gFType Tryd.underlying38 Tryd.underlying3 cells3' cells38' (laid_tail h')
  rw [t.cell gF i hi, s_val i hi]

/-- WHAT THE WALK GIVES, FOR EVERY TEXT AND EVERY WORLD THAT HOLDS THE TABLES. -/
theorem contract (H : Type) (enc : TypeId × Value → H) (W : World) (base : Nat) (args : Array Value) (ds gs : List (DataW H)) (before : List MemPlace)
    (hval : ∀ (j : Nat) t v, Tryd.f3.params[j]? = some t → args[j]? = some v → Value.okWide Tryd.prog W .any base t v)
    (hW : DataW.Whole enc Tryd.prog Tryd.f3.params.toList Rows.hashesSpec.vars false W args.toList ds gs before)
    (hsz0 : (DataW.weightsEach Tryd.prog (Tryd.f3.params.toList ++ (OpenSpec.ofChange Rows.hashesSpec).bare.plain.varTypes Tryd.prog) (ds ++ gs)).all (· ≤ reachBytes) = true)
    (hL : laidMetH Tryd.prog Rows.hashesRow.laid W) :
    Calls Tryd.prog 3 args W fun e W' => ∃ v, e = .returned v ∧ Rows.hashesSpec.post enc Tryd.prog Tryd.f3 false true false false W args v W' := by
  have hW' := hW
  obtain ⟨p, q, hA0, hV, rfl, hfz, hnd⟩ := hW
  have hA : DataW.TrodAll enc Tryd.prog W 0 (fun _ => true) true Tryd.f3.params.toList args.toList ds p := hA0
  have hsz : (DataW.weightsEach Tryd.prog Tryd.f3.params.toList (ds ++ gs)).all (· ≤ reachBytes) = true := hsz0
  rw [Tryd.params3] at hA hval hsz
  obtain ⟨v0, vs0, d0, ds0, p0, q0, hargs, rfl, rfl, h0, r0⟩ := trodAll_cons hA
  obtain ⟨rfl, rfl, rfl⟩ := trodAll_nil r0
  obtain rfl : args = #[v0] := by cases args; simp_all
  obtain ⟨rfl, rfl⟩ := trodVars_none hV
  obtain ⟨s, rfl, rfl, rfl, hs⟩ := open_string Tryd.underlying9 (hval 0 9 v0 rfl rfl) h0
  have hlen := sized_string hsz (j := 0) (t := 9) rfl rfl
  have hsl : s.size ≤ 140737488351232 := by
    have e : s.data.toList.length = s.size := by simp
    rw [e] at hlen; exact hlen
  clear hA0
  simp only [List.append_nil] at hW'
  refine (hashes_any s W hsl (constantsOf hL) (firstOf hL) (roundOf hL)).mono fun e W' ⟨he, hb⟩ => ?_
  subst he
  refine ⟨_, rfl, _, _, _, [], [], [], hW', ?_, ?_, ?_, hb.frame _, fun h => by cases h⟩
  · exact trodAll_cons_mk (shut_bool Tryd.underlying4 _) trodAll_mk0
  · exact trodAll_cons_mk (shut_string Tryd.underlying9 hs) trodAll_mk0
  · rfl

end Go.Proofs.YtpmolmoggdjjnaaDoor
