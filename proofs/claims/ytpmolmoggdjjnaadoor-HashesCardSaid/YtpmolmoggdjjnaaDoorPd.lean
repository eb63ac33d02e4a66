import Derived.Test.YtpmolmoggdjjnaaDoorWf
namespace Go.Proofs.YtpmolmoggdjjnaaDoor
open Go.RowKit
open Go.Sha

theorem spread_congr {b c : Nat → Wd} (h : ∀ i, i < 16 → b i = c i) (i : Nat) : spread b i = spread c i := by
  induction i using Nat.strongRecOn with
  | ind i ih =>
    by_cases hi : i < 16
    · rw [spread_lo b i hi, spread_lo c i hi, h i hi]
    · rw [spread_hi b i (by omega), spread_hi c i (by omega), ih _ (by omega), ih (i - 15) (by omega), ih (i - 7) (by omega), ih (i - 2) (by omega)]

theorem mix_congr {K b c : Nat → Wd} {s : St} (h : ∀ i, i < 16 → b i = c i) : mix K s b = mix K s c := by
  unfold mix; rw [show spread b = spread c from funext (spread_congr h)]

theorem wordAt_congr {l m : List UInt8} {p q : Nat} (h : ∀ i, i < 4 → l.getD (p + i) 0 = m.getD (q + i) 0) : wordAt l p = wordAt m q := by
  unfold wordAt
  have h0 := h 0 (by decide)
  rw [Nat.add_zero, Nat.add_zero] at h0
  rw [h0, h 1 (by decide), h 2 (by decide), h 3 (by decide)]

theorem runs_congr {l m : List UInt8} (n : Nat) (h : ∀ j, j < 64 * n → l.getD j 0 = m.getD j 0) : runs l n = runs m n := by
  induction n with
  | zero => rfl
  | succ n ih =>
    rw [runs, runs, ih (fun j hj => h j (by omega))]
    exact mix_congr (fun i hi => wordAt_congr (fun k hk => h _ (by omega)))

theorem getD_append_left (l m : List UInt8) (j : Nat) (h : j < l.length) : (l ++ m).getD j 0 = l.getD j 0 := by
  rw [List.getD_eq_getElem?_getD, List.getD_eq_getElem?_getD, List.getElem?_append_left h]
theorem getD_append_right (l m : List UInt8) (j : Nat) (h : l.length ≤ j) : (l ++ m).getD j 0 = m.getD (j - l.length) 0 := by
  rw [List.getD_eq_getElem?_getD, List.getD_eq_getElem?_getD, List.getElem?_append_right h]

theorem padded_front (l : List UInt8) (j : Nat) (h : j < l.length) : (padded l).getD j 0 = l.getD j 0 := by
  unfold padded; rw [List.append_assoc, List.append_assoc, getD_append_left _ _ _ h]

theorem be_getD (n many i : Nat) (h : i < many) : (be n many).getD i 0 = UInt8.ofNat (n / 256 ^ (many - 1 - i)) := by
  unfold be
  rw [List.getD_eq_getElem?_getD, List.getElem?_map, List.getElem?_range h]; rfl

/-- How long the last blocks are. -/
def tailSize (r : Nat) : Nat := if 64 < r + 9 then 128 else 64

/-- What 'padded' answers is the rest of the padded text. -/
theorem padded_tail (l : List UInt8) (q j : Nat) (r : List UInt8) (hq : 64 * q + r.length = l.length) (hr : r.length < 64) (hd : ∀ i, i < r.length → r.getD i 0 = l.getD (64 * q + i) 0)
    (hj : j < tailSize r.length) : (padded l).getD (64 * q + j) 0 = padF r l.length (tailSize r.length) 8 j := by
  have hg : r.length + 9 + gap l.length = tailSize r.length := by unfold gap tailSize; split <;> omega
  unfold padF
  by_cases h1 : j < r.length
  · rw [if_pos h1, padded_front l _ (by omega), hd j h1]
  · rw [if_neg h1]
    unfold padded
    rw [List.append_assoc, List.append_assoc, getD_append_right _ _ _ (by omega)]
    by_cases h2 : j = r.length
    · rw [if_pos h2, show 64 * q + j - l.length = 0 by omega]; rfl
    · rw [if_neg h2, getD_append_right _ _ _ (by simp; omega)]
      by_cases h3 : tailSize r.length - 8 ≤ j
      · rw [if_pos h3, getD_append_right _ _ _ (by simp; omega), be_getD _ _ _ (by simp; omega)]
        congr 3
        simp; omega
      · rw [if_neg h3, getD_append_left _ _ _ (by simp; omega), List.getD_eq_getElem?_getD, List.getElem?_replicate, if_pos (by simp; omega)]; rfl

theorem padded_len (l : List UInt8) (q : Nat) (r : Nat) (hq : 64 * q + r = l.length) (hr : r < 64) : (padded l).length = 64 * q + tailSize r := by
  rw [padded_length]; unfold gap tailSize; split <;> omega

end Go.Proofs.YtpmolmoggdjjnaaDoor
