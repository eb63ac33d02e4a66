import Derived.Test.YtpmolmoggdjjnaaDoorSha
import Derived.WalkKit
import Derived.Laws.Rows
import Derived.Deep.WholeRow
import Derived.Deep.MidRow
import Derived.Deep.QuietTactic
namespace Go.Sha
open Go.RowKit

/-- Block g holds just these cells, and may be written. -/
def RowIs (w : World) (g : Nat) (t : TypeId) (cs : Array Value) : Prop := w.heap[g]? = some (.cells cs t (0, 0))

theorem RowIs.cell {w : World} {g : Nat} {t : TypeId} {cs : Array Value} (h : RowIs w g t cs) (j : Nat) : w.cell? ⟨g, j, none⟩ = cs[j]? := cell_of_row w g j cs t (0, 0) h
theorem RowIs.frozen {w : World} {g : Nat} {t : TypeId} {cs : Array Value} (h : RowIs w g t cs) (j : Nat) : w.frozen? ⟨g, j, none⟩ = false := frozen_of_row w g j cs t h
theorem RowIs.set {w : World} {g : Nat} {t : TypeId} {cs : Array Value} (h : RowIs w g t cs) (i : Nat) (v : Value) : RowIs (w.setCell ⟨g, i, none⟩ v) g t (cs.setIfInBounds i v) :=
  heap_setCell_same w g i cs t v h
theorem RowIs.other {w : World} {g : Nat} {t : TypeId} {cs : Array Value} (h : RowIs w g t cs) {a : Addr} (hne : g ≠ a.block) (v : Value) : RowIs (w.setCell a v) g t cs := by
  unfold RowIs; rw [heap_setCell_other w a g v hne]; exact h
theorem RowIs.lt {w : World} {g : Nat} {t : TypeId} {cs : Array Value} (h : RowIs w g t cs) : g < w.heap.size := (Array.getElem?_eq_some_iff.1 h).1
theorem RowIs.alloc {w : World} {g : Nat} {t : TypeId} {cs : Array Value} (h : RowIs w g t cs) (o : Obj) : RowIs (w.alloc o) g t cs := by
  unfold RowIs; rw [show (w.alloc o).heap[g]? = w.heap[g]? from Below.heap_alloc w o g h.lt]; exact h
theorem RowIs.new (w : World) (t : TypeId) (cs : Array Value) : RowIs (w.alloc (.cells cs t)) w.heap.size t cs := heap_alloc_new w _
theorem RowIs.below {B : Nat} {w w' : World} (hb : Below B w w') {g : Nat} {t : TypeId} {cs : Array Value} (h : RowIs w g t cs) (hg : g < B) : RowIs w' g t cs := by
  unfold RowIs; rw [hb.block g hg]; exact h
theorem RowIs.drewN {w : World} {g : Nat} {t : TypeId} {cs : Array Value} (h : RowIs w g t cs) (n : Nat) : RowIs (w.drewN n) g t cs := h
theorem RowIs.range {w : World} {g : Nat} {t : TypeId} {cs : Array Value} (h : RowIs w g t cs) : w.rangeAt g 0 cs.toList := fun j v hv => by
  rw [Nat.zero_add, h.cell j]; simpa using hv
theorem RowIs.there {w : World} {g : Nat} {t : TypeId} {cs : Array Value} (h : RowIs w g t cs) : w.there g 0 cs.size := fun j hj => by
  rw [Nat.zero_add]; exact ⟨by rw [h.cell j]; simp [hj], h.frozen j⟩
theorem RowIs.eq {w : World} {g : Nat} {t : TypeId} {cs ds : Array Value} (h : RowIs w g t cs) (e : cs = ds) : RowIs w g t ds := e ▸ h

theorem RowIs.drew {w : World} {g : Nat} {t : TypeId} {cs : Array Value} (h : RowIs w g t cs) : RowIs w.drew g t cs := h
theorem RowIs.setRow {w : World} {g : Nat} {t : TypeId} {cs : Array Value} (h : RowIs w g t cs) (ds : Array Value) : RowIs (w.setRow g ds) g t ds := setRow_heap w g cs ds t _ h
theorem RowIs.otherRow {w : World} {g g' : Nat} {t : TypeId} {cs : Array Value} (h : RowIs w g t cs) (hne : g ≠ g') (ds : Array Value) : RowIs (w.setRow g' ds) g t cs := by
  unfold RowIs; rw [setRow_other w g' g ds hne]; exact h
theorem below_row {B : Nat} {a w : World} (h : Below B a w) {g : Nat} (hg : B ≤ g) (ds : Array Value) : Below B a (w.setRow g ds) :=
  h.trans ⟨rfl, rfl, rfl, by simp, fun k hk => setRow_other w g k ds (by omega)⟩

/-- Words in cells. -/
def wds (k : IntKind) (f : Nat → Wd) (n : Nat) : Array Value := Array.ofFn (n := n) fun i => .int k (V (f i.val))
/-- Bytes in cells. -/
def bts (f : Nat → UInt8) (n : Nat) : Array Value := Array.ofFn (n := n) fun i => .int .u8 ((f i.val).toNat : Int)

@[simp] theorem wds_size (k : IntKind) (f : Nat → Wd) (n : Nat) : (wds k f n).size = n := by simp [wds]
@[simp] theorem bts_size (f : Nat → UInt8) (n : Nat) : (bts f n).size = n := by simp [bts]
theorem wds_get (k : IntKind) (f : Nat → Wd) (n j : Nat) (h : j < n) : (wds k f n)[j]? = some (.int k (V (f j))) := by
  simp [wds, h]
theorem bts_get (f : Nat → UInt8) (n j : Nat) (h : j < n) : (bts f n)[j]? = some (.int .u8 ((f j).toNat : Int)) := by
  simp [bts, h]
theorem wds_set (k : IntKind) (f : Nat → Wd) (n i : Nat) (x : Wd) : (wds k f n).setIfInBounds i (.int k (V x)) = wds k (fun j => if j = i then x else f j) n := by
  apply Array.ext_getElem?
  intro j
  rw [Array.getElem?_setIfInBounds]
  by_cases hj : j < n
  · rw [wds_get k (fun j => if j = i then x else f j) n j hj]
    by_cases e : i = j
    · subst e; simp [hj]
    · have e' : ¬ j = i := fun x => e x.symm
      simp [e, e', wds_get k f n j hj]
  · have h1 : (wds k f n)[j]? = none := by simp; omega
    have h2 : (wds k (fun j => if j = i then x else f j) n)[j]? = none := by simp; omega
    rw [h1, h2]
    by_cases e : i = j
    · subst e; simp [hj]
    · simp [e]
theorem bts_set (f : Nat → UInt8) (n i : Nat) (x : UInt8) : (bts f n).setIfInBounds i (.int .u8 (x.toNat : Int)) = bts (fun j => if j = i then x else f j) n := by
  apply Array.ext_getElem?
  intro j
  rw [Array.getElem?_setIfInBounds]
  by_cases hj : j < n
  · rw [bts_get (fun j => if j = i then x else f j) n j hj]
    by_cases e : i = j
    · subst e; simp [hj]
    · have e' : ¬ j = i := fun x => e x.symm
      simp [e, e', bts_get f n j hj]
  · have h1 : (bts f n)[j]? = none := by simp; omega
    have h2 : (bts (fun j => if j = i then x else f j) n)[j]? = none := by simp; omega
    rw [h1, h2]
    by_cases e : i = j
    · subst e; simp [hj]
    · simp [e]
theorem wds_congr {k : IntKind} {f g : Nat → Wd} {n : Nat} (h : ∀ j, j < n → f j = g j) : wds k f n = wds k g n := by
  unfold wds; congr 1; funext i; rw [h i.val i.isLt]
theorem bts_congr {f g : Nat → UInt8} {n : Nat} (h : ∀ j, j < n → f j = g j) : bts f n = bts g n := by
  unfold bts; congr 1; funext i; rw [h i.val i.isLt]
theorem wds_one (k : IntKind) (f : Nat → Wd) (n : Nat) : (wds k f n).all (·.oneCell') = true := by
  rw [Array.all_eq_true]; intro i hi; simp [wds]; rfl
theorem bts_one (f : Nat → UInt8) (n : Nat) : (bts f n).all (·.oneCell') = true := by
  rw [Array.all_eq_true]; intro i hi; simp [bts]; rfl
theorem wds_zero (k : IntKind) (n : Nat) : Array.replicate n (Value.int k 0) = wds k (fun _ => 0) n := by
  apply Array.ext_getElem?
  intro j
  by_cases hj : j < n
  · rw [wds_get k _ n j hj]; simp [hj, V]
  · have h2 : (wds k (fun _ => 0) n)[j]? = none := by simp; omega
    rw [h2]; simp; omega
theorem bts_zero (n : Nat) : Array.replicate n (Value.int .u8 0) = bts (fun _ => 0) n := by
  apply Array.ext_getElem?
  intro j
  by_cases hj : j < n
  · rw [bts_get _ n j hj]; simp [hj]
  · have h2 : (bts (fun _ => 0) n)[j]? = none := by simp; omega
    rw [h2]; simp; omega

theorem bel_drewN (B : Nat) (w : World) (n : Nat) : Below B w (w.drewN n) := ⟨rfl, rfl, rfl, Nat.le_refl _, fun _ _ => rfl⟩

end Go.Sha
