/- slices.SortFunc at spans, by where they begin. -/
import Derived.Test.YtepnlfnnancnfaaSpanW
import Derived.Test.YtepnlfnnancnfaaShelf
import Derived.Lib.OwnBridge
set_option linter.unusedVariables false
namespace Go.Proofs.Ytepnlfnnancnfaa
open Go.RowKit Go.Shelf Go.Sort
open SpanM
namespace SpanC
/-- a span's two cells -/
def encSp (x : Sp) : List Value := [.int .i64 x.1, .int .i64 x.2]
theorem flatK_flat (ys : List Sp) : flatK encSp 2 ys.toArray = (flat ys).toArray := by
  refine ext_get! (by simp [flat_length]) fun t ht => ?_
  have ht' : t < ys.length * 2 := by simpa using ht
  rw [get_flatK _ _ _ t (by simpa using ht')]
  have hi : t / 2 < ys.length := by omega
  obtain ⟨f1, f2⟩ := flat_at ys (t / 2) hi
  have e0 : ys.toArray[t / 2]! = ys.getD (t / 2) (0, 0) := by
    simp [hi, List.getD]
  rw [e0]
  have hc : t % 2 = 0 ∨ t % 2 = 1 := by omega
  have hl : t < (flat ys).length := by rw [flat_length]; omega
  rcases hc with hc | hc
  · rw [show t / 2 * 2 = t by omega] at f1
    rw [List.getElem?_eq_getElem hl] at f1
    simp only [Option.some.injEq] at f1
    rw [hc]
    simp [encSp, hl, f1]
  · rw [show t / 2 * 2 + 1 = t by omega] at f2
    rw [List.getElem?_eq_getElem hl] at f2
    simp only [Option.some.injEq] at f2
    rw [hc]
    simp [encSp, hl, f2]
theorem Own.holds {w : World} {B g cap : Nat} {l : List Sp} (h : Own w B (.slice (some ⟨g, 0, none⟩) l.length cap) l) : HoldsK encSp 2 w g 0 l.toArray := by
  unfold HoldsK
  rw [flatK_flat]
  intro j hj
  have hj' : j < (flat l).length := by simpa using hj
  have c := World.ownsRow.cellAt h j (by rw [flat_length] at hj'; exact hj')
  have f := World.ownsRow.frozenAt h j
  rw [Nat.zero_add]
  refine ⟨?_, f⟩
  rw [c]
  simp [hj']
theorem Own.sorted {w : World} {B g cap q : Nat} {l ys : List Sp} {os : Array Obj} (h : Own w B (.slice (some ⟨g, 0, none⟩) l.length cap) l) (hy : ys.length = l.length) :
    Own (sortWorldK encSp 2 w g 0 q ys.toArray os) B (.slice (some ⟨g, 0, none⟩) ys.length cap) ys ∧ w.grownBy (sortWorldK encSp 2 w g 0 q ys.toArray os) (some g) := by
  rcases h.2 with ⟨e0, _⟩ | ⟨g', cap', cur, e0, hb, hg, hn, hm, hs, ht⟩
  · cases e0
  · injection e0 with e1 _ e3
    injection e1 with e1
    injection e1 with e1
    subst e1; subst e3
    have hgl := (Array.getElem?_eq_some_iff.1 hg).1
    unfold sortWorldK putRowK
    rw [flatK_flat]
    refine ⟨⟨flat_length ys, .inr ⟨g, cap, putCells id 0 (flat ys).toArray cur, rfl, hb, ?_, by omega, hm, by simpa [putCells] using hs, ?_⟩⟩, ⟨rfl, rfl, rfl, ?_, ?_⟩⟩
    · rw [heap_grow_old _ _ (by simpa [putRow, mapBlock, Sort.ahead] using hgl)]
      simp [putRow, mapBlock, Sort.ahead, Array.getElem?_modify, hg, onCells]
    · apply List.ext_getElem?
      intro j
      rw [List.getElem?_take, Array.getElem?_toList]
      by_cases hj : j < ys.length * 2
      · have hjc : j < cur.size := by omega
        have hjf : j < (flat ys).length := by rw [flat_length]; omega
        simp only [if_pos hj, putCells, Array.getElem?_mapIdx, Array.getElem?_eq_getElem hjc, Option.map_some]
        rw [if_pos (by simp [hjf]), List.getElem?_eq_getElem hjf]
        simp [hjf]
      · rw [if_neg hj, List.getElem?_eq_none (by rw [flat_length]; omega)]
    · simp [putRow, mapBlock, Sort.ahead]
    · intro k hk hne
      rw [heap_grow_old _ _ (by simpa [putRow, mapBlock, Sort.ahead] using hk)]
      simp only [putRow, mapBlock, Sort.ahead, Array.getElem?_modify]
      rw [if_neg (by intro e; exact hne (by rw [e]))]

theorem closure_any (x y : Sp) (W : World) : Calls Try.prog 58 #[.agg #[.int .i64 x.1, .int .i64 x.2], .agg #[.int .i64 y.1, .int .i64 y.2]] W fun e w' => e = .returned (.int .i64 (Lib.compareInt x.1 y.1)) ∧ ∃ q os', w' = grow (W.drewN q) os' := by
  have hcon := fun W' => AnyG.cmp_Compare_int cmpInt x.1 y.1 W'
  change ∀ W', Calls Try.prog 59 _ _ _ at hcon
  generalize Lib.compareInt x.1 y.1 = r at hcon ⊢
  have HC := hid hcon
  clear hcon
  go_enter Try.func58, Try.ntmps58
  go_wp2_with (go_at_call 59; refine (HC.out _).mono ?_; rintro e w' ⟨rfl, rfl⟩)
  go_ret
  exact ⟨rfl, 0, _, by rw [alloc_eq_grow, alloc_eq_grow, grow_grow]; rfl⟩
theorem cmpLays (blk off size : Nat) (w : World) : CmpLays Try.prog 58 #[] encSp 2 (fun x y => Lib.compareInt x.1 y.1) blk off size w :=
  fun _ _ _ _ x y => closure_any x y _
theorem ltFrom (x y : Sp) : ltOf (fun x y : Sp => Lib.compareInt x.1 y.1) x y = decide (x.1 < y.1) := by
  unfold ltOf Lib.compareInt
  by_cases h1 : x.1 < y.1
  · simp [h1]
  · by_cases h2 : y.1 < x.1 <;> simp [h1, h2]
theorem swoFrom : SWO (ltOf fun x y : Sp => Lib.compareInt x.1 y.1) where
  irrefl x := by rw [ltFrom]; simp
  trans x y z h1 h2 := by rw [ltFrom] at *; simp at *; omega
  ntrans x y z h1 h2 := by rw [ltFrom] at *; simp at *; omega

theorem sort_some (B g cap : Nat) (l : List Sp) (w : World) (h : Own w B (.slice (some ⟨g, 0, none⟩) l.length cap) l) (hl : l.length ≤ 1000) :
    Calls Try.prog 57 #[.slice (some ⟨g, 0, none⟩) l.length cap, .func (.func 58) #[] #[]] w fun e w' => e = .returned (.tuple #[]) ∧ ∃ ys : List Sp, ys.length = l.length ∧ (∀ x, x ∈ ys ↔ x ∈ l) ∧ (∀ i j, i < j → j < ys.length → (ys.getD i (0, 0)).1 ≤ (ys.getD j (0, 0)).1) ∧ Own w' B (.slice (some ⟨g, 0, none⟩) ys.length cap) ys ∧ w.grownBy w' (some g) := by
  have eg : ∀ args w, (callFunc 58 args).run Try.prog w = .ok (.enter 58 args) w := enters_of Try.func58 (by kernel_rfl) rfl
  have hgs : g < w.heap.size := (World.ownsRow.lt h g rfl).2
  have hcon := AnyQ.slices_SortFunc sortSp 2 Try.isAgg45 Try.sizeOf45 encSp (fun _ => rfl) (fun x v hv => by simp [encSp] at hv; rcases hv with rfl | rfl <;> rfl) (fun x y => Lib.compareInt x.1 y.1) swoFrom 58 #[] g 0 cap l.toArray w eg (cmpLays g 0 l.toArray.size w) h.holds hgs (by simp; omega)
  change Calls Try.prog 57 _ _ _ at hcon
  simp only [List.size_toArray] at hcon
  refine hcon.mono ?_
  rintro e w' ⟨he, d', n, os, hp, hs, rfl⟩
  obtain ⟨hp1, _, hp3⟩ := hp
  simp only [List.size_toArray] at hp1
  obtain ⟨ys⟩ := d'
  simp only [List.size_toArray] at hp1
  have hperm : ys.Perm l := by
    have h3 : ys.Perm (l.take ys.length) := by simpa [← hp1] using hp3
    rwa [List.take_of_length_le (by omega)] at h3
  obtain ⟨ho, hg⟩ := h.sorted (q := n) (ys := ys) (os := os) hp1
  refine ⟨he, ys, hp1, fun x => hperm.mem_iff, fun i j hij hj => ?_, ho, hg⟩
  have := hs i j (by omega) hij (by omega)
  rw [ltFrom] at this
  simp only [decide_eq_false_iff_not] at this
  have e1 : ys.toArray[i]! = ys.getD i (0, 0) := by simp [show i < ys.length by omega, List.getD]
  have e2 : ys.toArray[j]! = ys.getD j (0, 0) := by simp [hj, List.getD]
  rw [e1, e2] at this
  omega
theorem sort_none (w : World) :
    Calls Try.prog 57 #[.slice none 0 0, .func (.func 58) #[] #[]] w fun e w' => e = .returned (.tuple #[]) ∧ w' = w := by
  have hcon := AnyF.slices_SortFunc_none { sortSp with } none 0 (.func (.func 58) #[] #[]) w
  exact hcon
end SpanC
end Go.Proofs.Ytepnlfnnancnfaa
