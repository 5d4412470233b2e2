/- slices.SortFunc at windows, by where they begin. -/
import Derived.Test.YtgehdpohiphcpaaTabW
import Derived.Test.YtgehdpohiphcpaaShelf
import Derived.Lib.OwnBridge
set_option linter.unusedVariables false
namespace Go.Proofs.Ytgehdpohiphcpaa
open Go.RowKit Go.Shelf Go.Sort
open SpanM SpanC TabM
namespace TabC
/-- a window's three cells -/
def encW (x : Win) : List Value := [.int .i64 x.1, .int .i64 x.2.1, .int .i64 x.2.2]
theorem flatK_flat3 (ys : List Win) : flatK encW 3 ys.toArray = (flat3 ys).toArray := by
  refine ext_get! (by simp [flat3_length]) fun t ht => ?_
  have ht' : t < ys.length * 3 := by simpa using ht
  rw [get_flatK _ _ _ t (by simpa using ht')]
  have hi : t / 3 < ys.length := by omega
  obtain ⟨f1, f2, f3⟩ := flat3_at ys (t / 3) hi
  have e0 : ys.toArray[t / 3]! = ys.getD (t / 3) z3 := by
    simp [hi, List.getD]
  rw [e0]
  have hc : t % 3 = 0 ∨ t % 3 = 1 ∨ t % 3 = 2 := by omega
  have hl : t < (flat3 ys).length := by rw [flat3_length]; omega
  rcases hc with hc | hc | hc
  · rw [show t / 3 * 3 = t by omega] at f1
    rw [List.getElem?_eq_getElem hl] at f1
    simp only [Option.some.injEq] at f1
    rw [hc]
    simp [encW, hl, f1]
  · rw [show t / 3 * 3 + 1 = t by omega] at f2
    rw [List.getElem?_eq_getElem hl] at f2
    simp only [Option.some.injEq] at f2
    rw [hc]
    simp [encW, hl, f2]
  · rw [show t / 3 * 3 + 2 = t by omega] at f3
    rw [List.getElem?_eq_getElem hl] at f3
    simp only [Option.some.injEq] at f3
    rw [hc]
    simp [encW, hl, f3]
theorem OwnW.holds {w : World} {B g cap : Nat} {l : List Win} (h : OwnW w B (.slice (some ⟨g, 0, none⟩) l.length cap) l) : HoldsK encW 3 w g 0 l.toArray := by
  unfold HoldsK
  rw [flatK_flat3]
  intro j hj
  have hj' : j < (flat3 l).length := by simpa using hj
  have c := World.ownsRow.cellAt h j (by rw [flat3_length] at hj'; exact hj')
  have f := World.ownsRow.frozenAt h j
  rw [Nat.zero_add]
  refine ⟨?_, f⟩
  rw [c]
  simp [hj']
theorem OwnW.sorted {w : World} {B g cap q : Nat} {l ys : List Win} {os : Array Obj} (h : OwnW w B (.slice (some ⟨g, 0, none⟩) l.length cap) l) (hy : ys.length = l.length) :
    OwnW (sortWorldK encW 3 w g 0 q ys.toArray os) B (.slice (some ⟨g, 0, none⟩) ys.length cap) ys ∧ w.grownBy (sortWorldK encW 3 w g 0 q ys.toArray os) (some g) := by
  rcases h.2 with ⟨e0, _⟩ | ⟨g', cap', cur, e0, hb, hg, hn, hm, hs, ht⟩
  · cases e0
  · injection e0 with e1 _ e3
    injection e1 with e1
    injection e1 with e1
    subst e1; subst e3
    have hgl := (Array.getElem?_eq_some_iff.1 hg).1
    unfold sortWorldK putRowK
    rw [flatK_flat3]
    refine ⟨⟨flat3_length ys, .inr ⟨g, cap, putCells id 0 (flat3 ys).toArray cur, rfl, hb, ?_, by omega, hm, by simpa [putCells] using hs, ?_⟩⟩, ⟨rfl, rfl, rfl, ?_, ?_⟩⟩
    · rw [heap_grow_old _ _ (by simpa [putRow, mapBlock, Sort.ahead] using hgl)]
      simp [putRow, mapBlock, Sort.ahead, Array.getElem?_modify, hg, onCells]
    · apply List.ext_getElem?
      intro j
      rw [List.getElem?_take, Array.getElem?_toList]
      by_cases hj : j < ys.length * 3
      · have hjc : j < cur.size := by omega
        have hjf : j < (flat3 ys).length := by rw [flat3_length]; omega
        simp only [if_pos hj, putCells, Array.getElem?_mapIdx, Array.getElem?_eq_getElem hjc, Option.map_some]
        rw [if_pos (by simp [hjf]), List.getElem?_eq_getElem hjf]
        simp [hjf]
      · rw [if_neg hj, List.getElem?_eq_none (by rw [flat3_length]; omega)]
    · simp [putRow, mapBlock, Sort.ahead]
    · intro k hk hne
      rw [heap_grow_old _ _ (by simpa [putRow, mapBlock, Sort.ahead] using hk)]
      simp only [putRow, mapBlock, Sort.ahead, Array.getElem?_modify]
      rw [if_neg (by intro e; exact hne (by rw [e]))]
theorem mk1_any (x y : Win) (W : World) : Calls Try.prog 47 #[.agg #[.int .i64 x.1, .int .i64 x.2.1, .int .i64 x.2.2], .agg #[.int .i64 y.1, .int .i64 y.2.1, .int .i64 y.2.2]] W fun e w' => e = .returned (.int .i64 (Lib.compareInt x.1 y.1)) ∧ ∃ q os', w' = grow (W.drewN q) os' := by
  have hcon := fun W' => AnyG.cmp_Compare_int cmpInt x.1 y.1 W'
  change ∀ W', Calls Try.prog 48 _ _ _ at hcon
  generalize Lib.compareInt x.1 y.1 = r at hcon ⊢
  have HC := hid hcon
  clear hcon
  go_enter Try.func47, Try.ntmps47
  go_wp2_with (go_at_call 48; refine (HC.out _).mono ?_; rintro e w' ⟨rfl, rfl⟩)
  go_ret
  exact ⟨rfl, 0, _, by rw [alloc_eq_grow, alloc_eq_grow, grow_grow]; rfl⟩
theorem cmpLaysW (blk off size : Nat) (w : World) : CmpLays Try.prog 47 #[] encW 3 (fun x y => Lib.compareInt x.1 y.1) blk off size w :=
  fun _ _ _ _ x y => mk1_any x y _
theorem ltFromW (x y : Win) : ltOf (fun x y : Win => Lib.compareInt x.1 y.1) x y = decide (x.1 < y.1) := by
  unfold ltOf Lib.compareInt
  by_cases h1 : x.1 < y.1
  · simp [h1]
  · by_cases h2 : y.1 < x.1 <;> simp [h1, h2]
theorem swoFromW : SWO (ltOf fun x y : Win => Lib.compareInt x.1 y.1) where
  irrefl x := by rw [ltFromW]; simp
  trans x y z h1 h2 := by rw [ltFromW] at *; simp at *; omega
  ntrans x y z h1 h2 := by rw [ltFromW] at *; simp at *; omega
theorem sortW_some (B g cap : Nat) (l : List Win) (w : World) (h : OwnW w B (.slice (some ⟨g, 0, none⟩) l.length cap) l) (hl : l.length ≤ 1000) :
    Calls Try.prog 46 #[.slice (some ⟨g, 0, none⟩) l.length cap, .func (.func 47) #[] #[]] w fun e w' => e = .returned (.tuple #[]) ∧ ∃ ys : List Win, ys.Perm l ∧ ys.Pairwise (fun x y => x.1 ≤ y.1) ∧ OwnW w' B (.slice (some ⟨g, 0, none⟩) l.length cap) ys ∧ w.grownBy w' (some g) := by
  have eg : ∀ args w, (callFunc 47 args).run Try.prog w = .ok (.enter 47 args) w := enters_of Try.func47 (by kernel_rfl) rfl
  have hgs : g < w.heap.size := (World.ownsRow.lt h g rfl).2
  have hcon := AnyQ.slices_SortFunc sortWin 3 Try.isAgg50 Try.sizeOf50 encW (fun _ => rfl) (fun x v hv => by simp [encW] at hv; rcases hv with rfl | rfl | rfl <;> rfl) (fun x y => Lib.compareInt x.1 y.1) swoFromW 47 #[] g 0 cap l.toArray w eg (cmpLaysW g 0 l.toArray.size w) h.holds hgs (by simp; omega)
  change Calls Try.prog 46 _ _ _ at hcon
  simp only [List.size_toArray] at hcon
  refine hcon.mono ?_
  rintro e w' ⟨he, d', n, os, hp, hs, rfl⟩
  obtain ⟨hp1, _, hp3⟩ := hp
  simp only [List.size_toArray] at hp1
  obtain ⟨ys⟩ := d'
  simp only [List.size_toArray] at hp1
  have hperm : ys.Perm l := by
    have h3 : ys.Perm (l.take ys.length) := by simpa [← hp1] using hp3
    rwa [List.take_of_length_le (by omega)] at h3
  obtain ⟨ho, hg⟩ := h.sorted (q := n) (ys := ys) (os := os) hp1
  rw [hp1] at ho
  refine ⟨he, ys, hperm, List.pairwise_iff_getElem.2 fun i j hi hj hij => ?_, ho, hg⟩
  have := hs i j (by omega) hij (by omega)
  rw [ltFromW] at this
  simp only [decide_eq_false_iff_not] at this
  have e1 : ys.toArray[i]! = ys[i] := by simp [hi]
  have e2 : ys.toArray[j]! = ys[j] := by simp [hj]
  rw [e1, e2] at this
  omega
theorem sortW_none (w : World) :
    Calls Try.prog 46 #[.slice none 0 0, .func (.func 47) #[] #[]] w fun e w' => e = .returned (.tuple #[]) ∧ w' = w := by
  have hcon := AnyF.slices_SortFunc_none { sortWin with } none 0 (.func (.func 47) #[] #[]) w
  exact hcon
theorem sortW_any (B : Nat) (v : Value) (l : List Win) (w : World) (h : OwnW w B v l) (hB : B ≤ w.heap.size) (hl : l.length ≤ 1000) :
    Calls Try.prog 46 #[v, .func (.func 47) #[] #[]] w fun e w' => e = .returned (.tuple #[]) ∧ ∃ ys : List Win, ys.Perm l ∧ ys.Pairwise (fun x y => x.1 ≤ y.1) ∧ OwnW w' B v ys ∧ Below B w w' := by
  rcases h.form with ⟨rfl, rfl⟩ | ⟨g, cap, rfl, hb, hg, _⟩
  · refine (sortW_none w).mono ?_
    rintro e w' ⟨he, rfl⟩
    exact ⟨he, [], List.Perm.refl _, List.Pairwise.nil, h, Below.refl _ _⟩
  · refine (sortW_some B g cap l w h hl).mono ?_
    rintro e w' ⟨he, ys, h1, h2, h3, h4⟩
    exact ⟨he, ys, h1, h2, h3, Below.grown (Below.refl _ _) h4 hB (fun k hk => by simp at hk; omega)⟩
end TabC
end Go.Proofs.Ytgehdpohiphcpaa
