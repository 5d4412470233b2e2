/- slices.Sort and slices.Compact at []int; SetOf. -/
import Derived.Test.YtgehdpohiphcpaaTabI
import Derived.Test.YtgehdpohiphcpaaShelf
import Derived.Test.YtgehdpohiphcpaaSpanJ
import Derived.Test.YtgehdpohiphcpaaSpanF
set_option linter.unusedVariables false
namespace Go.Proofs.Ytgehdpohiphcpaa
open Go.RowKit Go.Shelf Go.Sort
open SpanM
namespace SpanC
theorem grown_grow (w : World) (os : Array Obj) : w.grownBy (grow w os) none := ⟨rfl, rfl, rfl, by simp, fun k hk _ => heap_grow_old w os hk⟩
theorem OwnI.holds {w : World} {B g cap : Nat} {zs : List Int} (h : OwnI w B (.slice (some ⟨g, 0, none⟩) zs.length cap) zs) : Holds (Value.int .i64) w g 0 zs.toArray := by
  obtain ⟨g', cap', e, _, _, _, _, _, hh⟩ := Lib.holds_of_ownsRow h (by simp)
  simp only [Value.slice.injEq] at e
  obtain ⟨e1, _, _⟩ := e
  simp at e1
  subst e1
  exact hh
theorem sortI_any (B g cap : Nat) (zs : List Int) (w : World) (h : OwnI w B (.slice (some ⟨g, 0, none⟩) zs.length cap) zs) (hB : B ≤ w.heap.size) (hl : zs.length ≤ 10000000) :
    Calls Try.prog 54 #[.slice (some ⟨g, 0, none⟩) zs.length cap] w fun e w' => e = .returned (.tuple #[]) ∧ OwnI w' B (.slice (some ⟨g, 0, none⟩) zs.length cap) (zs.mergeSort fun x y => decide (x ≤ y)) ∧ Below B w w' := by
  obtain ⟨hg1, hg2⟩ := World.ownsRow.lt h g rfl
  have hcon := AnyM.slices_Sort_int sortInt g 0 cap zs w h.holds hg2 (by omega)
  change Calls Try.prog 54 _ _ _ at hcon
  refine hcon.mono ?_
  rintro e w' ⟨he, n, os, rfl⟩
  have hml : (zs.mergeSort fun x y => decide (x ≤ y)).length = zs.length := List.length_mergeSort _
  have h1 := Lib.ownsRow_putRow (q := n) (k := zs.length) (ys := zs.mergeSort fun x y => decide (x ≤ y)) h hml (Nat.le_refl _)
  rw [← hml, List.take_length] at h1
  have h2 := Lib.below_putRow (enc := Value.int .i64) (q := n) (d := (zs.mergeSort fun x y => decide (x ≤ y)).toArray) (Below.refl B w) hg1
  refine ⟨he, ?_, h2.trans (Below.grown (Below.refl _ _) (grown_grow _ os) (Nat.le_trans hB h2.size) (by simp))⟩
  have h3 := World.ownsRow.kept h1 (grown_grow _ os) (by simp [Value.ownBlock])
  unfold OwnI
  rw [hml] at h3 ⊢
  exact h3
theorem compactI_any (B g cap : Nat) (zs : List Int) (w : World) (h : OwnI w B (.slice (some ⟨g, 0, none⟩) zs.length cap) zs) (hl : zs.length ≤ 10000000) :
    Calls Try.prog 64 #[.slice (some ⟨g, 0, none⟩) zs.length cap] w fun e w' => e = .returned (.slice (some ⟨g, 0, none⟩) (Lib.compact zs).length cap) ∧ OwnI w' B (.slice (some ⟨g, 0, none⟩) (Lib.compact zs).length cap) (Lib.compact zs) ∧ Below B w w' := by
  obtain ⟨hg1, hg2⟩ := World.ownsRow.lt h g rfl
  have hcap : zs.length ≤ cap := by
    rcases h.form with ⟨e, _⟩ | ⟨g', cp, e, _, _, h3, _⟩
    · simp at e
    · simp only [Value.slice.injEq] at e; rw [e.2.2]; exact h3
  have hcon := AnyG.slices_Compact_int compactInt g 0 cap zs w h.holds (by omega) hcap
  change Calls Try.prog 64 _ _ _ at hcon
  refine hcon.mono ?_
  rintro e w' ⟨he, q, rfl⟩
  have hle : (Lib.compact zs).length ≤ zs.length := by
    unfold Lib.compact Lib.compactUpTo
    rw [List.length_map]
    exact Nat.le_trans (List.length_filter_le _ _) (by simp)
  have h1 := Lib.ownsRow_putRow (q := q) (k := (Lib.compact zs).length) (ys := Lib.compact zs ++ List.replicate (zs.length - (Lib.compact zs).length) 0) h (by simp; omega) hle
  rw [List.take_left'] at h1
  · exact ⟨he, h1, Lib.below_putRow (Below.refl B w) hg1⟩
  · rfl
end SpanC
end Go.Proofs.Ytgehdpohiphcpaa
