/- Rows of api.Task that a call makes: slices.Reverse (gen_rows.py writes this text). -/
import Derived.Test.YtpeapmefnabhfaaRowTk
import Derived.Test.YtpeapmefnabhfaaShelfTk
import Derived.Lib.OwnBridge
set_option linter.unusedVariables false
namespace Go.Proofs.Ytpeapmefnabhfaa
open Go.RowKit Go.Shelf Go.Sort
open SpanM SpanC
namespace RowsO
theorem flatK_flatTk (ys : List Tk) : flatK encTk 3 ys.toArray = (flatTk ys).toArray := by
  refine ext_get! (by simp [flatTk_length]) fun t ht => ?_
  have ht' : t < ys.length * 3 := by simpa using ht
  rw [get_flatK _ _ _ t (by simpa using ht')]
  have hi : t / 3 < ys.length := by omega
  obtain ⟨f1, f2, f3⟩ := flatTk_at ys (t / 3) hi
  have e0 : ys.toArray[t / 3]! = ys.getD (t / 3) zTk := by
    simp [hi, List.getD]
  rw [e0]
  have hc : t % 3 = 0 ∨ t % 3 = 1 ∨ t % 3 = 2 := by omega
  have hl : t < (flatTk ys).length := by rw [flatTk_length]; omega
  rcases hc with hc | hc | hc
  · rw [show t / 3 * 3 = t by omega, List.getElem?_eq_getElem hl] at f1
    simp only [Option.some.injEq] at f1
    rw [hc]
    simp [encTk, hl, f1]
  · rw [show t / 3 * 3 + 1 = t by omega, List.getElem?_eq_getElem hl] at f2
    simp only [Option.some.injEq] at f2
    rw [hc]
    simp [encTk, hl, f2]
  · rw [show t / 3 * 3 + 2 = t by omega, List.getElem?_eq_getElem hl] at f3
    simp only [Option.some.injEq] at f3
    rw [hc]
    simp [encTk, hl, f3]
theorem OwnTk.holds {w : World} {B g cap : Nat} {l : List Tk} (h : OwnTk w B (.slice (some ⟨g, 0, none⟩) l.length cap) l) : HoldsK encTk 3 w g 0 l.toArray := by
  unfold HoldsK
  rw [flatK_flatTk]
  intro j hj
  have hj' : j < (flatTk l).length := by simpa using hj
  have c := World.ownsRow.cellAt h j (by rw [flatTk_length] at hj'; exact hj')
  have f := World.ownsRow.frozenAt h j
  rw [Nat.zero_add]
  refine ⟨?_, f⟩
  rw [c]
  simp [hj']
theorem OwnTk.sorted {w : World} {B g cap q : Nat} {l ys : List Tk} (h : OwnTk w B (.slice (some ⟨g, 0, none⟩) l.length cap) l) (hy : ys.length = l.length) :
    OwnTk (putRowK encTk 3 (Sort.ahead w q) g 0 ys.toArray) B (.slice (some ⟨g, 0, none⟩) ys.length cap) ys ∧ w.grownBy (putRowK encTk 3 (Sort.ahead w q) g 0 ys.toArray) (some g) := by
  rcases h.2 with ⟨e0, _⟩ | ⟨g', cap', cur, e0, hb, hg, hn, hm, hs, ht⟩
  · cases e0
  · injection e0 with e1 _ e3
    injection e1 with e1
    injection e1 with e1
    subst e1; subst e3
    have hgl := (Array.getElem?_eq_some_iff.1 hg).1
    unfold putRowK
    rw [flatK_flatTk]
    refine ⟨⟨flatTk_length ys, .inr ⟨g, cap, putCells id 0 (flatTk ys).toArray cur, rfl, hb, ?_, by omega, hm, by simpa [putCells] using hs, ?_⟩⟩, ⟨rfl, rfl, rfl, ?_, ?_⟩⟩
    · simp [putRow, mapBlock, Sort.ahead, Array.getElem?_modify, hg, onCells]
    · apply List.ext_getElem?
      intro j
      rw [List.getElem?_take, Array.getElem?_toList]
      by_cases hj : j < ys.length * 3
      · have hjc : j < cur.size := by omega
        have hjf : j < (flatTk ys).length := by rw [flatTk_length]; omega
        simp only [if_pos hj, putCells, Array.getElem?_mapIdx, Array.getElem?_eq_getElem hjc, Option.map_some]
        rw [if_pos (by simp [hjf]), List.getElem?_eq_getElem hjf]
        simp [hjf]
      · rw [if_neg hj, List.getElem?_eq_none (by rw [flatTk_length]; omega)]
    · simp [putRow, mapBlock, Sort.ahead]
    · intro k hk hne
      simp only [putRow, mapBlock, Sort.ahead, Array.getElem?_modify]
      rw [if_neg (by intro e; exact hne (by rw [e]))]
theorem reverseTk_any (v : Value) (B : Nat) (l : List Tk) (w : World) (h : OwnTk w B v l) (hB : B ≤ w.heap.size) :
    Calls Try.prog 24 #[v] w fun e w' => e = .returned (.tuple #[]) ∧ OwnTk w' B v l.reverse ∧ Below B w w' := by
  rcases h.form with ⟨rfl, rfl⟩ | ⟨g, cap, rfl, hb, hg, hc, hm⟩
  · have hcon := AnyQ.slices_Reverse_empty reverseTk none 0 w
    exact Calls.mono hcon fun e w' ⟨he, hw⟩ => ⟨he, by rw [hw]; exact h, by rw [hw]; exact Below.refl _ _⟩
  · have hcon := AnyQ.slices_Reverse reverseTk 3 Try.isAgg34 Try.sizeOf34 encTk (fun _ => rfl) (fun x v hv => by simp [encTk] at hv; rcases hv with rfl | rfl | rfl <;> rfl) g 0 cap l.toArray w h.holds (by unfold maxLen at hm; simp; omega)
    change Calls Try.prog 24 _ _ _ at hcon
    simp only [List.size_toArray] at hcon
    refine hcon.mono ?_
    rintro e w' ⟨he, n, rfl⟩
    obtain ⟨h1, h2⟩ := h.sorted (q := n) (ys := l.reverse) (by simp)
    rw [List.reverse_toArray]
    simp only [List.length_reverse] at h1
    exact ⟨he, h1, Below.grown (Below.refl _ _) h2 hB (fun k hk => by simp at hk; omega)⟩
end RowsO
end Go.Proofs.Ytpeapmefnabhfaa
