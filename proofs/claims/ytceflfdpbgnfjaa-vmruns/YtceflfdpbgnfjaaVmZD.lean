/- The reference's Once: its machine in memory. -/
import Derived.Test.YtceflfdpbgnfjaaVmZA
import Derived.Test.YtceflfdpbgnfjaaVmO
import Derived.Test.YtceflfdpbgnfjaaRowEm
import Derived.Deep.RegionHeld3
import Derived.Deep.CutRange
import Derived.StillTailTactics
set_option linter.unusedVariables false
namespace Go.Proofs.Ytceflfdpbgnfjaa
open Go.RowKit
open Go.Shelf Go.Sort
open SpanM hiding good
open SpanC IntsC
open RowsO hiding Em
namespace VmC
open VmP VmM
open NumC (Row)
/-- Once's new state in memory: the boxes of what came in and of the result, the new state's box and row -/
structure Mo (w W : World) (V0 : Array Value) (bx g cap : Nat) (t : St) : Prop where
  b2 : B2 w W V0 zV 25 25
  box : W.heap[bx]? = some (.cells (vmC t.pc (vS g 8 cap) t.halts t.fault) 25)
  own : OwnI W (w.heap.size + 2) (vS g 8 cap) t.regs
  ge : w.heap.size + 2 ≤ bx
  len : t.regs.length = 8
section
variable {w W : World} {V0 : Array Value} {bx g cap : Nat} {t : St}
theorem Mo.ne (h : Mo w W V0 bx g cap t) : ¬ g = bx := fun e => row_ne_box h.own h.box (by decide) (by rw [e]; rfl)
theorem Mo.row (h : Mo w W V0 bx g cap t) : w.heap.size + 2 ≤ g ∧ g < W.heap.size := (World.ownsRow.lt h.own) g rfl
theorem Mo.lt (h : Mo w W V0 bx g cap t) : bx < W.heap.size := (Array.getElem?_eq_some_iff.1 h.box).1
theorem Mo.step {W' : World} (h : Mo w W V0 bx g cap t) (hb : Below W.heap.size W W') : Mo w W' V0 bx g cap t :=
  ⟨h.b2.step hb, box_below h.box hb (Nat.le_refl _), OwnI.below h.own hb (Nat.le_refl _), h.ge, h.len⟩
theorem Mo.drew (h : Mo w W V0 bx g cap t) : Mo w W.drew V0 bx g cap t := h.step (Below.refl _ _).drew
theorem Mo.alloc (h : Mo w W V0 bx g cap t) (o : Obj) : Mo w (W.alloc o) V0 bx g cap t := h.step ((Below.refl _ _).alloc (Nat.le_refl _) o)
theorem Mo.setReg (h : Mo w W V0 bx g cap t) (a : Nat) (v : Int) : Mo w (W.setCell ⟨g, a, none⟩ (.int .i64 v)) V0 bx g cap { t with regs := t.regs.set a v } :=
  ⟨⟨bel_set h.b2.b _ _ _ h.row.1⟩, (heap_setCell_other _ _ _ _ (fun e => h.ne e.symm)).trans h.box, (OwnI.set h.own h.len.symm a v).1, h.ge, by show (List.set _ _ _).length = 8; rw [List.length_set]; exact h.len⟩
theorem Mo.setBox (h : Mo w W V0 bx g cap t) (j : Nat) (v : Value) (t' : St) (he : (vmC t.pc (vS g 8 cap) t.halts t.fault).setIfInBounds j v = vmC t'.pc (vS g 8 cap) t'.halts t'.fault) (hr : t'.regs = t.regs) : Mo w (W.setCell ⟨bx, j, none⟩ v) V0 bx g cap t' :=
  ⟨⟨bel_set h.b2.b _ _ _ h.ge⟩, by rw [heap_setCell_same _ _ _ _ _ _ h.box, he], by rw [hr]; exact ownsRow_setCell_other h.own (fun e => h.ne (by simpa [Value.ownBlock] using e)) _, h.ge, by rw [hr]; exact h.len⟩
theorem Mo.c (h : Mo w W V0 bx g cap t) : W.cell? ⟨bx, 0, none⟩ = some (.int .i64 t.pc) ∧ W.cell? ⟨bx, 1, none⟩ = some (vS g 8 cap) ∧ W.cell? ⟨bx, 2, none⟩ = some (.bool t.halts) ∧ W.cell? ⟨bx, 3, none⟩ = some (.bool t.fault) := ⟨box_cell h.box 0, box_cell h.box 1, box_cell h.box 2, box_cell h.box 3⟩
theorem Mo.r (h : Mo w W V0 bx g cap t) : W.cell? ⟨w.heap.size + 1, 0, none⟩ = some (.int .i64 0) ∧ W.cell? ⟨w.heap.size + 1, 1, none⟩ = some (.slice none 0 0) ∧ W.cell? ⟨w.heap.size + 1, 2, none⟩ = some (.bool false) ∧ W.cell? ⟨w.heap.size + 1, 3, none⟩ = some (.bool false) := ⟨h.b2.c1 0, h.b2.c1 1, h.b2.c1 2, h.b2.c1 3⟩
theorem Mo.rf (h : Mo w W V0 bx g cap t) (j : Nat) : W.frozen? ⟨w.heap.size + 1, j, none⟩ = false := froz_box (B2.box1 h.b2) j
theorem Mo.bf (h : Mo w W V0 bx g cap t) (j : Nat) : W.frozen? ⟨bx, j, none⟩ = false := froz_box h.box j
theorem Mo.gf (h : Mo w W V0 bx g cap t) (j : Nat) : W.frozen? ⟨g, j, none⟩ = false := OwnI.frozen h.own h.len.symm j
theorem Mo.gc (h : Mo w W V0 bx g cap t) (a : Nat) (ha : a < 8) : W.cell? ⟨g, a, none⟩ = some (.int .i64 (t.regs.getD a 0)) := OwnI.cell (by have := h.own; rwa [← h.len] at this) a (by rw [h.len]; exact ha)
abbrev retW (w W : World) (g cap : Nat) (t : St) : World := st4 W (w.heap.size + 1) (.int .i64 t.pc) (vS g 8 cap) (.bool t.halts) (.bool t.fault)
theorem Mo.ret (h : Mo w W V0 bx g cap t) : Sem.run Try.prog (loadVar 25 ⟨w.heap.size + 1, 0, none⟩) (retW w W g cap t) = .ok (.agg (vmC t.pc (vS g 8 cap) t.halts t.fault)) (retW w W g cap t) ∧ OwnI (retW w W g cap t) w.heap.size (vS g 8 cap) t.regs ∧ Below w.heap.size w (retW w W g cap t) :=
  ⟨load_vm (st4_heap (B2.box1 h.b2)), st4_own _ _ _ _ (OwnI.base' h.own (by omega)) (B2.box1 h.b2) (by decide), st4_below h.b2.bel (by omega)⟩
theorem own8 {w : World} {B : Nat} {v : Value} {l : List Int} (h : OwnI w B v l) (h8 : l.length = 8) : ∃ g cap, v = vS g 8 cap := by
  rcases h.form with ⟨_, e⟩ | ⟨g, cap, e, _⟩
  · rw [e] at h8; simp at h8
  · exact ⟨g, cap, by rw [e, h8]⟩
end
/-- rows of what goes out: none or one -/
def EmV (w : World) (B : Nat) (v : Value) (o : List Em) : Prop := (v = .slice none 0 0 ∧ o = []) ∨ ∃ b x, v = .slice (some ⟨b, 0, none⟩) 1 1 ∧ o = [x] ∧ B ≤ b ∧ w.heap[b]? = some (.cells #[.int .i64 x.1, .int .i64 x.2] 39)
/-- what Once tells when it goes on -/
def OnceR (w : World) (t : St) (o : List Em) (n : Int) (e : Ending) (w' : World) : Prop :=
  (∃ g cap lv, e = .returned (.tuple #[.agg (vmC t.pc (vS g 8 cap) t.halts t.fault), lv, .int .i64 n, .bool true]) ∧ OwnI w' w.heap.size (vS g 8 cap) t.regs ∧ EmV w' w.heap.size lv o) ∧ Below w.heap.size w w'
end VmC
end Go.Proofs.Ytceflfdpbgnfjaa
