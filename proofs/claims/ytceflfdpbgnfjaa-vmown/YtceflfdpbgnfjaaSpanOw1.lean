/- The first statement of SpanOwn: three clones and three new variables, in whatever order. -/
import Derived.Test.YtceflfdpbgnfjaaSpanW
import Derived.RegionTactic
set_option linter.unusedVariables false
namespace Go.Proofs.Ytceflfdpbgnfjaa
open Go.RowKit
open SpanM
namespace SpanC
/-- a region in whatever order, by what holds behind each of its operations -/
theorem wpAny_inv {P : Program} {md : Region.Mode} {ops : Array Oper} {Q : Exit → Act → World → Prop} (I : Nat → Array Bool → Act → World → Prop)
    (hstep : ∀ n listed a w i, I (n + 1) listed a w → i ∈ Region.ready md ops listed → wpOp P ops Q i (fun a' w' => I n (listed.setIfInBounds i true) a' w') a w)
    (hdone : ∀ n listed a w, I n listed a w → Region.ready md ops listed = [] → Q .normal a w)
    (hzero : ∀ listed a w, I 0 listed a w → Region.ready md ops listed = []) :
    ∀ n listed a w, I n listed a w → wpAny P md ops Q n listed a w := by
  intro n
  induction n with
  | zero => intro listed a w h; exact ⟨hzero _ _ _ h, hdone _ _ _ _ h (hzero _ _ _ h)⟩
  | succ n ih => intro listed a w h; exact ⟨fun h0 => hdone _ _ _ _ h h0, fun i hi => wpOp_mono (fun a' w' h' => ih _ a' w' h') (hstep n listed a w i h hi)⟩
/-- what a clone is -/
def Cl (w : World) (u : Value) (l : List Sp) : Prop := ∃ a c, u = .slice a l.length c ∧ Sps w a l
theorem Cl.below {w w' : World} {u : Value} {l : List Sp} (h : Cl w u l) (hb : Below w.heap.size w w') : Cl w' u l := by
  obtain ⟨a, c, rfl, hs⟩ := h
  exact ⟨a, c, rfl, hs.below hb (Nat.le_refl _)⟩
theorem Cl.set {w : World} {u : Value} {l : List Sp} (h : Cl w u l) {p : Addr} {v : Value} (hp : ∃ a n c, w.cell? p = some (.slice a n c)) : Cl (w.setCell p v) u l := by
  obtain ⟨a, c, rfl, hs⟩ := h
  refine ⟨a, c, rfl, ?_⟩
  rcases hs with hs | ⟨b, off, rfl, hs⟩
  · exact .inl hs
  · obtain ⟨pa, pn, pc, hp⟩ := hp
    refine .inr ⟨b, off, rfl, fun i hi => ?_⟩
    obtain ⟨h1, h2⟩ := hs i hi
    refine ⟨(World.cell?_setCell_other _ _ _ _ ?_).trans h1, (World.cell?_setCell_other _ _ _ _ ?_).trans h2⟩
    · rintro rfl; rw [hp] at h1; simp at h1
    · rintro rfl; rw [hp] at h2; simp at h2
/-- a box of a slice -/
def Bx (w : World) (B : Nat) (u : Value) : Prop := ∃ b a n c, u = .pointer (some ⟨b, 0, none⟩) ∧ B ≤ b ∧ w.cell? ⟨b, 0, none⟩ = some (.slice a n c) ∧ w.frozen? ⟨b, 0, none⟩ = false
theorem Bx.below {w w' : World} {B : Nat} {u : Value} (h : Bx w B u) (hb : Below w.heap.size w w') : Bx w' B u := by
  obtain ⟨b, a, n, c, rfl, h0, h1, h2⟩ := h
  have hlt := World.block_lt_of_cell? _ _ h1
  exact ⟨b, a, n, c, rfl, h0, (hb.cell hlt).trans h1, (hb.frozen hlt).trans h2⟩
theorem Bx.set {w : World} {B : Nat} {u : Value} (h : Bx w B u) {p : Addr} {a' : Option Addr} {n' c' : Nat} (hp : (w.cell? p).isSome = true) : Bx (w.setCell p (.slice a' n' c')) B u := by
  obtain ⟨b, a, n, c, rfl, h0, h1, h2⟩ := h
  by_cases e : p = ⟨b, 0, none⟩
  · subst e
    exact ⟨b, _, _, _, rfl, h0, World.cell?_setCell_same _ _ _ h1, by simpa using h2⟩
  · exact ⟨b, a, n, c, rfl, h0, (World.cell?_setCell_other _ _ _ _ (fun h => e h)).trans h1, by simpa using h2⟩
end SpanC
end Go.Proofs.Ytceflfdpbgnfjaa
