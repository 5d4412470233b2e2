/- Lists of spans that a call makes: add, tell. -/
import Derived.Test.YtnbfadfhpegddaaSpanC2
import Derived.WalkSmall
import Derived.OwnWalk
import Derived.Laws.AppendOwn
import Derived.Laws.OwnMore
import Derived.Laws.AppendOwnNone
import Derived.Deep.AppendLies
import Derived.Maps.AppendAt
import Derived.Maps.Range
set_option linter.unusedVariables false
namespace Go.Proofs.Ytnbfadfhpegddaa
open Go.RowKit
open SpanM
namespace SpanC
theorem hid {p : Prop} (h : p) : Hid p := h
theorem infoSp : (Try.prog.info? 58).map (fun i => (i.zero, i.size, i.bytes)) = some (some (.agg #[.int .i64 0, .int .i64 0]), 2, 16) := by kernel_rfl

/-- spans as cells -/
def flat : List Sp → List Value
  | [] => []
  | x :: r => .int .i64 x.1 :: .int .i64 x.2 :: flat r
theorem flat_length (l : List Sp) : (flat l).length = l.length * 2 := by
  induction l with
  | nil => rfl
  | cons x r ih => simp only [flat, List.length_cons, ih]; omega
theorem flat_append (l r : List Sp) : flat (l ++ r) = flat l ++ flat r := by
  induction l with
  | nil => rfl
  | cons x s ih => simp [flat, ih]
theorem flat_at (l : List Sp) (i : Nat) (h : i < l.length) : (flat l)[i * 2]? = some (.int .i64 (l.getD i (0, 0)).1) ∧ (flat l)[i * 2 + 1]? = some (.int .i64 (l.getD i (0, 0)).2) := by
  induction l generalizing i with
  | nil => simp at h
  | cons x r ih =>
    cases i with
    | zero => simp [flat]
    | succ i =>
      have := ih i (by simpa using h)
      rw [show (i + 1) * 2 = i * 2 + 1 + 1 by omega]
      simpa [flat, List.getD] using this
theorem flat_one (l : List Sp) : ∀ u ∈ flat l, u.oneCell' = true := by
  induction l with
  | nil => simp [flat]
  | cons x r ih =>
    intro u hu
    simp only [flat, List.mem_cons] at hu
    rcases hu with rfl | rfl | hu
    · rfl
    · rfl
    · exact ih u hu

/-- a list of spans that a call has made, its memory from block B on -/
def Own (w : World) (B : Nat) (v : Value) (l : List Sp) : Prop := w.ownsRow B 58 2 v l.length (flat l)
theorem Own.nil (w : World) (B : Nat) : Own w B (.slice none 0 0) [] := World.ownsRow_nil w B _ _
theorem Own.form {w : World} {B : Nat} {v : Value} {l : List Sp} (h : Own w B v l) : (v = .slice none 0 0 ∧ l = []) ∨ ∃ g cap, v = .slice (some ⟨g, 0, none⟩) l.length cap ∧ B ≤ g ∧ g < w.heap.size ∧ l.length ≤ cap ∧ cap ≤ maxLen := by
  rcases h.2 with ⟨rfl, h0⟩ | ⟨g, cap, cur, rfl, hb, hg, h1, h2, _⟩
  · exact .inl ⟨rfl, List.length_eq_zero_iff.1 h0⟩
  · exact .inr ⟨g, cap, rfl, hb, (Array.getElem?_eq_some_iff.1 hg).1, h1, h2⟩
theorem Own.sps {w : World} {B : Nat} {v : Value} {l : List Sp} (h : Own w B v l) : ∃ a cap, v = .slice a l.length cap ∧ Sps w a l ∧ l.length ≤ cap ∧ cap ≤ maxLen := by
  rcases h.form with ⟨rfl, rfl⟩ | ⟨g, cap, rfl, hb, hg, h1, h2⟩
  · exact ⟨none, 0, rfl, .inl rfl, by simp, by unfold maxLen; omega⟩
  · refine ⟨_, cap, rfl, .inr ⟨g, 0, rfl, fun i hi => ?_⟩, h1, h2⟩
    obtain ⟨f1, f2⟩ := flat_at l i hi
    have c1 := World.ownsRow.cellAt h (i * 2) (by omega)
    have c2 := World.ownsRow.cellAt h (i * 2 + 1) (by omega)
    rw [Nat.zero_add]
    exact ⟨by rw [c1, f1], by rw [c2, f2]⟩
theorem Own.kept {w w' : World} {B : Nat} {v : Value} {l : List Sp} (h : Own w B v l) (hg : w.grownBy w' none) : Own w' B v l :=
  World.ownsRow.kept h hg (by cases v.ownBlock <;> simp)
theorem grown_of_below {w w' : World} {B : Nat} (hb : Below B w w') (hB : w.heap.size ≤ B) (row : Option Nat) : w.grownBy w' row :=
  ⟨hb.os, hb.tape, hb.output, hb.size, fun k hk _ => hb.block k (by omega)⟩
theorem Own.below {w w' : World} {B C : Nat} {v : Value} {l : List Sp} (h : Own w B v l) (hb : Below C w w') (hC : w.heap.size ≤ C) : Own w' B v l := h.kept (grown_of_below hb hC none)
theorem Own.base {w : World} {B C : Nat} {v : Value} {l : List Sp} (h : Own w B v l) (hC : C ≤ B) : Own w C v l := by
  refine ⟨h.1, ?_⟩
  rcases h.2 with h0 | ⟨g, cap, cur, h1, h2, h3⟩
  · exact .inl h0
  · exact .inr ⟨g, cap, cur, h1, by omega, h3⟩
/-- memory from B on may have turned -/
theorem below_grown {w w' : World} {B C : Nat} {v : Value} {l : List Sp} (ho : Own w B v l) (hg : w.grownBy w' v.ownBlock) (hB : C ≤ B) (hs : C ≤ w.heap.size) : Below C w w' :=
  (Below.refl C w).grown hg hs (fun k hk => by have := (World.ownsRow.lt ho k hk).1; omega)

theorem Own.slice {w : World} {B : Nat} {v : Value} {l : List Sp} (h : Own w B v l) : ∃ a n c, v = .slice a n c := by
  rcases h.form with ⟨rfl, _⟩ | ⟨g, cap, rfl, _⟩
  · exact ⟨_, _, _, rfl⟩
  · exact ⟨_, _, _, rfl⟩
/-- what is told of a set, with an error if it has too many spans -/
def Told (size : Int) (r : List Sp) (B : Nat) (e : Ending) (w' : World) : Prop :=
  (r.length ≤ 200 ∧ ∃ v, e = .returned (.tuple #[.agg #[.int .i64 size, v], .int .i64 0]) ∧ Own w' B v r) ∨
  (200 < r.length ∧ e = .returned (.tuple #[.agg #[.int .i64 0, .slice none 0 0], .int .i64 2]))
end SpanC
end Go.Proofs.Ytnbfadfhpegddaa
