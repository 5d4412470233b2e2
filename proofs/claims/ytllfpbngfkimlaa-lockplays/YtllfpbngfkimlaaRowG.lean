/- Rows that a call makes, of elements of any number of cells. -/
import Derived.Test.YtllfpbngfkimlaaSpanW
import Derived.Lib.OwnBridge
import Derived.Laws.IdiomCopy
import Derived.Laws.OwnMore
import Derived.Lib.SliceRun
import Derived.Shelf.SlicesQ.Load
set_option linter.unusedVariables false
namespace Go.Proofs.Ytllfpbngfkimlaa
open Go.RowKit Go.Shelf
open SpanM SpanC
namespace RowG
structure Enc (α : Type) where
  enc : α → List Value
  k : Nat
  hk : ∀ x, (enc x).length = k
  h1 : ∀ x, ∀ u ∈ enc x, u.oneCell' = true
variable {α : Type}
def Enc.flat (E : Enc α) : List α → List Value
  | [] => []
  | x :: r => E.enc x ++ E.flat r
theorem flat_length (E : Enc α) (l : List α) : (E.flat l).length = l.length * E.k := by
  induction l with
  | nil => simp [Enc.flat]
  | cons x r ih => simp only [Enc.flat, List.length_append, List.length_cons, ih, E.hk, Nat.add_mul]; omega
theorem flat_append (E : Enc α) (l r : List α) : E.flat (l ++ r) = E.flat l ++ E.flat r := by
  induction l with
  | nil => rfl
  | cons x s ih => simp [Enc.flat, ih]
theorem flat_one (E : Enc α) (l : List α) : ∀ u ∈ E.flat l, u.oneCell' = true := by
  induction l with
  | nil => simp [Enc.flat]
  | cons x r ih =>
    intro u hu
    simp only [Enc.flat, List.mem_append] at hu
    rcases hu with hu | hu
    · exact E.h1 x u hu
    · exact ih u hu
theorem split_at (l : List α) (i : Nat) (h : i < l.length) : l = l.take i ++ l[i] :: l.drop (i + 1) := by
  rw [← List.drop_eq_getElem_cons h, List.take_append_drop]
theorem flat_get (E : Enc α) (l : List α) (i j : Nat) (h : i < l.length) (hj : j < E.k) : (E.flat l)[i * E.k + j]? = (E.enc l[i])[j]? := by
  have e := split_at l i h
  have hl : (E.flat (l.take i)).length = i * E.k := by rw [flat_length, List.length_take, Nat.min_eq_left (by omega)]
  have : E.flat l = E.flat (l.take i) ++ (E.enc l[i] ++ E.flat (l.drop (i + 1))) := by
    conv => lhs; rw [e]
    rw [flat_append]; rfl
  rw [this, List.getElem?_append_right (by omega), hl, Nat.add_sub_cancel_left, List.getElem?_append_left (by rw [E.hk]; exact hj)]
theorem flat_take (E : Enc α) (l : List α) (m : Nat) (h : m ≤ l.length) : (E.flat l).take (m * E.k) = E.flat (l.take m) := by
  have hl : (E.flat (l.take m)).length = m * E.k := by rw [flat_length, List.length_take, Nat.min_eq_left h]
  conv => lhs; rw [← List.take_append_drop m l]
  rw [flat_append, ← hl, List.take_left]
/-- what a list of cells is behind a store of some in a row -/
def putL : List Value → Nat → List Value → List Value
  | xs, _, [] => xs
  | xs, o, v :: r => putL (xs.set o v) (o + 1) r
theorem putL_eq : ∀ (vs : List Value) (a b c : List Value), b.length = vs.length → putL (a ++ b ++ c) a.length vs = a ++ vs ++ c
  | [], a, b, c, h => by
    have : b = [] := List.length_eq_zero_iff.1 (by simpa using h)
    subst this; rfl
  | v :: r, a, b, c, h => by
    cases b with
    | nil => simp at h
    | cons y s =>
      have hs : s.length = r.length := by simpa using h
      have e1 : (a ++ y :: s ++ c).set a.length v = (a ++ [v]) ++ s ++ c := by
        rw [List.append_assoc, List.set_append_right _ _ (Nat.le_refl _)]
        simp
      unfold putL
      rw [e1, show a.length + 1 = (a ++ [v]).length by simp, putL_eq r (a ++ [v]) s c hs]
      simp
theorem set_split (l : List α) (i : Nat) (h : i < l.length) (y : α) : l.set i y = l.take i ++ y :: l.drop (i + 1) := by
  conv => lhs; rw [split_at l i h]
  rw [List.set_append_right _ _ (by rw [List.length_take]; omega), List.length_take, Nat.min_eq_left (by omega), Nat.sub_self]
  rfl
theorem flat_set (E : Enc α) (l : List α) (i : Nat) (h : i < l.length) (y : α) : putL (E.flat l) (i * E.k) (E.enc y) = E.flat (l.set i y) := by
  have hl : (E.flat (l.take i)).length = i * E.k := by rw [flat_length, List.length_take, Nat.min_eq_left (by omega)]
  have e1 : E.flat l = E.flat (l.take i) ++ E.enc l[i] ++ E.flat (l.drop (i + 1)) := by
    conv => lhs; rw [split_at l i h]
    rw [flat_append, List.append_assoc]; rfl
  rw [e1, ← hl, putL_eq _ _ _ _ (by rw [E.hk, E.hk]), set_split l i h y, flat_append, List.append_assoc]
  rfl
theorem own_setCells {B e size g n cap : Nat} : ∀ (vs : List Value) (o : Nat) {w : World} {xs : List Value}, w.ownsRow B e size (.slice (some ⟨g, 0, none⟩) n cap) n xs →
    (w.setCells g o vs).ownsRow B e size (.slice (some ⟨g, 0, none⟩) n cap) n (putL xs o vs) ∧ w.grownBy (w.setCells g o vs) (some g)
  | [], _, w, _, h => ⟨h, ⟨rfl, rfl, rfl, Nat.le_refl _, fun _ _ _ => rfl⟩⟩
  | v :: r, o, w, _, h => by
    obtain ⟨h1, h2⟩ := World.ownsRow.stored h o v
    obtain ⟨h3, h4⟩ := own_setCells (B := B) (e := e) (size := size) (g := g) (n := n) (cap := cap) r (o + 1) h1
    exact ⟨h3, h2.trans h4⟩
theorem own_take {w : World} {B e size g n m cap : Nat} {xs : List Value} (h : w.ownsRow B e size (.slice (some ⟨g, 0, none⟩) n cap) n xs) (hm : m ≤ n) : w.ownsRow B e size (.slice (some ⟨g, 0, none⟩) m cap) m (xs.take (m * size)) := by
  have hle : m * size ≤ n * size := Nat.mul_le_mul_right _ hm
  refine ⟨by rw [List.length_take, h.1]; omega, ?_⟩
  rcases h.2 with ⟨e0, _⟩ | ⟨g', cap', cur, e0, hb, hg, h1, h2, h3, h4⟩
  · simp at e0
  · simp only [Value.slice.injEq, Option.some.injEq, Addr.mk.injEq, and_true, true_and] at e0
    obtain ⟨rfl, rfl⟩ := e0
    refine .inr ⟨g, cap, cur, rfl, hb, hg, by omega, h2, h3, ?_⟩
    rw [← h4, List.take_take, Nat.min_eq_left hle]
/-- a row that a call has made, its memory from block B on -/
def Own (E : Enc α) (T : Nat) (w : World) (B : Nat) (v : Value) (l : List α) : Prop := w.ownsRow B T E.k v l.length (E.flat l)
variable {E : Enc α} {T : Nat}
theorem Own.nil (E : Enc α) (T : Nat) (w : World) (B : Nat) : Own E T w B (.slice none 0 0) [] := World.ownsRow_nil w B _ _
theorem Own.form {w : World} {B : Nat} {v : Value} {l : List α} (h : Own E T w B v l) : (v = .slice none 0 0 ∧ l = []) ∨ ∃ g cap, v = .slice (some ⟨g, 0, none⟩) l.length cap ∧ B ≤ g ∧ g < w.heap.size ∧ l.length ≤ cap ∧ cap ≤ maxLen := by
  rcases h.2 with ⟨rfl, h0⟩ | ⟨g, cap, cur, rfl, hb, hg, h1, h2, _⟩
  · exact .inl ⟨rfl, List.length_eq_zero_iff.1 h0⟩
  · exact .inr ⟨g, cap, rfl, hb, (Array.getElem?_eq_some_iff.1 hg).1, h1, h2⟩
theorem Own.slice {w : World} {B : Nat} {v : Value} {l : List α} (h : Own E T w B v l) : ∃ a c, v = .slice a l.length c := by
  rcases h.form with ⟨rfl, rfl⟩ | ⟨g, cap, rfl, _⟩
  · exact ⟨_, _, rfl⟩
  · exact ⟨_, _, rfl⟩
theorem Own.pos {w : World} {B : Nat} {v : Value} {l : List α} (h : Own E T w B v l) (h0 : 0 < l.length) : ∃ g cap, v = .slice (some ⟨g, 0, none⟩) l.length cap ∧ B ≤ g ∧ g < w.heap.size ∧ l.length ≤ cap ∧ cap ≤ maxLen := by
  rcases h.form with ⟨rfl, rfl⟩ | h
  · simp at h0
  · exact h
theorem Own.kept {w w' : World} {B : Nat} {v : Value} {l : List α} {row : Option Nat} (h : Own E T w B v l) (hg : w.grownBy w' row) (hne : v.ownBlock = none ∨ v.ownBlock ≠ row) : Own E T w' B v l := World.ownsRow.kept h hg hne
theorem Own.below {w w' : World} {B C : Nat} {v : Value} {l : List α} (h : Own E T w B v l) (hb : Below C w w') (hC : w.heap.size ≤ C) : Own E T w' B v l :=
  World.ownsRow.kept h (grown_of_below hb hC none) (by cases v.ownBlock <;> simp)
theorem Own.base {w : World} {B C : Nat} {v : Value} {l : List α} (h : Own E T w B v l) (hC : C ≤ B) : Own E T w C v l := by
  refine ⟨h.1, ?_⟩
  rcases h.2 with h0 | ⟨g, cap, cur, h1, h2, h3⟩
  · exact .inl h0
  · exact .inr ⟨g, cap, cur, h1, by omega, h3⟩
theorem Own.lt {w : World} {B : Nat} {v : Value} {l : List α} (h : Own E T w B v l) : ∀ k, v.ownBlock = some k → B ≤ k ∧ k < w.heap.size := World.ownsRow.lt h
/-- memory from C on may have turned -/
theorem Own.belowG {w w' : World} {B C : Nat} {v : Value} {l : List α} (ho : Own E T w B v l) (hg : w.grownBy w' v.ownBlock) (hB : C ≤ B) (hs : C ≤ w.heap.size) : Below C w w' :=
  (Below.refl C w).grown hg hs (fun k hk => by have := (ho.lt k hk).1; omega)
theorem Own.cell {w : World} {B g n cap : Nat} {l : List α} (h : Own E T w B (.slice (some ⟨g, 0, none⟩) n cap) l) (i j : Nat) (hi : i < l.length) (hj : j < E.k) : w.cell? ⟨g, i * E.k + j, none⟩ = (E.enc l[i])[j]? := by
  obtain ⟨a, c, e⟩ := h.slice
  simp only [Value.slice.injEq] at e
  obtain ⟨_, rfl, _⟩ := e
  have hb : i * E.k + j < l.length * E.k := by
    have := Nat.mul_le_mul_right E.k (show i + 1 ≤ l.length from hi)
    rw [Nat.add_mul] at this; omega
  rw [World.ownsRow.cellAt h _ hb, flat_get E l i j hi hj]
theorem Own.frozen {w : World} {B g n cap : Nat} {l : List α} (h : Own E T w B (.slice (some ⟨g, 0, none⟩) n cap) l) (j : Nat) : w.frozen? ⟨g, j, none⟩ = false := by
  obtain ⟨a, c, e⟩ := h.slice
  simp only [Value.slice.injEq] at e
  obtain ⟨_, rfl, _⟩ := e
  exact World.ownsRow.frozenAt h j
theorem add_off (g o j : Nat) : (⟨g, o, none⟩ : Addr).add j = ⟨g, o + j, none⟩ := by
  by_cases h0 : j = 0 <;> simp [Addr.add, h0]
theorem Own.load {w : World} {B g n cap : Nat} {l : List α} (h : Own E T w B (.slice (some ⟨g, 0, none⟩) n cap) l) (i : Nat) (hi : i < l.length) :
    Sem.run Try.prog (loadCellsFrom ⟨g, i * E.k, none⟩ 0 E.k #[]) w = .ok (E.enc l[i]).toArray w := by
  refine run_loadCellsFrom_list _ _ _ _ _ (E.hk _) fun j v hv => ?_
  have hj : j < E.k := by rw [← E.hk l[i]]; exact (List.getElem?_eq_some_iff.1 hv).1
  rw [add_off, h.cell i j hi hj, hv]
theorem Own.store {w : World} {B g n cap : Nat} {l : List α} (h : Own E T w B (.slice (some ⟨g, 0, none⟩) n cap) l) (i : Nat) (hi : i < l.length) (y : α) :
    Sem.run Try.prog (storeCells ⟨g, i * E.k, none⟩ (E.enc y) 0) w = .ok () (w.setCells g (i * E.k) (E.enc y)) := by
  have := run_storeCells_cells (P := Try.prog) g (i * E.k) (E.enc y) 0 w (fun j hj => by
    rw [E.hk] at hj
    rw [Nat.add_zero, h.cell i j hi hj, List.getElem?_eq_getElem (by rw [E.hk]; exact hj)]; rfl) (fun j hj => h.frozen _) (E.h1 y)
  simpa using this
theorem Own.set {w : World} {B g n cap : Nat} {l : List α} (h : Own E T w B (.slice (some ⟨g, 0, none⟩) n cap) l) (i : Nat) (hi : i < l.length) (y : α) :
    Own E T (w.setCells g (i * E.k) (E.enc y)) B (.slice (some ⟨g, 0, none⟩) n cap) (l.set i y) ∧ w.grownBy (w.setCells g (i * E.k) (E.enc y)) (some g) := by
  obtain ⟨a, c, e⟩ := h.slice
  simp only [Value.slice.injEq] at e
  obtain ⟨_, rfl, _⟩ := e
  obtain ⟨h1, h2⟩ := own_setCells (E.enc y) (i * E.k) h
  rw [flat_set E l i hi y] at h1
  refine ⟨?_, h2⟩
  unfold Own
  rw [List.length_set]
  exact h1
/-- one cell of it is turned -/
theorem Own.set1 {w : World} {B g n cap : Nat} {l : List α} (h : Own E T w B (.slice (some ⟨g, 0, none⟩) n cap) l) (i j : Nat) (hi : i < l.length) (u : Value) (y : α) (hy : (E.enc l[i]).set j u = E.enc y) (hj : j < E.k) :
    Own E T (w.setCell ⟨g, i * E.k + j, none⟩ u) B (.slice (some ⟨g, 0, none⟩) n cap) (l.set i y) ∧ w.grownBy (w.setCell ⟨g, i * E.k + j, none⟩ u) (some g) := by
  obtain ⟨a, c, e⟩ := h.slice
  simp only [Value.slice.injEq] at e
  obtain ⟨_, rfl, _⟩ := e
  obtain ⟨h1, h2⟩ := World.ownsRow.stored h (i * E.k + j) u
  refine ⟨?_, h2⟩
  have hl : (E.flat (l.take i)).length = i * E.k := by rw [flat_length, List.length_take, Nat.min_eq_left (by omega)]
  have e1 : E.flat l = E.flat (l.take i) ++ (E.enc l[i] ++ E.flat (l.drop (i + 1))) := by
    conv => lhs; rw [split_at l i hi]
    rw [flat_append]; rfl
  have e2 : (E.flat l).set (i * E.k + j) u = E.flat (l.set i y) := by
    rw [e1, List.set_append_right _ _ (by omega), hl, Nat.add_sub_cancel_left, List.set_append_left _ _ (by rw [E.hk]; exact hj), hy, set_split l i hi y, flat_append]
    rfl
  unfold Own
  rw [List.length_set, ← e2]
  exact h1
theorem Own.take {w : World} {B g n cap m : Nat} {l : List α} (h : Own E T w B (.slice (some ⟨g, 0, none⟩) n cap) l) (hm : m ≤ l.length) : Own E T w B (.slice (some ⟨g, 0, none⟩) m cap) (l.take m) := by
  obtain ⟨a, c, e⟩ := h.slice
  simp only [Value.slice.injEq] at e
  obtain ⟨_, rfl, _⟩ := e
  have := own_take h hm
  rw [flat_take E l m hm] at this
  unfold Own
  rw [List.length_take, Nat.min_eq_left hm]
  exact this
theorem own_snoc {w : World} {B k n : Nat} {v : Value} {Z : List α} {x : α} (h : w.ownsRow B T k v n (E.flat Z ++ E.enc x)) (hk : k = E.k) (hn : n = Z.length + 1) : Own E T w B v (Z ++ [x]) := by
  subst hk hn
  unfold Own
  rw [flat_append, List.length_append]
  simpa [Enc.flat] using h
/-- rows that are read, wherever they lie -/
def Rd (E : Enc α) (w : World) (a : Option Addr) (l : List α) : Prop :=
  l = [] ∨ ∃ b off, a = some ⟨b, off, none⟩ ∧ ∀ i j, (hi : i < l.length) → j < E.k → w.cell? ⟨b, off + i * E.k + j, none⟩ = (E.enc l[i])[j]?
theorem Rd.below {w w' : World} {a : Option Addr} {l : List α} {B : Nat} (h : Rd E w a l) (hb : Below B w w') (hB : w.heap.size ≤ B) : Rd E w' a l := by
  rcases h with rfl | ⟨b, off, rfl, h⟩
  · exact .inl rfl
  · refine .inr ⟨b, off, rfl, fun i j hi hj => ?_⟩
    have h1 := h i j hi hj
    rw [List.getElem?_eq_getElem (by rw [E.hk]; exact hj)] at h1 ⊢
    have hlt := World.block_lt_of_cell? w _ h1
    exact (hb.cell (by simpa using Nat.lt_of_lt_of_le hlt hB)).trans h1
theorem Rd.at {w : World} {a : Option Addr} {l : List α} (h : Rd E w a l) (i : Nat) (hi : i < l.length) : ∃ b off, a = some ⟨b, off, none⟩ ∧ ∀ j, j < E.k → w.cell? ⟨b, off + i * E.k + j, none⟩ = (E.enc l[i])[j]? := by
  rcases h with rfl | ⟨b, off, rfl, h⟩
  · simp at hi
  · exact ⟨b, off, rfl, fun j hj => h i j hi hj⟩
theorem Own.rd {w : World} {B : Nat} {v : Value} {l : List α} (h : Own E T w B v l) : ∃ a cap, v = .slice a l.length cap ∧ Rd E w a l ∧ (a = none → l.length = 0 ∧ cap = 0) := by
  rcases h.form with ⟨rfl, rfl⟩ | ⟨g, cap, rfl, hb, hg, h1, h2⟩
  · exact ⟨none, 0, rfl, .inl rfl, fun _ => ⟨rfl, rfl⟩⟩
  · refine ⟨_, cap, rfl, .inr ⟨g, 0, rfl, fun i j hi hj => ?_⟩, by simp⟩
    rw [Nat.zero_add]
    exact h.cell i j hi hj
end RowG
end Go.Proofs.Ytllfpbngfkimlaa
