/- Plain mathematics of windows in a frame. -/
import Derived.Test.YtgehdpohiphcpaaSpanM
set_option linter.unusedVariables false
namespace Go.Proofs.Ytgehdpohiphcpaa
namespace TabM
open SpanM
/-- From, Long, Owner -/
abbrev Win := Int × Int × Int
def z3 : Win := (0, 0, 0)

theorem drop_get {α : Type} (d : α) (l : List α) (k : Nat) (h : k < l.length) : l.drop k = l.getD k d :: l.drop (k + 1) := by
  rw [List.drop_eq_getElem_cons h]; simp [List.getD, h]
theorem take_snoc {α : Type} (d : α) (l : List α) (k : Nat) (h : k < l.length) : l.take (k + 1) = l.take k ++ [l.getD k d] := by
  rw [List.take_succ_eq_append_getElem h]; simp [List.getD, h]

/-- is a window right, where the one ahead of it ends at e? -/
def wfit (frame e : Int) (x : Win) : Prop := 0 ≤ x.2.2 ∧ x.2.2 ≤ 15 ∧ e ≤ x.1 ∧ 1 ≤ x.2.1 ∧ x.1 + x.2.1 ≤ frame
instance (frame e : Int) (x : Win) : Decidable (wfit frame e x) := by unfold wfit; infer_instance
def wgood (frame : Int) : Int → List Win → Bool
  | _, [] => true
  | e, x :: r => decide (wfit frame e x) && wgood frame (x.1 + x.2.1) r
theorem wgood_cons {frame e : Int} {x : Win} {r : List Win} : wgood frame e (x :: r) = true ↔ wfit frame e x ∧ wgood frame (x.1 + x.2.1) r = true := by
  simp [wgood]
def wend : Int → List Win → Int
  | e, [] => e
  | _, x :: r => wend (x.1 + x.2.1) r
theorem wend_snoc (e : Int) (l : List Win) (x : Win) : wend e (l ++ [x]) = x.1 + x.2.1 := by
  induction l generalizing e with
  | nil => rfl
  | cons y r ih => exact ih _
theorem wgood_append {frame : Int} : ∀ {e : Int} {l r : List Win}, wgood frame e (l ++ r) = true ↔ wgood frame e l = true ∧ wgood frame (wend e l) r = true := by
  intro e l
  induction l generalizing e with
  | nil => intro r; simp [wgood, wend]
  | cons y s ih =>
    intro r
    rw [List.cons_append, wgood_cons, wgood_cons, ih]
    simp [wend, and_assoc]
theorem wgood_snoc {frame e : Int} {l : List Win} {x : Win} : wgood frame e (l ++ [x]) = true ↔ wgood frame e l = true ∧ wfit frame (wend e l) x := by
  rw [wgood_append, wgood_cons]; simp [wgood]
theorem wgood_weak {frame e f : Int} {l : List Win} (h : wgood frame e l = true) (hf : f ≤ e) : wgood frame f l = true := by
  cases l with
  | nil => rfl
  | cons x r =>
    obtain ⟨h1, h2⟩ := wgood_cons.1 h
    exact wgood_cons.2 ⟨⟨h1.1, h1.2.1, by have := h1.2.2.1; omega, h1.2.2.2⟩, h2⟩
theorem wgood_each {frame : Int} : ∀ {e : Int} {l : List Win}, wgood frame e l = true → ∀ x ∈ l, wfit frame e x := by
  intro e l
  induction l generalizing e with
  | nil => intro _ x hx; simp at hx
  | cons y r ih =>
    intro h x hx
    obtain ⟨h1, h2⟩ := wgood_cons.1 h
    rcases List.mem_cons.1 hx with rfl | hx
    · exact h1
    · have := ih h2 x hx
      unfold wfit at *
      omega
theorem wend_bd {frame e : Int} {l : List Win} (h : wgood frame e l = true) (he : e ≤ frame) : e ≤ wend e l ∧ wend e l ≤ frame := by
  induction l generalizing e with
  | nil => simp [wend]; exact he
  | cons y r ih =>
    obtain ⟨h1, h2⟩ := wgood_cons.1 h
    unfold wfit at h1
    have := ih h2 (by omega)
    simp only [wend]; omega
theorem wgood_take {frame e : Int} {l : List Win} (h : wgood frame e l = true) (k : Nat) : wgood frame e (l.take k) = true := by
  rw [← List.take_append_drop k l] at h
  exact (wgood_append.1 h).1

/-- what Check says -/
def tchkG (frame : Int) (l : List Win) : Int := if wgood frame 0 l = true then 0 else 4
def tchk (frame : Int) (l : List Win) : Int := if 1 ≤ frame ∧ frame ≤ 1000000 then (if 200 < l.length then 2 else tchkG frame l) else 1
theorem tchk_zero {frame : Int} {l : List Win} (h : tchk frame l = 0) : 1 ≤ frame ∧ frame ≤ 1000000 ∧ l.length ≤ 200 ∧ wgood frame 0 l = true := by
  unfold tchk tchkG at h
  split at h
  · split at h
    · simp at h
    · split at h
      · exact ⟨by omega, by omega, by omega, ‹_›⟩
      · simp at h
  · simp at h
theorem tchk_of {frame : Int} {l : List Win} (h1 : 1 ≤ frame) (h2 : frame ≤ 1000000) (h3 : l.length ≤ 200) (h4 : wgood frame 0 l = true) : tchk frame l = 0 := by
  unfold tchk tchkG
  rw [if_pos ⟨h1, h2⟩, if_neg (by omega), if_pos h4]

/-- whose time it is -/
def inW (x : Win) (t : Int) : Prop := x.1 ≤ t ∧ t < x.1 + x.2.1
instance (x : Win) (t : Int) : Decidable (inW x t) := by unfold inW; infer_instance
def wown : List Win → Int → Int
  | [], _ => -1
  | x :: r, t => if inW x t then x.2.2 else wown r t
theorem wown_pos {x : Win} {r : List Win} {t : Int} (h : inW x t) : wown (x :: r) t = x.2.2 := by simp [wown, h]
theorem wown_neg {x : Win} {r : List Win} {t : Int} (h : ¬ inW x t) : wown (x :: r) t = wown r t := by simp [wown, h]
theorem wown_append_neg {l r : List Win} {t : Int} (h : ∀ x ∈ l, ¬ inW x t) : wown (l ++ r) t = wown r t := by
  induction l with
  | nil => rfl
  | cons x s ih =>
    rw [List.cons_append, wown_neg (h x (by simp)), ih fun y hy => h y (by simp [hy])]
theorem wown_none {l : List Win} {t : Int} (h : ∀ x ∈ l, ¬ inW x t) : wown l t = -1 := by
  have := wown_append_neg (r := []) h
  rwa [List.append_nil] at this
theorem wown_some {l : List Win} {t : Int} : (∃ x ∈ l, inW x t ∧ wown l t = x.2.2) ∨ ((∀ x ∈ l, ¬ inW x t) ∧ wown l t = -1) := by
  induction l with
  | nil => right; simp [wown]
  | cons y r ih =>
    by_cases h : inW y t
    · left; exact ⟨y, by simp, h, wown_pos h⟩
    · rw [wown_neg h]
      rcases ih with ⟨x, hx, h1, h2⟩ | ⟨h1, h2⟩
      · left; exact ⟨x, by simp [hx], h1, h2⟩
      · right
        refine ⟨fun x hx => ?_, h2⟩
        rcases List.mem_cons.1 hx with rfl | hx
        · exact h
        · exact h1 x hx
/-- windows that have no time in common -/
def Apart (l : List Win) : Prop := l.Pairwise fun x y => x.1 + x.2.1 ≤ y.1 ∨ y.1 + y.2.1 ≤ x.1
theorem wgood_apart {frame : Int} : ∀ {e : Int} {l : List Win}, wgood frame e l = true → Apart l := by
  intro e l
  induction l generalizing e with
  | nil => intro _; exact List.Pairwise.nil
  | cons x r ih =>
    intro h
    obtain ⟨h1, h2⟩ := wgood_cons.1 h
    refine List.Pairwise.cons (fun y hy => ?_) (ih h2)
    have := wgood_each h2 y hy
    unfold wfit at this
    left; omega
theorem apart_one {l : List Win} (h : Apart l) {x y : Win} {t : Int} (hx : x ∈ l) (hy : y ∈ l) (h1 : inW x t) (h2 : inW y t) : x = y := by
  induction l with
  | nil => simp at hx
  | cons z r ih =>
    obtain ⟨k1, k2⟩ := List.pairwise_cons.1 h
    unfold inW at h1 h2
    rcases List.mem_cons.1 hx with e1 | hx' <;> rcases List.mem_cons.1 hy with e2 | hy'
    · rw [e1, e2]
    · have := k1 y hy'; rw [← e1] at this; omega
    · have := k1 x hx'; rw [← e2] at this; omega
    · exact ih k2 hx' hy'
theorem wown_in {l : List Win} (h : Apart l) {x : Win} {t : Int} (hx : x ∈ l) (h1 : inW x t) : wown l t = x.2.2 := by
  rcases wown_some (l := l) (t := t) with ⟨y, hy, h2, h3⟩ | ⟨h2, _⟩
  · rw [h3, apart_one h hx hy h1 h2]
  · exact absurd h1 (h2 x hx)
theorem wown_range {frame : Int} {l : List Win} (h : wgood frame 0 l = true) (t : Int) : -1 ≤ wown l t ∧ wown l t ≤ 15 := by
  rcases wown_some (l := l) (t := t) with ⟨x, hx, _, h2⟩ | ⟨_, h2⟩
  · have := wgood_each h x hx
    unfold wfit at this
    omega
  · omega

/-- the spans of one owner -/
def spo (o : Int) : List Win → List Sp
  | [] => []
  | x :: r => if x.2.2 = o then (x.1, x.1 + x.2.1) :: spo o r else spo o r
theorem spo_append (o : Int) (l r : List Win) : spo o (l ++ r) = spo o l ++ spo o r := by
  induction l with
  | nil => rfl
  | cons x s ih => simp only [List.cons_append, spo, ih]; split <;> simp
theorem spo_len (o : Int) (l : List Win) : (spo o l).length ≤ l.length := by
  induction l with
  | nil => simp [spo]
  | cons x s ih => simp only [spo]; split <;> simp <;> omega
theorem spo_mem {o : Int} {l : List Win} {y : Sp} (h : y ∈ spo o l) : ∃ x ∈ l, x.2.2 = o ∧ y = (x.1, x.1 + x.2.1) := by
  induction l with
  | nil => simp [spo] at h
  | cons x s ih =>
    simp only [spo] at h
    split at h
    · rcases List.mem_cons.1 h with rfl | h
      · exact ⟨x, by simp, ‹_›, rfl⟩
      · obtain ⟨z, hz, h2⟩ := ih h; exact ⟨z, by simp [hz], h2⟩
    · obtain ⟨z, hz, h2⟩ := ih h; exact ⟨z, by simp [hz], h2⟩
theorem mem_spo {o : Int} {l : List Win} {t : Int} : mem (spo o l) t = true ↔ ∃ x ∈ l, x.2.2 = o ∧ inW x t := by
  induction l with
  | nil => simp [spo]
  | cons x s ih =>
    simp only [spo]
    split
    · rw [mem_cons, Bool.or_eq_true, decide_eq_true_eq, ih]
      constructor
      · rintro (h | ⟨y, hy, h⟩)
        · exact ⟨x, by simp, ‹_›, h⟩
        · exact ⟨y, by simp [hy], h⟩
      · rintro ⟨y, hy, h1, h2⟩
        rcases List.mem_cons.1 hy with rfl | hy
        · exact .inl h2
        · exact .inr ⟨y, hy, h1, h2⟩
    · rw [ih]
      constructor
      · rintro ⟨y, hy, h⟩; exact ⟨y, by simp [hy], h⟩
      · rintro ⟨y, hy, h1, h2⟩
        rcases List.mem_cons.1 hy with rfl | hy
        · exact absurd h1 ‹_›
        · exact ⟨y, hy, h1, h2⟩
theorem spo_own {o : Int} {l : List Win} (h : Apart l) (ho : 0 ≤ o) (t : Int) : mem (spo o l) t = decide (wown l t = o) := by
  rw [Bool.eq_iff_iff, mem_spo, decide_eq_true_eq]
  constructor
  · rintro ⟨x, hx, h1, h2⟩; rw [wown_in h hx h2, h1]
  · intro h3
    rcases wown_some (l := l) (t := t) with ⟨x, hx, h1, h2⟩ | ⟨_, h2⟩
    · exact ⟨x, hx, by rw [← h2, h3], h1⟩
    · omega

/-- owners take turns: a list of windows tells f, from a on up to b; p: who is ahead -/
def Rle (f : Int → Int) : Option Int → Int → List Win → Int → Prop
  | _, a, [], b => a = b
  | p, a, x :: r, b => x.1 = a ∧ 1 ≤ x.2.1 ∧ p ≠ some x.2.2 ∧ (∀ t, inW x t → f t = x.2.2) ∧ Rle f (some x.2.2) (a + x.2.1) r b
def lastO : Option Int → List Win → Option Int
  | p, [] => p
  | _, x :: r => lastO (some x.2.2) r
theorem lastO_snoc (p : Option Int) (l : List Win) (x : Win) : lastO p (l ++ [x]) = some x.2.2 := by
  induction l generalizing p with
  | nil => rfl
  | cons y r ih => exact ih _
theorem Rle.append {f : Int → Int} {p : Option Int} {a b : Int} {l r : List Win} : Rle f p a (l ++ r) b ↔ ∃ c, Rle f p a l c ∧ Rle f (lastO p l) c r b := by
  induction l generalizing p a with
  | nil => simp [Rle, lastO]
  | cons x s ih =>
    simp only [List.cons_append, Rle, lastO, ih]
    constructor
    · rintro ⟨h1, h2, h3, h4, c, h5, h6⟩; exact ⟨c, ⟨h1, h2, h3, h4, h5⟩, h6⟩
    · rintro ⟨c, ⟨h1, h2, h3, h4, h5⟩, h6⟩; exact ⟨h1, h2, h3, h4, c, h5, h6⟩
theorem Rle.le {f : Int → Int} {p : Option Int} {a b : Int} {l : List Win} (h : Rle f p a l b) : a + l.length ≤ b := by
  induction l generalizing p a with
  | nil => simp [Rle] at h; simp; omega
  | cons x r ih =>
    obtain ⟨h1, h2, h3, h4, h5⟩ := h
    have := ih h5
    simp only [List.length_cons]; omega
theorem Rle.ext {f g : Int → Int} {p : Option Int} {a b : Int} {l : List Win} (h : Rle f p a l b) (e : ∀ t, a ≤ t → t < b → f t = g t) : Rle g p a l b := by
  induction l generalizing p a with
  | nil => exact h
  | cons x r ih =>
    obtain ⟨h1, h2, h3, h4, h5⟩ := h
    have := h5.le
    refine ⟨h1, h2, h3, fun t ht => ?_, ih h5 fun t k1 k2 => e t (by omega) k2⟩
    rw [← e t (by unfold inW at ht; omega) (by unfold inW at ht; omega)]
    exact h4 t ht
/-- the shorter stretch has no more turns; of one stretch there is one list -/
theorem Rle.short {f : Int → Int} {p : Option Int} {a b c : Int} {l m : List Win} (h : Rle f p a l b) (k : Rle f p a m c) (hbc : b ≤ c) : l.length ≤ m.length ∧ (b = c → l = m) := by
  induction l generalizing p a m with
  | nil =>
    refine ⟨by simp, fun e => ?_⟩
    cases m with
    | nil => rfl
    | cons y s =>
      have := k.le
      simp [Rle] at h
      simp only [List.length_cons] at this
      omega
  | cons x r ih =>
    have hle := h.le
    cases m with
    | nil =>
      simp [Rle] at k
      simp only [List.length_cons] at hle
      omega
    | cons y s =>
      obtain ⟨h1, h2, h3, h4, h5⟩ := h
      obtain ⟨k1, k2, k3, k4, k5⟩ := k
      have o1 := h4 a (by unfold inW; omega)
      have o2 := k4 a (by unfold inW; omega)
      have oo : x.2.2 = y.2.2 := by rw [← o1, o2]
      rcases Int.lt_trichotomy x.2.1 y.2.1 with hh | hh | hh
      · cases r with
        | nil =>
          refine ⟨by simp, fun e => ?_⟩
          simp only [Rle] at h5
          have := k5.le
          omega
        | cons z q =>
          exfalso
          obtain ⟨g1, g2, g3, g4, _⟩ := h5
          have e1 := g4 (a + x.2.1) (by unfold inW; omega)
          have e2 := k4 (a + x.2.1) (by unfold inW; omega)
          apply g3
          rw [← e1, e2, oo]
      · have e : x = y := Prod.ext (by omega) (Prod.ext hh oo)
        subst e
        have := ih h5 k5
        exact ⟨by simp only [List.length_cons]; omega, fun e => by rw [this.2 e]⟩
      · cases s with
        | nil =>
          simp only [Rle] at k5
          have := h5.le
          omega
        | cons z q =>
          exfalso
          obtain ⟨g1, g2, g3, g4, _⟩ := k5
          have e1 := g4 (a + y.2.1) (by unfold inW; omega)
          have e2 := h4 (a + y.2.1) (by unfold inW; omega)
          apply g3
          rw [← e1, e2, oo]
theorem Rle.unique {f : Int → Int} {p : Option Int} {a b : Int} {l m : List Win} (h : Rle f p a l b) (k : Rle f p a m b) : l = m := (h.short k (Int.le_refl _)).2 rfl
/-- what add does -/
def addW (l : List Win) (w : Win) : List Win :=
  if w.2.1 ≤ 0 then l else
  match l.getLast? with
  | some y => if y.2.2 = w.2.2 then l.dropLast ++ [(y.1, y.2.1 + w.2.1, y.2.2)] else l ++ [w]
  | none => [w]
theorem addW_skip {l : List Win} {w : Win} (h : w.2.1 ≤ 0) : addW l w = l := by simp [addW, h]
theorem addW_nil {w : Win} (h : 0 < w.2.1) : addW [] w = [w] := by
  unfold addW; rw [if_neg (by omega)]; rfl
theorem addW_same {l : List Win} {y w : Win} (h : 0 < w.2.1) (e : y.2.2 = w.2.2) : addW (l ++ [y]) w = l ++ [(y.1, y.2.1 + w.2.1, y.2.2)] := by
  unfold addW; rw [if_neg (by omega)]; simp [e]
theorem addW_more {l : List Win} {y w : Win} (h : 0 < w.2.1) (e : y.2.2 ≠ w.2.2) : addW (l ++ [y]) w = l ++ [y] ++ [w] := by
  unfold addW; rw [if_neg (by omega)]; simp [e]
theorem nil_or_snoc {α : Type} (l : List α) : l = [] ∨ ∃ l' y, l = l' ++ [y] := by
  rcases List.eq_nil_or_concat l with h | ⟨a, b, h⟩
  · exact .inl h
  · exact .inr ⟨a, b, by rw [h, List.concat_eq_append]⟩
theorem addW_len (l : List Win) (w : Win) : l.length ≤ (addW l w).length ∧ (addW l w).length ≤ l.length + 1 := by
  by_cases h : w.2.1 ≤ 0
  · rw [addW_skip h]; omega
  · rcases nil_or_snoc l with rfl | ⟨l', y, rfl⟩
    · rw [addW_nil (by omega)]; simp
    · by_cases e : y.2.2 = w.2.2
      · rw [addW_same (by omega) e]; simp
      · rw [addW_more (by omega) e]; simp
theorem Rle.add {f : Int → Int} {a c : Int} {l : List Win} {w : Win} (h : Rle f none a l c) (hw : 0 < w.2.1 → w.1 = c) (hf : ∀ t, inW w t → f t = w.2.2) : Rle f none a (addW l w) (c + max 0 w.2.1) := by
  by_cases h0 : w.2.1 ≤ 0
  · rw [addW_skip h0, show c + max 0 w.2.1 = c by omega]; exact h
  · have hw' := hw (by omega)
    rw [show c + max 0 w.2.1 = c + w.2.1 by omega]
    rcases nil_or_snoc l with rfl | ⟨l', y, rfl⟩
    · rw [addW_nil (by omega)]
      simp [Rle] at h ⊢
      exact ⟨by omega, by omega, hf, by omega⟩
    · obtain ⟨d, h1, h2⟩ := Rle.append.1 h
      obtain ⟨g1, g2, g3, g4, g5⟩ := h2
      simp only [Rle] at g5
      by_cases e : y.2.2 = w.2.2
      · rw [addW_same (by omega) e]
        refine Rle.append.2 ⟨d, h1, g1, by simp only; omega, g3, fun t ht => ?_, ?_⟩
        · unfold inW at ht
          simp only at ht
          by_cases k : t < y.1 + y.2.1
          · exact g4 t ⟨by omega, k⟩
          · rw [hf t ⟨by omega, by omega⟩]; exact e.symm
        · simp only [Rle]; omega
      · rw [addW_more (by omega) e]
        refine Rle.append.2 ⟨c, h, by omega, by omega, ?_, hf, by simp only [Rle]⟩
        rw [lastO_snoc]
        simpa using e
/-- how many times come with a shift -/
theorem Rle.shift {f : Int → Int} {d : Int} {p : Option Int} {a b : Int} {l : List Win} (h : Rle f p a l b) : Rle (fun t => f (t - d)) p (a + d) (l.map fun x => (x.1 + d, x.2)) (b + d) := by
  induction l generalizing p a with
  | nil => simp [Rle] at h ⊢; omega
  | cons x r ih =>
    obtain ⟨h1, h2, h3, h4, h5⟩ := h
    refine ⟨by simp only; omega, h2, h3, fun t ht => h4 (t - d) ?_, ?_⟩
    · unfold inW at *; simp only at ht; omega
    · have := ih h5
      rwa [show a + x.2.1 + d = a + d + x.2.1 by omega] at this
end TabM
end Go.Proofs.Ytgehdpohiphcpaa
