/- Plain mathematics of a search span by span. -/
import Derived.Test.YtepnlfnnancnfaaSupM2
set_option linter.unusedVariables false
namespace Go.Proofs.Ytepnlfnnancnfaa
open SpanM
namespace SupM
theorem base_cb {size t u : Int} {l : List Sp} (hs : 1 ≤ size) (hg : good size (-1) l = true) (h0 : 0 ≤ u) (h1 : u ≤ size) : cb size l (t - t % size + u) = t / size * cnt l size + cnt l u := by
  have m3 := Int.emod_add_mul_ediv t size
  rw [show t - t % size + u = u + size * (t / size) by omega, cb_shiftk hs, cb_in hs hg h0 h1]; omega
theorem cb_mod {size t : Int} {l : List Sp} : cb size l t = t / size * cnt l size + cnt l (t % size) := rfl
/-- the spans ahead of the k-th are over -/
def Over (l : List Sp) (k : Nat) (m : Int) : Prop := ∀ j, j < k → (l.getD j (0, 0)).2 ≤ m
theorem cnt_step {size m u : Int} {l : List Sp} (hg : good size (-1) l = true) {k : Nat} (hk : k < l.length) (ho : Over l k m) (h1 : m < (l.getD k (0, 0)).2) (h2 : max m (l.getD k (0, 0)).1 ≤ u) (h3 : u ≤ (l.getD k (0, 0)).2) :
    cnt l u = cnt l m + (u - max m (l.getD k (0, 0)).1) := by
  obtain ⟨g1, g2, g3, g4, g5⟩ := good_at hg hk
  by_cases c : (l.getD k (0, 0)).1 ≤ m
  · rw [cnt_from hg hk (by omega) h3, cnt_from hg hk c (by omega)]; omega
  · have e : cnt l m = ah l k := by
      have e := congrArg (fun l => cnt l m) (split_at l k hk)
      simp only [cnt_append, cnt] at e
      rw [e, cnt_full _ _ fun y hy => ⟨(g1 y hy).1, ?_⟩, cnt_none _ _ fun y hy => by have := g2 y hy; omega]
      · unfold ah; omega
      · obtain ⟨j, hj, e2⟩ := List.mem_iff_getElem.1 hy
        rw [List.length_take] at hj
        have := ho j (by omega)
        rw [List.getElem_take] at e2
        rw [← e2]
        simpa [List.getD, show j < l.length by omega] using this
    rw [cnt_from hg hk (by omega) h3, e]; omega
theorem cnt_over {size m : Int} {l : List Sp} (hg : good size (-1) l = true) (ho : Over l l.length m) : cnt l m = cnt l size := by
  rw [cnt_full l m, cnt_full l size]
  · intro y hy
    have := good_each hg y hy
    omega
  · intro y hy
    have := good_each hg y hy
    obtain ⟨j, hj, e⟩ := List.mem_iff_getElem.1 hy
    have := ho j hj
    rw [← e]
    simp [List.getD, hj] at this
    have h := good_each hg l[j] (by simp)
    omega
/-- a search for r more from t on, begun at t0 for n -/
def Srch (size : Int) (l : List Sp) (t0 n t r : Int) : Prop := t0 ≤ t ∧ 1 ≤ r ∧ cb size l t + r = cb size l t0 + n
theorem Srch.lt {size t0 n t r : Int} {l : List Sp} (hs : 1 ≤ size) (hg : good size (-1) l = true) (h0 : 0 ≤ t0) (hn : n ≤ cnt l size) (h : Srch size l t0 n t r) : t < t0 + size := by
  obtain ⟨h1, h2, h3⟩ := h
  by_cases c : t < t0 + size
  · exact c
  · have a := cb_mono hs hg (show 0 ≤ t0 + size by omega) (show t0 + size ≤ t by omega)
    rw [cb_shift hs] at a
    omega
theorem Srch.round {size t0 n t r : Int} {l : List Sp} (hs : 1 ≤ size) (hg : good size (-1) l = true) (h : Srch size l t0 n t r) (ho : Over l l.length (t % size)) : Srch size l t0 n (t - t % size + size) r := by
  obtain ⟨h1, h2, h3⟩ := h
  have m2 := Int.emod_lt_of_pos t (show 0 < size by omega)
  refine ⟨by omega, h2, ?_⟩
  rw [base_cb hs hg (by omega) (Int.le_refl _), ← cnt_over hg ho, ← h3, cb_mod, cnt_over hg ho]
theorem Srch.span {size t0 n t r : Int} {l : List Sp} (hs : 1 ≤ size) (hg : good size (-1) l = true) (ht : 0 ≤ t) (h : Srch size l t0 n t r) {k : Nat} (hk : k < l.length) (ho : Over l k (t % size)) (h1 : t % size < (l.getD k (0, 0)).2) (u : Int) (h2 : max (t % size) (l.getD k (0, 0)).1 ≤ u) (h3 : u ≤ (l.getD k (0, 0)).2) :
    cb size l (t - t % size + u) = cb size l t + (u - max (t % size) (l.getD k (0, 0)).1) := by
  obtain ⟨g1, g2, g3, g4, g5⟩ := good_at hg hk
  rw [base_cb hs hg (by omega) (by omega), cnt_step hg hk ho h1 h2 h3, cb_mod (t := t)]; omega
/-- found -/
theorem Srch.found {size t0 n t r q : Int} {l : List Sp} (hs : 1 ≤ size) (hg : good size (-1) l = true) (h0 : 0 ≤ t0) (hq : 0 ≤ q) (h : Srch size l t0 n t r) {k : Nat} (hk : k < l.length) (ho : Over l k (t % size)) (h1 : t % size < (l.getD k (0, 0)).2) (h2 : r ≤ (l.getD k (0, 0)).2 - max (t % size) (l.getD k (0, 0)).1) :
    fr size l t0 (n + q * cnt l size) = q * size + max t (t - t % size + (l.getD k (0, 0)).1) + r - t0 := by
  have hr := h.2.1
  have m1 := Int.emod_nonneg t (show size ≠ 0 by omega)
  obtain ⟨g1, g2, g3, g4, g5⟩ := good_at hg hk
  have ht : 0 ≤ t := by have := h.1; omega
  have m3 := Int.emod_add_mul_ediv t size
  have hq2 : 0 ≤ t / size := Int.ediv_nonneg ht (by omega)
  have hq3 : 0 ≤ size * (t / size) := Int.mul_nonneg (by omega) hq2
  have hq4 : 0 ≤ size * q := Int.mul_nonneg (by omega) hq
  have e := h.span hs hg ht hk ho h1 (max (t % size) (l.getD k (0, 0)).1 + r) (by omega) (by omega)
  have hE : EndP size l (cb size l t0 + (n + q * cnt l size)) (t - t % size + (max (t % size) (l.getD k (0, 0)).1 + r) + size * q) := by
    refine ⟨by omega, ?_, ?_⟩
    · rw [cb_shiftk hs, e]
      have := h.2.2
      omega
    · rw [show t - t % size + (max (t % size) (l.getD k (0, 0)).1 + r) + size * q - 1 = (max (t % size) (l.getD k (0, 0)).1 + r - 1) + size * (t / size) + size * q by omega, Int.add_mul_emod_self_left, Int.add_mul_emod_self_left]
      exact mem_span hg (x := l.getD k (0, 0)) (by simp [List.getD, hk]) (by omega) (by omega)
  unfold fr
  rw [endT_eq hs hg hE, Int.mul_comm q]
  omega
/-- not found in the k-th -/
theorem Srch.next {size t0 n t r : Int} {l : List Sp} (hs : 1 ≤ size) (hg : good size (-1) l = true) (h0 : 0 ≤ t0) (h : Srch size l t0 n t r) {k : Nat} (hk : k < l.length) (ho : Over l k (t % size)) (h1 : t % size < (l.getD k (0, 0)).2) (h2 : (l.getD k (0, 0)).2 - max (t % size) (l.getD k (0, 0)).1 < r) :
    Srch size l t0 n (t - t % size + (l.getD k (0, 0)).2) (r - ((l.getD k (0, 0)).2 - max (t % size) (l.getD k (0, 0)).1)) := by
  have m1 := Int.emod_nonneg t (show size ≠ 0 by omega)
  obtain ⟨g1, g2, g3, g4, g5⟩ := good_at hg hk
  have ht : 0 ≤ t := by have := h.1; omega
  have e := h.span hs hg ht hk ho h1 (l.getD k (0, 0)).2 (by omega) (Int.le_refl _)
  obtain ⟨q1, q2, q3⟩ := h
  exact ⟨by omega, by omega, by rw [e]; omega⟩
theorem Over.next {size m : Int} {l : List Sp} (hg : good size (-1) l = true) {k : Nat} (hk : k < l.length) (h : (l.getD k (0, 0)).2 ≤ m) : Over l (k + 1) m := by
  intro j hj
  by_cases c : j = k
  · subst c; exact h
  · obtain ⟨g1, g2, g3, g4, g5⟩ := good_at hg hk
    have := (g1 (l.getD j (0, 0)) (by
      rw [List.mem_iff_getElem]
      exact ⟨j, by simp; omega, by simp [List.getD, show j < l.length by omega]⟩)).2
    omega
theorem mod_of {size t m : Int} (h0 : 0 ≤ m) (h1 : m < size) : (t - t % size + m) % size = m := mod_at h0 h1
end SupM
end Go.Proofs.Ytepnlfnnancnfaa
