/- Several texts, one behind the other: PjM. -/
import Derived.Test.YtpnahhpkaegeeaaPkM
/- Plain mathematics of plays: all jobs looked at, time by time. -/
set_option linter.unusedVariables false
namespace Go.Proofs.Ytpnahhpkaegeeaa
open SpanM SupM TaskM
namespace PlayM
namespace Pl
/-- the q-th job -/
def jq (P : Pl) (T : Int) (q : Nat) : Nat × Nat := (P.jobsL T).getD q (0, 0)
theorem jq_at (P : Pl) (T : Int) {q : Nat} (h : q < (P.jobsL T).length) : P.jq T q = (P.jobsL T)[q] := by simp [jq, List.getD, h]
theorem jq_mem {P : Pl} (hP : P.Ok) {T : Int} {q : Nat} (h : q < (P.jobsL T).length) : (P.jq T q).1 < P.l.length ∧ P.cm (P.jq T q).1 (P.jq T q).2 < T := by
  have := (mem_jobsL (i := (P.jq T q).1) (k := (P.jq T q).2) hP).1 (by rw [jq_at P T h]; exact List.getElem_mem h)
  exact this
def Lex (a b : Nat × Nat) : Prop := a.1 < b.1 ∨ (a.1 = b.1 ∧ a.2 < b.2)
theorem jobs_lex (P : Pl) (T : Int) : (P.jobsL T).Pairwise Lex := by
  unfold jobsL
  rw [List.pairwise_flatMap]
  refine ⟨fun i _ => ?_, ?_⟩
  · rw [List.pairwise_map]
    exact List.pairwise_lt_range.imp fun h => .inr ⟨rfl, h⟩
  · refine List.pairwise_lt_range.imp fun h x hx y hy => ?_
    obtain ⟨_, _, rfl⟩ := List.mem_map.1 hx
    obtain ⟨_, _, rfl⟩ := List.mem_map.1 hy
    exact .inl h
theorem jq_lex (P : Pl) {T : Int} {p q : Nat} (h : p < q) (hq : q < (P.jobsL T).length) : Lex (P.jq T p) (P.jq T q) := by
  rw [jq_at P T (by omega), jq_at P T hq]
  exact List.pairwise_iff_getElem.1 (P.jobs_lex T) p q (by omega) hq h
theorem jq_ne (P : Pl) {T : Int} {p q : Nat} (hp : p < (P.jobsL T).length) (hq : q < (P.jobsL T).length) (h : p ≠ q) : ¬ ((P.jq T p).1 = (P.jq T q).1 ∧ (P.jq T p).2 = (P.jq T q).2) := by
  rintro ⟨e1, e2⟩
  by_cases c : p < q
  · have := P.jq_lex c hq
    unfold Lex at this
    omega
  · have := P.jq_lex (show q < p by omega) hp
    unfold Lex at this
    omega
theorem jq_all {P : Pl} (hP : P.Ok) {T : Int} {i k : Nat} (hi : i < P.l.length) (hc : P.cm i k < T) : ∃ q, q < (P.jobsL T).length ∧ P.jq T q = (i, k) := by
  obtain ⟨q, hq, e⟩ := List.getElem_of_mem ((mem_jobsL hP (T := T)).2 ⟨hi, hc⟩)
  exact ⟨q, hq, by rw [jq_at P T hq, e]⟩
/-- the q-th job has come, and something is left of it -/
def Pq (P : Pl) (T : Int) (t q : Nat) : Prop := P.Pn (P.Lf t) t (P.jq T q).1 (P.jq T q).2
/-- the best of the first q -/
def Bp (P : Pl) (T : Int) (t q : Nat) (b : Int) : Prop := (b = -1 ∧ ∀ p, p < q → ¬ P.Pq T t p) ∨ ∃ β : Nat, b = (β : Int) ∧ β < q ∧ P.Pq T t β ∧ ∀ p, p < q → P.Pq T t p → P.Bef (P.jq T β).1 (P.jq T β).2 (P.jq T p).1 (P.jq T p).2
theorem Bp.start (P : Pl) (T : Int) (t : Nat) : P.Bp T t 0 (-1) := .inl ⟨rfl, fun p h => by omega⟩
theorem Bp.skip {P : Pl} {T : Int} {t q : Nat} {b : Int} (h : P.Bp T t q b) (hq : ¬ P.Pq T t q) : P.Bp T t (q + 1) b := by
  rcases h with ⟨h1, h2⟩ | ⟨β, h1, h2, h3, h4⟩
  · refine .inl ⟨h1, fun p hp => ?_⟩
    by_cases c : p = q
    · subst c; exact hq
    · exact h2 p (by omega)
  · refine .inr ⟨β, h1, by omega, h3, fun p hp hpp => ?_⟩
    by_cases c : p = q
    · subst c; exact absurd hpp hq
    · exact h4 p (by omega) hpp
theorem Bp.first {P : Pl} {T : Int} {t q : Nat} (h : P.Bp T t q (-1)) (hq : P.Pq T t q) : P.Bp T t (q + 1) q := by
  rcases h with ⟨_, h2⟩ | ⟨β, h1, _⟩
  · refine .inr ⟨q, rfl, by omega, hq, fun p hp hpp => ?_⟩
    by_cases c : p = q
    · subst c; exact .inr ⟨rfl, .inr ⟨rfl, Nat.le_refl _⟩⟩
    · exact absurd hpp (h2 p (by omega))
  · omega
theorem Bp.turn {P : Pl} {T : Int} {t q β : Nat} (h : P.Bp T t q β) (hq : P.Pq T t q) (hk : P.ky (P.jq T q).1 (P.jq T q).2 < P.ky (P.jq T β).1 (P.jq T β).2) : P.Bp T t (q + 1) q := by
  rcases h with ⟨h1, _⟩ | ⟨β', h1, h2, h3, h4⟩
  · omega
  · obtain rfl : β' = β := by omega
    refine .inr ⟨q, rfl, by omega, hq, fun p hp hpp => ?_⟩
    by_cases c : p = q
    · subst c; exact .inr ⟨rfl, .inr ⟨rfl, Nat.le_refl _⟩⟩
    · have := h4 p (by omega) hpp
      unfold Bef at this ⊢
      omega
theorem Bp.stay {P : Pl} {T : Int} {t q β : Nat} (h : P.Bp T t q β) (hn : q < (P.jobsL T).length) (hk : ¬ P.ky (P.jq T q).1 (P.jq T q).2 < P.ky (P.jq T β).1 (P.jq T β).2) : P.Bp T t (q + 1) β := by
  rcases h with ⟨h1, _⟩ | ⟨β', h1, h2, h3, h4⟩
  · omega
  · obtain rfl : β' = β := by omega
    refine .inr ⟨β', rfl, by omega, h3, fun p hp hpp => ?_⟩
    by_cases c : p = q
    · subst c
      have := P.jq_lex h2 hn
      unfold Lex at this
      unfold Bef
      omega
    · exact h4 p (by omega) hpp
theorem Bp.none {P : Pl} (hP : P.Ok) {T : Int} {t : Nat} (ht : (t : Int) < T) (h : P.Bp T t (P.jobsL T).length (-1)) : ∀ i k, ¬ P.Pn (P.Lf t) t i k := by
  intro i k hp
  rcases h with ⟨_, h2⟩ | ⟨β, h1, _⟩
  · obtain ⟨q, hq, e⟩ := jq_all hP hp.1 (T := T) (k := k) (by have := hp.2.1; omega)
    refine h2 q hq ?_
    unfold Pq
    rw [e]
    exact hp
  · omega
theorem Bp.best {P : Pl} (hP : P.Ok) {T : Int} {t β : Nat} (ht : (t : Int) < T) (h : P.Bp T t (P.jobsL T).length β) : β < (P.jobsL T).length ∧ P.Best (P.Lf t) t (P.jq T β).1 (P.jq T β).2 := by
  rcases h with ⟨h1, _⟩ | ⟨β', h1, h2, h3, h4⟩
  · omega
  · obtain rfl : β' = β := by omega
    refine ⟨h2, h3, fun j m hp => ?_⟩
    obtain ⟨q, hq, e⟩ := jq_all hP hp.1 (T := T) (k := m) (by have := hp.2.1; omega)
    have := h4 q hq (by unfold Pq; rw [e]; exact hp)
    rw [e] at this
    exact this
/-- what is left of each -/
noncomputable def lfs (P : Pl) (T : Int) (t : Nat) : List Int := (P.jobsL T).map fun b => P.Lf t b.1 b.2
theorem lfs_len (P : Pl) (T : Int) (t : Nat) : (P.lfs T t).length = (P.jobsL T).length := by simp [lfs]
theorem lfs_at (P : Pl) {T : Int} {t q : Nat} (h : q < (P.jobsL T).length) : (P.lfs T t).getD q 0 = P.Lf t (P.jq T q).1 (P.jq T q).2 := by
  rw [jq_at P T h]
  simp [lfs, List.getD, h]
/-- one time -/
theorem t_off {P : Pl} (hP : P.Ok) {T : Int} {t : Nat} (h : P.on t = false) : P.lfs T (t + 1) = P.lfs T t ∧ P.outs (t + 1) = P.outs t ∧ P.idles (t + 1) = P.idles t := by
  rcases cases1 hP (P.Lf t) t with ⟨_, _, e1, e2, e3⟩ | ⟨h1, _⟩ | ⟨i, k, h1, _⟩
  · refine ⟨?_, ?_, ?_⟩
    · unfold lfs
      show (P.jobsL T).map (fun b => P.next (P.Lf t) t b.1 b.2) = _
      rw [e1]
    · show P.outs t ++ P.out1 (P.Lf t) t = _
      rw [e2, List.append_nil]
    · show P.idles t + P.idle1 (P.Lf t) t = _
      rw [e3]; omega
  · rw [h] at h1; simp at h1
  · rw [h] at h1; simp at h1
theorem t_idle {P : Pl} (hP : P.Ok) {T : Int} {t : Nat} (h : P.on t = true) (hn : ∀ i k, ¬ P.Pn (P.Lf t) t i k) : P.lfs T (t + 1) = P.lfs T t ∧ P.outs (t + 1) = P.outs t ∧ P.idles (t + 1) = P.idles t + 1 := by
  rcases cases1 hP (P.Lf t) t with ⟨h1, _⟩ | ⟨_, _, _, e1, e2, e3⟩ | ⟨i, k, _, _, hb, _⟩
  · rw [h] at h1; simp at h1
  · refine ⟨?_, ?_, ?_⟩
    · unfold lfs
      show (P.jobsL T).map (fun b => P.next (P.Lf t) t b.1 b.2) = _
      rw [e1]
    · show P.outs t ++ P.out1 (P.Lf t) t = _
      rw [e2, List.append_nil]
    · show P.idles t + P.idle1 (P.Lf t) t = _
      rw [e3]
  · exact absurd hb.1 (hn _ _)
theorem t_work {P : Pl} (hP : P.Ok) {T : Int} {t β : Nat} (h : P.on t = true) (hβ : β < (P.jobsL T).length) (hb : P.Best (P.Lf t) t (P.jq T β).1 (P.jq T β).2) : P.lfs T (t + 1) = (P.lfs T t).set β (P.Lf t (P.jq T β).1 (P.jq T β).2 - 1) ∧ P.outs (t + 1) = (if P.Lf t (P.jq T β).1 (P.jq T β).2 = 1 then P.outs t ++ [(((P.jq T β).1 : Int), ((P.jq T β).2 : Int), P.cm (P.jq T β).1 (P.jq T β).2, (t : Int) + 1)] else P.outs t) ∧ P.idles (t + 1) = P.idles t := by
  rcases cases1 hP (P.Lf t) t with ⟨h1, _⟩ | ⟨_, _, hn, _⟩ | ⟨i, k, _, _, hb', e1, e2, e3⟩
  · rw [h] at h1; simp at h1
  · exact absurd hb.1 (hn _ _)
  · obtain ⟨f1, f2⟩ := hb'.one hb
    subst f1 f2
    refine ⟨?_, ?_, ?_⟩
    · apply List.ext_getElem
      · simp [lfs]
      · intro q h1 h2
        rw [lfs_len] at h1
        rw [List.getElem_set]
        have e0 : (P.lfs T (t + 1))[q]'(by rw [lfs_len]; exact h1) = P.next (P.Lf t) t (P.jq T q).1 (P.jq T q).2 := by
          rw [jq_at P T h1]
          simp only [lfs, List.getElem_map]
          rfl
        rw [e0, e1]
        by_cases c : β = q
        · subst c
          rw [if_pos rfl, less_at]
        · rw [if_neg c, less_other _ (P.jq_ne h1 hβ (fun e => c e.symm)), jq_at P T h1]
          simp only [lfs, List.getElem_map]
    · show P.outs t ++ P.out1 (P.Lf t) t = _
      rw [e2]
      split
      · rfl
      · rw [List.append_nil]
    · show P.idles t + P.idle1 (P.Lf t) t = _
      rw [e3]; omega
end Pl
end PlayM
end Go.Proofs.Ytpnahhpkaegeeaa
