/- A play that is known: one job in two times of four. -/
import Derived.Test.YtgplaoojimpbaaaPlyE
set_option linter.unusedVariables false
namespace Go.Proofs.Ytgplaoojimpbaaa
open Go.RowKit hiding tok
open Go.Shelf Go.Sort
open SpanM SpanC TaskM PlayM
namespace PlayC
open RowG
def PL : Pl := ⟨[(2, 8, 8)], [1], 2, [(1, 2)], 1⟩
theorem PL_ok : PL.Ok := by
  refine ⟨fun x hx => ?_, rfl, fun x hx => ?_, by decide, by decide⟩
  · simp [PL] at hx; subst hx; unfold tok; decide
  · simp [PL] at hx; omega
theorem PL_cm (k : Nat) : PL.cm 0 k = 1 + (k : Int) * 8 := rfl
theorem PL_on (t : Nat) : PL.on t = decide (t % 2 = 1) := by
  unfold Pl.on PlayM.inS PL
  show mem [(1, 2)] ((t : Int) % 2) = _
  have h : (t : Int) % 2 = 0 ∨ (t : Int) % 2 = 1 := by omega
  rcases h with h | h
  · rw [h, decide_eq_false (by omega)]; decide
  · rw [h, decide_eq_true (by omega)]; decide
theorem PL_pn {L : Nat → Nat → Int} {t i k : Nat} (ht : t < 9) : PL.Pn L t i k ↔ (i = 0 ∧ k = 0 ∧ 1 ≤ t ∧ 0 < L 0 0) := by
  unfold Pl.Pn
  have hl : PL.l.length = 1 := rfl
  rw [hl]
  constructor
  · rintro ⟨h1, h2, h3⟩
    obtain rfl : i = 0 := by omega
    rw [PL_cm] at h2
    obtain rfl : k = 0 := by omega
    exact ⟨rfl, rfl, by omega, h3⟩
  · rintro ⟨rfl, rfl, h1, h2⟩
    exact ⟨by omega, by rw [PL_cm]; omega, h2⟩
/-- one time -/
theorem PL_step {t : Nat} (ht : t < 9) {z : Int} {o : List Pl.Dn} {n : Int} (h1 : PL.Lf t 0 0 = z) (h2 : PL.outs t = o) (h3 : PL.idles t = n) :
    PL.Lf (t + 1) 0 0 = (if t % 2 = 1 ∧ 0 < z ∧ 1 ≤ t then z - 1 else z) ∧ PL.outs (t + 1) = (if t % 2 = 1 ∧ 1 ≤ t ∧ z = 1 then o ++ [(0, 0, 1, (t : Int) + 1)] else o) ∧ PL.idles (t + 1) = (if t % 2 = 1 ∧ ¬ (0 < z ∧ 1 ≤ t) then n + 1 else n) := by
  have e1 : PL.Lf (t + 1) = PL.next (PL.Lf t) t := rfl
  have e2 : PL.outs (t + 1) = PL.outs t ++ PL.out1 (PL.Lf t) t := rfl
  have e3 : PL.idles (t + 1) = PL.idles t + PL.idle1 (PL.Lf t) t := rfl
  rw [e1, e2, e3, h2, h3]
  rcases Pl.cases1 PL_ok (PL.Lf t) t with ⟨o1, _, c1, c2, c3⟩ | ⟨o1, _, hn, c1, c2, c3⟩ | ⟨i, k, o1, _, hb, c1, c2, c3⟩
  · rw [PL_on] at o1
    have : ¬ t % 2 = 1 := by simpa using o1
    rw [c1, c2, c3, if_neg (by omega), if_neg (by omega), if_neg (by omega), h1]
    simp
  · rw [PL_on] at o1
    have h5 : t % 2 = 1 := by simpa using o1
    have h6 : ¬ (1 ≤ t ∧ 0 < z) := fun h => hn 0 0 ((PL_pn ht).2 ⟨rfl, rfl, h.1, by rw [h1]; exact h.2⟩)
    rw [c1, c2, c3, if_neg (by omega), if_neg (by omega), if_pos (by omega), h1]
    simp
  · rw [PL_on] at o1
    have h5 : t % 2 = 1 := by simpa using o1
    obtain ⟨rfl, rfl, h7, h8⟩ := (PL_pn ht).1 hb.1
    rw [h1] at h8
    rw [h1] at c2
    refine ⟨?_, ?_, ?_⟩
    · rw [c1, Pl.less_at, h1, if_pos ⟨h5, h8, h7⟩]
    · rw [c2]
      by_cases hz : z = 1
      · rw [if_pos hz, if_pos ⟨h5, h7, hz⟩]; rfl
      · rw [if_neg hz, if_neg (fun h => hz h.2.2), List.append_nil]
    · rw [c3, if_neg (fun h => h.2 ⟨h8, h7⟩)]; omega
theorem PL_all : PL.outs 8 = [(0, 0, 1, 4)] ∧ PL.idles 8 = 2 := by
  have s0 : PL.Lf 0 0 0 = 2 ∧ PL.outs 0 = [] ∧ PL.idles 0 = 0 := ⟨rfl, rfl, rfl⟩
  have s1 := PL_step (t := 0) (by omega) s0.1 s0.2.1 s0.2.2
  simp at s1
  have s2 := PL_step (t := 1) (by omega) s1.1 s1.2.1 s1.2.2
  simp at s2
  have s3 := PL_step (t := 2) (by omega) s2.1 s2.2.1 s2.2.2
  simp at s3
  have s4 := PL_step (t := 3) (by omega) s3.1 s3.2.1 s3.2.2
  simp at s4
  have s5 := PL_step (t := 4) (by omega) s4.1 s4.2.1 s4.2.2
  simp at s5
  have s6 := PL_step (t := 5) (by omega) s5.1 s5.2.1 s5.2.2
  simp at s6
  have s7 := PL_step (t := 6) (by omega) s6.1 s6.2.1 s6.2.2
  simp at s7
  have s8 := PL_step (t := 7) (by omega) s7.1 s7.2.1 s7.2.2
  simp at s8
  exact ⟨s8.2.1, s8.2.2⟩
theorem PL_plE : plE PL 8 = 0 := by
  have h1 : TaskC.tchk PL.l = 0 := by
    unfold TaskC.tchk TaskC.tchkG
    rw [if_neg (by decide), if_pos]
    exact PL_ok.tk
  have h2 : chk PL.size PL.sl = 0 := by decide
  have h3 : fstE PL.l.length PL.f = 0 := by decide
  have h4 : PL.untE 8 = 0 := by decide
  unfold plE
  rw [if_pos h1, if_pos h2, if_pos h3, if_pos (.inl rfl), h4]
theorem PL_D : plD PL 8 = [(0, 0, 1, 4)] ∧ plN PL 8 = 2 := by
  unfold plD plN
  rw [if_pos PL_plE, if_pos PL_plE]
  exact PL_all
end PlayC
end Go.Proofs.Ytgplaoojimpbaaa
