/- What is told of tasks and a set, in plain words. -/
import Derived.Test.YtpeapmefnabhfaaTskG
set_option linter.unusedVariables false
namespace Go.Proofs.Ytpeapmefnabhfaa
open Go.RowKit hiding tok
open SpanM SupM SpanC TaskM
open RowsO hiding Tk
namespace TaskC
theorem lack_ex (size : Int) (sl : List Sp) (l : List Tk) (h0 : ¬ Bad size sl l 0) (k : Nat) : (∀ m, 0 ≤ m → m ≤ (k : Int) → ¬ Bad size sl l m) ∨ ∃ v, 1 ≤ v ∧ v ≤ (k : Int) ∧ Bad size sl l v ∧ ∀ m, 0 ≤ m → m < v → ¬ Bad size sl l m := by
  induction k with
  | zero =>
    refine .inl fun m m1 m2 => ?_
    obtain rfl : m = 0 := by omega
    exact h0
  | succ k ih =>
    rcases ih with ih | ⟨v, v1, v2, v3⟩
    · by_cases c : Bad size sl l ((k : Int) + 1)
      · exact .inr ⟨(k : Int) + 1, by omega, by omega, c, fun m m1 m2 => ih m m1 (by omega)⟩
      · refine .inl fun m m1 m2 => ?_
        by_cases c2 : m ≤ k
        · exact ih m m1 c2
        · obtain rfl : m = (k : Int) + 1 := by omega
          exact c
    · exact .inr ⟨v, v1, by omega, v3⟩
theorem lack_spec {size R : Int} {sl : List Sp} {l : List Tk} (h0 : ¬ Bad size sl l 0) (hR : 0 ≤ R) : LackP size sl l R (lack size sl l R) := by
  have : ∃ v, LackP size sl l R v := by
    rcases lack_ex size sl l h0 R.toNat with h | ⟨v, v1, v2, v3⟩
    · exact ⟨0, .inl ⟨rfl, fun m m1 m2 => h m m1 (by omega)⟩⟩
    · exact ⟨v, .inr ⟨v1, by omega, v3⟩⟩
  exact Classical.epsilon_spec (p := LackP size sl l R) this
/-- there is enough for whatever number of times -/
def Fit (l : List Tk) (size : Int) (sl : List Sp) : Prop := ∀ n, 0 ≤ n → ¬ Bad size sl l n
theorem evs_dvd {l : List Tk} {size : Int} (h : ∀ x ∈ l, tok x) (he : rndE l = 0) (hs : 1 ≤ size) : ∀ x ∈ l, x.2.1 ∣ both l size := by
  intro x hx
  have r1 : 1 ≤ rnd l := by
    rcases rnd_cases h with ⟨_, _, r, _⟩ | ⟨e, _⟩
    · exact r
    · omega
  exact Int.dvd_trans (rnd_dvd h he x hx) (both_dvd' r1 hs).1
theorem fit_cases {l : List Tk} {size : Int} {sl : List Sp} (h : fitE l size sl = 0) :
    (fitN l size sl = 0 ∧ fitB l size sl = true ∧ Fit l size sl) ∨
    (1 ≤ fitN l size sl ∧ fitN l size sl ≤ 50000 ∧ fitB l size sl = false ∧ Bad size sl l (fitN l size sl) ∧ ∀ m, 0 ≤ m → m < fitN l size sl → ¬ Bad size sl l m) := by
  obtain ⟨hk, hc, he, r1, b1, b2⟩ := fitE_zero h
  obtain ⟨s1, s2, s3, s4⟩ := chk_zero hc
  obtain ⟨hl, hg⟩ := tchk_zero hk
  have sp := lack_spec (R := both l size) (bad_zero s1 s4 hg) (by omega)
  have e1 : fitN l size sl = lack size sl l (both l size) := by unfold fitN; rw [if_pos h]
  have e2 : fitB l size sl = (fitN l size sl == 0) := by unfold fitB; rw [if_pos h]
  rw [← e1] at sp
  rcases sp with ⟨p1, p2⟩ | ⟨p1, p2, p3, p4⟩
  · exact .inl ⟨p1, by rw [e2, p1]; rfl, fits_round s1 s4 hg b1 (evs_dvd hg he s1) (both_dvd' r1 s1).2 p2⟩
  · exact .inr ⟨p1, by omega, by rw [e2]; simp; omega, p3, p4⟩
theorem fit_err {l : List Tk} {size : Int} {sl : List Sp} (h : fitE l size sl ≠ 0) : fitN l size sl = 0 ∧ fitB l size sl = false := by
  unfold fitB fitN; rw [if_neg h, if_neg h]; exact ⟨rfl, rfl⟩
theorem fit_true {l : List Tk} {size : Int} {sl : List Sp} (h : fitB l size sl = true) : fitE l size sl = 0 ∧ Fit l size sl := by
  by_cases c : fitE l size sl = 0
  · rcases fit_cases c with ⟨_, _, f⟩ | ⟨_, _, f, _⟩
    · exact ⟨c, f⟩
    · rw [f] at h; simp at h
  · rw [(fit_err c).2] at h; simp at h
theorem fit_of {l : List Tk} {size : Int} {sl : List Sp} (h : fitE l size sl = 0) (f : Fit l size sl) : fitB l size sl = true ∧ fitN l size sl = 0 := by
  rcases fit_cases h with ⟨n, b, _⟩ | ⟨p1, _, _, b, _⟩
  · exact ⟨b, n⟩
  · exact absurd b (f _ (by omega))
end TaskC
end Go.Proofs.Ytpeapmefnabhfaa
