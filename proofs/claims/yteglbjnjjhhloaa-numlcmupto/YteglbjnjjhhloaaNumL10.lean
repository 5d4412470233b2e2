/- The walk of NumLcm, where the list is not too long. -/
import Derived.Test.YteglbjnjjhhloaaNumL7
import Derived.Test.YteglbjnjjhhloaaNumS
import Derived.Test.YteglbjnjjhhloaaNumM3
import Derived.Test.YteglbjnjjhhloaaNumV
set_option linter.unusedVariables false
namespace Go.Proofs.Yteglbjnjjhhloaa
open Go.RowKit
open NumM Base
namespace NumC
theorem ok_mem {zs : List Int} (h : zs.all okB = true) : ∀ x ∈ zs, Ok1 x := fun x hx => by
  have := List.all_eq_true.1 h x hx
  simpa [okB, Ok1] using this

/-- where Lcm answers OK -/
theorem say_ok {zs : List Int} (h : (lcmSay zs).2 = 0) : zs.length ≤ 100 ∧ zs.all okB = true ∧ (lcmSay zs).1 = lc 1 zs ∧ lc 1 zs ≤ 1099511627776 := by
  unfold lcmSay at h ⊢
  by_cases h1 : 100 < zs.length
  · rw [if_pos h1] at h; simp at h
  · rw [if_neg h1] at h ⊢
    by_cases h2 : zs.all okB = true
    · rw [if_pos h2] at h ⊢
      have e := lcmFrom_eq zs 1 (by omega) (by omega) (ok_mem h2)
      by_cases h3 : lc 1 zs ≤ 1099511627776
      · rw [if_pos h3] at e
        rw [e]
        exact ⟨by omega, h2, rfl, h3⟩
      · rw [if_neg h3] at e
        rw [e] at h
        simp [lcmErr] at h
    · rw [if_neg h2] at h; simp at h
theorem say_of {zs : List Int} (h1 : zs.length ≤ 100) (h2 : zs.all okB = true) (h3 : lc 1 zs ≤ 1099511627776) : lcmSay zs = (lc 1 zs, 0) := by
  unfold lcmSay
  rw [if_neg (by omega), if_pos h2, lcmFrom_eq zs 1 (by omega) (by omega) (ok_mem h2), if_pos h3]
  rfl
theorem say_err {zs : List Int} (h : (lcmSay zs).2 ≠ 0) : (lcmSay zs).1 = 0 := by
  unfold lcmSay at h ⊢
  by_cases h1 : 100 < zs.length
  · rw [if_pos h1]
  · rw [if_neg h1] at h ⊢
    by_cases h2 : zs.all okB = true
    · rw [if_pos h2] at h ⊢
      cases hF : lcmFrom 1 zs with
      | none => rfl
      | some v => rw [hF] at h; exact absurd rfl h
    · rw [if_neg h2]
theorem say_twice {zs : List Int} (h : (lcmSay zs).2 = 0) (h50 : zs.length ≤ 50) : lcmSay (zs.reverse ++ zs.reverse) = ((lcmSay zs).1, 0) := by
  obtain ⟨h1, h2, h3, h4⟩ := say_ok h
  have e : lc 1 (zs.reverse ++ zs.reverse) = lc 1 zs := (lc_same zs _ (fun x hx => (ok_mem h2 x hx).1) (fun x => by simp)).symm
  have h5 : (zs.reverse ++ zs.reverse).all okB = true := by
    rw [List.all_eq_true]; intro x hx
    exact List.all_eq_true.1 h2 x (by simpa using hx)
  rw [say_of (by simp; omega) h5 (by rw [e]; exact h4), e, h3]

def allTo (zs : List Int) (n : Int) (k : Nat) : Bool := decide (0 < n) && (zs.take k).all (fun x => n % x == 0)
theorem allTo_succ (zs : List Int) (n : Int) (k : Nat) (h : k < zs.length) : allTo zs n (k + 1) = (allTo zs n k && (n % zs.getD k 0 == 0)) := by
  unfold allTo
  rw [List.take_succ_eq_append_getElem h, List.all_append]
  have e : zs[k] = zs.getD k 0 := by simp [List.getD, h]
  rw [e]
  simp [Bool.and_assoc]
theorem allTo_dvd {zs : List Int} {n : Int} (h : allTo zs n zs.length = true) (hp : ∀ x ∈ zs, 1 ≤ x) : (n % lc 1 zs != 0) = false := by
  unfold allTo at h
  rw [List.take_length, Bool.and_eq_true, decide_eq_true_iff, List.all_eq_true] at h
  rw [bne_eq_false_iff_eq]
  refine Int.emod_eq_zero_of_dvd ((lc_dvd zs n 1 (by omega) hp).2 ⟨Int.one_dvd _, fun x hx => ?_⟩)
  have := h.2 x hx
  exact Int.dvd_of_emod_eq_zero (by simpa using this)
theorem dvd_say {zs : List Int} (hp : ∀ x ∈ zs, 1 ≤ x) (x : Int) (hx : x ∈ zs) : (lc 1 zs % x != 0) = false := by
  rw [bne_eq_false_iff_eq]
  exact Int.emod_eq_zero_of_dvd (((lc_dvd zs _ 1 (by omega) hp).1 (Int.dvd_refl _)).2 x hx)
end NumC
end Go.Proofs.Yteglbjnjjhhloaa
