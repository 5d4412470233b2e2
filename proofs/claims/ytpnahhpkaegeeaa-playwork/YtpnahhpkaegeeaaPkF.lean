/- Several texts, one behind the other: Base NumD NumV NumL1 NumL3 NumL6 NumL7. -/
import Derived.Test.YtpnahhpkaegeeaaChecked
import Derived.WalkKit
import Derived.ProofKit
import Derived.OpenShut
import Derived.Test.YtpnahhpkaegeeaaPkD
import Derived.Deep.RegionWith
import Derived.WalkSmall
import Derived.Test.YtpnahhpkaegeeaaPkM
/- What is known of slices of integers that come in. -/
set_option linter.unusedVariables false
namespace Go.Proofs.Ytpnahhpkaegeeaa
open Go.RowKit
namespace Base
/-- what is known of a slice of integers that came in -/
def IsRow (k : IntKind) (w : World) (a : Option Addr) (len cap : Nat) (zs : List Int) : Prop :=
  (a = none ∧ len = 0 ∧ cap = 0 ∧ zs = []) ∨
  ∃ x, a = some x ∧ len ≤ cap ∧ cap ≤ maxLen ∧ zs.length = cap ∧ (∀ i, i < zs.length → w.cell? (x.add i) = some (.int k (zs.getD i 0))) ∧ ∀ n ∈ zs, (Lit.int k n).wf = true

/-- the slice at a reads as zs -/
def Ints (w : World) (a : Option Addr) (zs : List Int) : Prop :=
  zs = [] ∨ ∃ b off, a = some ⟨b, off, none⟩ ∧ ∀ i, i < zs.length → w.cell? ⟨b, off + i, none⟩ = some (.int .i64 (zs.getD i 0))

theorem IsRow.ints {w : World} {a : Option Addr} {len cap : Nat} {zs : List Int} (h : IsRow .i64 w a len cap zs) :
    ∃ l : List Int, len = l.length ∧ l.length ≤ cap ∧ cap ≤ maxLen ∧ Ints w a l ∧ ∀ n ∈ l, -9223372036854775808 ≤ n ∧ n ≤ 9223372036854775807 := by
  rcases h with ⟨rfl, rfl, rfl, rfl⟩ | ⟨x, rfl, hl, hm, hz, hc, hw⟩
  · exact ⟨[], rfl, by simp, by simp, .inl rfl, by simp⟩
  · have e : (zs.take len).length = len := by rw [List.length_take]; omega
    refine ⟨zs.take len, e.symm, by omega, hm, ?_, fun n hn => bounds_i64 (hw n (List.mem_of_mem_take hn))⟩
    by_cases h0 : len = 0
    · exact .inl (by rw [h0]; simp)
    · obtain ⟨b, off, spot⟩ := x
      have hc0 := hc 0 (by omega)
      have hspot : spot = none := by simpa [Addr.add] using World.cell?_spot hc0
      subst hspot
      refine .inr ⟨b, off, rfl, fun i hi => ?_⟩
      have := hc i (by omega)
      rw [e] at hi
      have ea : (⟨b, off, none⟩ : Addr).add i = ⟨b, off + i, none⟩ := by
        by_cases h : i = 0
        · simp [Addr.add, h]
        · simp [Addr.add, h]
      rw [ea] at this
      simpa [List.getD, List.getElem?_take, hi] using this
end Base
end Go.Proofs.Ytpnahhpkaegeeaa

/- Contracts of package num, continued. -/
set_option linter.unusedVariables false
namespace Go.Proofs.Ytpnahhpkaegeeaa
open Go.RowKit
open NumM
namespace NumC
theorem lcm_46 (a : Option Addr) (w : World) (hr : Row w a [4, 6]) :
    Calls Try.prog 84 #[.slice a 2 2] w fun e w' => e = .returned (.tuple #[.int .i64 12, .int .i64 0]) ∧ ∃ n, w' = w.drewN n := by
  have h := lcm_fold a 2 [4, 6] w hr (by decide) (by intro i hi; unfold Ok1; match i, hi with | 0, _ => decide | 1, _ => decide)
  have e1 : lcmFrom 1 [4, 6] = some 12 := by decide +kernel
  rw [e1] at h
  exact h
end NumC
end Go.Proofs.Ytpnahhpkaegeeaa

/- numLives: some known numbers. -/
set_option linter.unusedVariables false
namespace Go.Proofs.Ytpnahhpkaegeeaa
open Go.RowKit
open NumM
namespace NumC
end NumC
end Go.Proofs.Ytpnahhpkaegeeaa

/- The walk of NumDown. -/
set_option linter.unusedVariables false
namespace Go.Proofs.Ytpnahhpkaegeeaa
open Go.RowKit
open NumM
namespace NumC
theorem wf64 {a : Int} (h : (Lit.int .i64 a).wf = true) : -9223372036854775808 ≤ a ∧ a ≤ 9223372036854775807 := by
  have := bounds_i64 h; omega

theorem bel_trans {a b c : World} (h : Below a.heap.size a b) (k : Below b.heap.size b c) : Below a.heap.size a c := h.trans (k.mono h.size)

end NumC
end Go.Proofs.Ytpnahhpkaegeeaa

/- The walks of NumBezout and NumChinese. -/
set_option linter.unusedVariables false
namespace Go.Proofs.Ytpnahhpkaegeeaa
open Go.RowKit
open NumM
namespace NumC
theorem of_drewN' {B : Nat} {w w' : World} {n : Nat} (h : Below B (w.drewN n) w') : Below B w w' := (below_drewN (Below.refl _ _) n).trans h

theorem bez_no (a b X Y less : Int) (ha : 1 ≤ a) (hb : 1 ≤ b) (x1 : 0 ≤ X) (x2 : X < b / G a b) (x3 : X * a + Y * b = G a b) (h0 : 0 ≤ less) (hl : less < X) :
    ((G a b - less * a).tmod b != 0) = true := by
  rw [bne_iff_ne]
  intro h
  have d := Int.dvd_of_tmod_eq_zero h
  have d2 : b ∣ (X - less) * a := by
    obtain ⟨c, hc⟩ := d
    refine ⟨c - Y, ?_⟩
    rw [Int.sub_mul, Int.mul_sub, ← hc, Int.mul_comm b Y]; omega
  have d3 := share_dvd a b (X - less) ha hb d2
  have := Int.le_of_dvd (by omega) d3
  omega

end NumC
end Go.Proofs.Ytpnahhpkaegeeaa

/- MulDiv, LcmOf. -/
set_option linter.unusedVariables false
namespace Go.Proofs.Ytpnahhpkaegeeaa
open Go.RowKit
open NumM
namespace NumC
theorem ret_int2 {k : IntKind} {a b c d : Int} (h : a = b) (g : c = d) : Ending.returned (.tuple #[.int k a, .int k c]) = .returned (.tuple #[.int k b, .int k d]) := by rw [h, g]

end NumC
end Go.Proofs.Ytpnahhpkaegeeaa

/- The walk of NumShares. -/
set_option linter.unusedVariables false
namespace Go.Proofs.Ytpnahhpkaegeeaa
open Go.RowKit
open NumM Base
namespace NumC

def okB (x : Int) : Bool := decide (1 ≤ x ∧ x ≤ 1099511627776)
theorem all_iff (zs : List Int) : zs.all okB = true ↔ ∀ i, i < zs.length → Ok1 (zs.getD i 0) := by
  rw [List.all_eq_true]
  constructor
  · intro h i hi
    have := h (zs.getD i 0) (by simp [List.getD, hi])
    simpa [okB, Ok1] using this
  · intro h x hx
    obtain ⟨i, hi, rfl⟩ := List.getElem_of_mem hx
    have := h i hi
    simpa [okB, Ok1, List.getD, hi] using this
/-- what Lcm is to answer -/
def lcmSay (zs : List Int) : Int × Int :=
  if 100 < zs.length then (0, 2) else if zs.all okB then (lcmVal (lcmFrom 1 zs), lcmErr (lcmFrom 1 zs)) else (0, 1)

theorem lcm_any (a : Option Addr) (cap : Nat) (zs : List Int) (w : World) (hr : Row w a zs) :
    Calls Try.prog 84 #[.slice a zs.length cap] w fun e w' => e = .returned (.tuple #[.int .i64 (lcmSay zs).1, .int .i64 (lcmSay zs).2]) ∧ ∃ n, w' = w.drewN n := by
  by_cases h : 100 < zs.length
  · have e : lcmSay zs = (0, 2) := if_pos h
    rw [e]; exact lcm_large a zs.length cap w h
  · by_cases hx : zs.all okB = true
    · have e : lcmSay zs = (lcmVal (lcmFrom 1 zs), lcmErr (lcmFrom 1 zs)) := by unfold lcmSay; rw [if_neg h, if_pos hx]
      rw [e]; exact lcm_fold a cap zs w hr (by omega) ((all_iff zs).1 hx)
    · have e : lcmSay zs = (0, 1) := by unfold lcmSay; rw [if_neg h, if_neg hx]
      rw [e]
      refine lcm_arg a cap zs w hr (by omega) ?_
      exact Classical.byContradiction fun hc => hx ((all_iff zs).2 fun i hi => Classical.byContradiction fun hd => hc ⟨i, hi, hd⟩)

theorem lcmFrom_pos (zs : List Int) : ∀ all : Int, 1 ≤ all → (∀ x ∈ zs, Ok1 x) → ∀ v, lcmFrom all zs = some v → 1 ≤ v := by
  induction zs with
  | nil => intro all h _ v e; simp [lcmFrom] at e; omega
  | cons x r ih =>
    intro all h hx v e
    have o := hx x (by simp)
    rw [lcmFrom] at e
    split at e
    · simp at e
    · rename_i hf
      exact ih _ (lcm_step_bd all x h o.1 o.2 hf).1 (fun y hy => hx y (by simp [hy])) v e

theorem parts_say (a b X Y : Int) (ha : 1 ≤ a) (hb : 1 ≤ b) (x1 : 0 ≤ X) (x2 : X < b / G a b) (x3 : X * a + Y * b = G a b) :
    X < b ∧ (X * a % b != G a b % b) = false ∧ (Y != (G a b - X * a % b) / b - X * a / b) = false ∧ 0 ≤ G a b - X * a % b := by
  have gp := G_pos a b ha
  have gr := G_le_right a b hb
  have q2 : b / G a b ≤ b := Int.ediv_le_self _ (by omega)
  have e1 : X * a % b = G a b % b := by
    have : X * a = G a b + b * (-Y) := by rw [Int.mul_neg, Int.mul_comm b Y]; omega
    rw [this, Int.add_mul_emod_self_left]
  have em := Int.emod_add_mul_ediv (X * a) b
  have em1 := Int.emod_nonneg (X * a) (show b ≠ 0 by omega)
  have l : X * a % b ≤ G a b := by
    rw [e1]
    by_cases h : G a b = b
    · rw [h, Int.emod_self]; omega
    · rw [Int.emod_eq_of_lt (by omega) (by omega)]; omega
  refine ⟨by omega, by rw [e1]; simp, ?_, by omega⟩
  rw [bne_eq_false_iff_eq]
  have : G a b - X * a % b = b * (X * a / b + Y) := by rw [Int.mul_add, Int.mul_comm b Y]; omega
  rw [this, Int.mul_ediv_cancel_left _ (by omega)]; omega

def sayTo (zs : List Int) (k : Nat) : Int := if (zs.take k).all okB then 0 else 1
theorem sayTo_succ (zs : List Int) (k : Nat) (h : k < zs.length) : sayTo zs (k + 1) = if okB (zs.getD k 0) then sayTo zs k else 1 := by
  unfold sayTo
  rw [List.take_succ_eq_append_getElem h, List.all_append]
  have e : zs[k] = zs.getD k 0 := by simp [List.getD, h]
  rw [e]
  generalize zs.getD k 0 = z
  cases hz : okB z <;> cases (List.take k zs).all okB <;> simp [hz]

/-- what stands behind the answers on a and b: Lcm against LcmOf -/
theorem lcm_val_zero (zs : List Int) (h : zs.all okB = true) : (lcmVal (lcmFrom 1 zs) == 0) = true → lcmErr (lcmFrom 1 zs) = 6 := by
  intro hv
  unfold lcmErr
  cases hF : lcmFrom 1 zs with
  | none => rfl
  | some v =>
    rw [hF] at hv
    have := lcmFrom_pos zs 1 (by omega) (fun x hx => by
      have := List.all_eq_true.1 h x hx
      simpa [okB, Ok1] using this) v hF
    simp [lcmVal] at hv
    omega
theorem lcm_val_pos (zs : List Int) : (lcmVal (lcmFrom 1 zs) == 0) = false → lcmErr (lcmFrom 1 zs) = 0 := by
  intro hv
  unfold lcmErr
  cases hF : lcmFrom 1 zs with
  | none => rw [hF] at hv; simp [lcmVal] at hv
  | some v => rfl
end NumC
end Go.Proofs.Ytpnahhpkaegeeaa
