/- slices.Equal at spans; SameSet. -/
import Derived.Test.YtepnlfnnancnfaaSpanW
import Derived.Test.YtepnlfnnancnfaaShelf
import Derived.Laws.StructEq
set_option linter.unusedVariables false
namespace Go.Proofs.Ytepnlfnnancnfaa
open Go.RowKit Go.Shelf
open SpanM
namespace SpanC
def encS (x : Sp) : List Value := [.int .i64 x.1, .int .i64 x.2]
theorem neqSp : NeqAt Try.prog 45 (fun x => .agg (encS x).toArray) (fun x y => x.1 == y.1 && x.2 == y.2) := by
  refine ⟨fun x y w => ?_, GuardAt.agg _ (by kernel_rfl)⟩
  have u3 := Try.underlying3
  have a3 := Try.isAgg3
  have z3 := Try.sizeOf3
  have hS : Try.prog.underlying 45 = some (.struct (Try.prog.fieldsOf 45)) := by kernel_rfl
  have hp : Try.prog.stoodInHeld 45 = false := by kernel_rfl
  simp only [encS]
  rw [run_neq_struct, show (10000 : Nat) = 9999 + 1 from rfl, run_equalIn_agg w 9999 45 _ _ hS hp]
  simp only [Program.fieldsOf, Try.underlying45]
  go_simp
  by_cases h1 : x.fst = y.fst <;> by_cases h2 : x.snd = y.snd <;> simp [h1, h2]
theorem allEq_eq (l m : List Sp) : Lib.allEq (fun x y : Sp => x.1 == y.1 && x.2 == y.2) l m = decide (l = m) := by
  induction l generalizing m with
  | nil => cases m <;> simp [Lib.allEq]
  | cons x r ih =>
    cases m with
    | nil => simp [Lib.allEq]
    | cons y s =>
      simp only [Lib.allEq, ih]
      rw [Bool.eq_iff_iff]
      simp [Prod.ext_iff]
theorem sps_cells {w : World} {b off : Nat} {l : List Sp} (h : Sps w (some ⟨b, off, none⟩) l) : ∀ j, j < l.length → ∀ i v, (encS l[j]!)[i]? = some v → w.cell? ⟨b, off + j * 2 + i, none⟩ = some v := by
  intro j hj i v hv
  obtain ⟨b', off', e, _, c1, c2⟩ := h.at j hj
  obtain ⟨rfl, rfl⟩ : b = b' ∧ off = off' := by simpa using e
  have e0 : l[j]! = l.getD j (0, 0) := by simp [hj, List.getD]
  rw [e0] at hv
  match i, hv with
  | 0, hv => simp [encS] at hv; rw [← hv]; exact c1
  | 1, hv => simp [encS] at hv; rw [← hv]; exact c2
  | i + 2, hv => simp [encS] at hv
theorem equal_lens (a1 a2 : Option Addr) (n1 c1 n2 c2 : Nat) (w : World) (h : n1 ≠ n2) :
    Calls Try.prog 30 #[.slice a1 n1 c1, .slice a2 n2 c2] w fun e w' => e = .returned (.bool false) ∧ ∃ q, w' = w.drewN q := by
  have hb : ((n1 : Int) != (n2 : Int)) = true := by rw [bne_iff_ne]; omega
  go_enter Try.func30, Try.ntmps30
  go_wp2_with fail
  go_ret
  exact ⟨rfl, 0, rfl⟩
theorem equal_none (a1 a2 : Option Addr) (c1 c2 : Nat) (w : World) :
    Calls Try.prog 30 #[.slice a1 0 c1, .slice a2 0 c2] w fun e w' => e = .returned (.bool true) ∧ ∃ q, w' = w.drewN q := by
  go_enter Try.func30, Try.ntmps30
  go_wp2_with fail
  go_rounds 1
  go_ret
  exact ⟨rfl, 0, rfl⟩
theorem equal_any (a1 a2 : Option Addr) (c1 c2 : Nat) (l m : List Sp) (w : World) (h1 : Sps w a1 l) (h2 : Sps w a2 m) (hl : l.length ≤ maxLen) (hm : m.length ≤ maxLen) :
    Calls Try.prog 30 #[.slice a1 l.length c1, .slice a2 m.length c2] w fun e w' => e = .returned (.bool (decide (l = m))) ∧ ∃ q, w' = w.drewN q := by
  unfold maxLen at hl hm
  by_cases hlm : l.length = m.length
  · by_cases h0 : l.length = 0
    · obtain rfl : l = [] := List.length_eq_zero_iff.1 h0
      obtain rfl : m = [] := List.length_eq_zero_iff.1 (by omega)
      simpa using equal_none a1 a2 c1 c2 w
    · obtain ⟨b1, o1, rfl, _⟩ := h1.at 0 (by omega)
      obtain ⟨b2, o2, rfl, _⟩ := h2.at 0 (by omega)
      have hcon := AnyQ.slices_Equal equalSp 2 Try.isAgg45 Try.sizeOf45 encS (fun _ => rfl) _ neqSp b1 o1 l.length c1 b2 o2 m.length c2 l m w (Nat.le_refl _) (Nat.le_refl _) (by omega) (by omega) (sps_cells h1) (sps_cells h2)
      change Calls Try.prog 30 _ _ _ at hcon
      rw [List.take_length, List.take_length, allEq_eq] at hcon
      exact hcon
  · rw [decide_eq_false (by intro e; exact hlm (by rw [e]))]
    exact equal_lens a1 a2 _ c1 _ c2 w hlm
/-- a law's own form -/
theorem equal_below (a1 a2 : Option Addr) (c1 c2 : Nat) (l m : List Sp) (w : World) (h1 : Sps w a1 l) (h2 : Sps w a2 m) (hl : l.length ≤ maxLen) (hm : m.length ≤ maxLen) :
    Calls Try.prog 30 #[.slice a1 l.length c1, .slice a2 m.length c2] w fun e w' => e = .returned (.bool (decide (l = m))) ∧ Below w.heap.size w w' :=
  (equal_any a1 a2 c1 c2 l m w h1 h2 hl hm).mono fun e w' ⟨he, q, hq⟩ => ⟨he, by rw [hq]; exact below_drewN (Below.refl _ _) q⟩
end SpanC
end Go.Proofs.Ytepnlfnnancnfaa
