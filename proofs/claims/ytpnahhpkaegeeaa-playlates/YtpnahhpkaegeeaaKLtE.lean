/- Several texts, one behind the other: LtE. -/
import Derived.Test.YtpnahhpkaegeeaaKPlyC
import Derived.Laws.StructEq
/- Contracts: slices.Equal of late jobs. -/
set_option linter.unusedVariables false
namespace Go.Proofs.Ytpnahhpkaegeeaa
open Go.RowKit hiding tok
open Go.Shelf Go.Sort
open SpanM SpanC PlayM
namespace PlayC
open RowG
theorem neqL (x0 x1 y0 y1 : Int) (w : World) : (binOp .neq 47 (.agg #[.int .i64 x0, .int .i64 x1]) (.agg #[.int .i64 y0, .int .i64 y1])).run Try.prog w = .ok (.bool (decide (¬ (x0 = y0 ∧ x1 = y1)))) w := by
  have u3 := Try.underlying3
  have a3 := Try.isAgg3
  have z3 := Try.sizeOf3
  have hS : Try.prog.underlying 47 = some (.struct (Try.prog.fieldsOf 47)) := by kernel_rfl
  have hp : Try.prog.stoodInHeld 47 = false := by kernel_rfl
  rw [run_neq_struct, show (10000 : Nat) = 9999 + 1 from rfl, run_equalIn_agg w 9999 47 _ _ hS hp]
  simp only [Program.fieldsOf, Try.underlying47]
  go_simp
  by_cases h1 : x0 = y0 <;> by_cases h2 : x1 = y1 <;> simp [h1, h2]
theorem guardL : Try.prog.eqGuardType Try.prog.depth 47 = false := by kernel_rfl
theorem lequal_len (a b : Option Addr) (n m ca cb : Nat) (w : World) (h : n ≠ m) :
    Calls Try.prog 23 #[.slice a n ca, .slice b m cb] w fun e w' => e = .returned (.bool false) ∧ Below w.heap.size w w' := by
  have hn : ((n : Int) != (m : Int)) = true := by simp; omega
  go_enter Try.func23, Try.ntmps23
  go_wp2_with fail
  go_ret
  exact ⟨rfl, Below.refl _ _⟩
set_option maxRecDepth 20000 in
set_option maxHeartbeats 1600000 in
theorem lequal_rd (a b : Option Addr) (n ca cb : Nat) (la lb : List (Int × Int)) (w : World) (ha : Rd EL w a la) (hb : Rd EL w b lb) (hn : n = la.length) (hm : n = lb.length) (hl : n ≤ 100000) :
    Calls Try.prog 23 #[.slice a n ca, .slice b n cb] w fun e w' => e = .returned (.bool (decide (la = lb))) ∧ Below w.heap.size w w' := by
  have hne : ((n : Int) != (n : Int)) = false := by simp
  have HA := hid ha
  have HB := hid hb
  have HN := hid hn
  have HM := hid hm
  have mixed := mixd
  clear ha hb hn hm
  go_enter Try.func23, Try.ntmps23
  go_wp2_with fail
  go_loopw [13] (fun vk wr => ∃ k : Nat, k ≤ n ∧ vk = .int .i64 k ∧ Hid (la.take k = lb.take k) ∧ Below w.heap.size w wr) (fun vk _ => n - (intOf vk).toNat)
  case atStart => exact ⟨0, by omega, rfl, (by rfl : la.take 0 = lb.take 0), Below.refl _ _⟩
  case round =>
    obtain ⟨k, hk, rfl, HK, hbel⟩ := hrel
    have HBL := hid hbel
    by_cases hlt : k < n
    · obtain ⟨p, off, hpa, hca⟩ := (HA.out.below hbel (Nat.le_refl _)).at k (by have := HN.out; omega)
      obtain ⟨q, off2, hqb, hcb⟩ := (HB.out.below hbel (Nat.le_refl _)).at k (by have := HM.out; omega)
      subst hpa
      subst hqb
      have hta : la.take (k + 1) = la.take k ++ [la[k]'(by have := HN.out; omega)] := List.take_succ_eq_append_getElem _
      have htb : lb.take (k + 1) = lb.take k ++ [lb[k]'(by have := HM.out; omega)] := List.take_succ_eq_append_getElem _
      generalize la[k]'(by have := HN.out; omega) = x at hca hta
      generalize lb[k]'(by have := HM.out; omega) = y at hcb htb
      obtain ⟨x0, x1⟩ := x
      obtain ⟨y0, y1⟩ := y
      have a0 := hca 0 (by decide); have a1 := hca 1 (by decide)
      have b0 := hcb 0 (by decide); have b1 := hcb 1 (by decide)
      simp [EL] at a0 a1 b0 b1
      have HTA := hid hta
      have HTB := hid htb
      have i1 : (k : Int) < (n : Int) := by omega
      clear hca hcb hta htb hbel
      have hnq := fun W => neqL x0 x1 y0 y1 W
      have hgd := guardL
      by_cases he : x0 = y0 ∧ x1 = y1
      · have hd : decide (¬ (x0 = y0 ∧ x1 = y1)) = false := by simp [he]
        rw [hd] at hnq
        have HE := hid he
        clear he hd
        go_wp2_with fail
        go_quiet (fail)
        go_wp2_with fail
        go_roundw
        case rel =>
          obtain ⟨e0, e1⟩ := HE.out
          exact ⟨k + 1, by omega, by go_num, (by rw [HTA.out, HTB.out, HK.out, e0, e1] : la.take (k + 1) = lb.take (k + 1)), below_drewN HBL.out _⟩
        case measure => simp [intOf]; omega
      · have hd : decide (¬ (x0 = y0 ∧ x1 = y1)) = true := by simp [he]
        rw [hd] at hnq
        have HE := hid he
        clear he hd
        go_wp2_with fail
        go_quiet (fail)
        go_wp2_with fail
        go_ret
        refine ⟨?_, below_drewN HBL.out _⟩
        have : la ≠ lb := fun e => by
          have h1 := HTA.out
          rw [e, HTB.out] at h1
          simp at h1
          exact HE.out ⟨h1.1.symm, h1.2.symm⟩
        rw [decide_eq_false this]; rfl
    · have HE : Hid (la = lb) := by
        have h := HK.out
        rw [List.take_of_length_le (by have := HN.out; omega), List.take_of_length_le (by have := HM.out; omega)] at h
        exact h
      go_wp2_with fail
      go_ret
      exact ⟨by rw [decide_eq_true HE.out]; rfl, HBL.out⟩
/-- are two rows the same? -/
theorem lequal_any (a b : Option Addr) (ca cb : Nat) (la lb : List (Int × Int)) (w : World) (ha : Rd EL w a la) (hb : Rd EL w b lb) (hl : la.length ≤ 100000) :
    Calls Try.prog 23 #[.slice a la.length ca, .slice b lb.length cb] w fun e w' => e = .returned (.bool (decide (la = lb))) ∧ Below w.heap.size w w' := by
  by_cases h : la.length = lb.length
  · rw [← h]
    exact lequal_rd a b _ ca cb la lb w ha hb rfl h hl
  · rw [decide_eq_false (fun e => h (by rw [e]))]
    exact lequal_len a b _ _ ca cb w h
end PlayC
end Go.Proofs.Ytpnahhpkaegeeaa
