/- slices.Equal of rows of api.Emit (gen_eq.py writes this text). -/
import Derived.Test.YtceflfdpbgnfjaaOpenEm
import Derived.Test.YtceflfdpbgnfjaaInts
import Derived.Laws.StructEq
set_option linter.unusedVariables false
namespace Go.Proofs.Ytceflfdpbgnfjaa
open Go.RowKit hiding tok
open Go.Shelf Go.Sort
open SpanM SpanC IntsC
namespace RowsO
theorem neqEm (x0 x1 y0 y1 : Int) (w : World) : (binOp .neq 39 (.agg #[.int .i64 x0, .int .i64 x1]) (.agg #[.int .i64 y0, .int .i64 y1])).run Try.prog w = .ok (.bool (decide (¬ (x0 = y0 ∧ x1 = y1)))) w := by
  have u3 := Try.underlying3
  have a3 := Try.isAgg3
  have z3 := Try.sizeOf3
  have hS : Try.prog.underlying 39 = some (.struct (Try.prog.fieldsOf 39)) := by kernel_rfl
  have hp : Try.prog.stoodInHeld 39 = false := by kernel_rfl
  rw [run_neq_struct, show (10000 : Nat) = 9999 + 1 from rfl, run_equalIn_agg w 9999 39 _ _ hS hp]
  simp only [Program.fieldsOf, Try.underlying39]
  go_simp
  by_cases h1 : x0 = y0 <;> by_cases h2 : x1 = y1 <;> simp [h1, h2]
theorem guardEm : Try.prog.eqGuardType Try.prog.depth 39 = false := by kernel_rfl
theorem Ems_snoc (l : List Em) (k : Nat) (h : k < l.length) : l.take (k + 1) = l.take k ++ [l.getD k zEm] := by
  rw [List.take_succ_eq_append_getElem h]; simp [List.getD, h]
theorem equalEm_len (a b : Option Addr) (n m ca cb : Nat) (w : World) (h : n ≠ m) :
    Calls Try.prog 17 #[.slice a n ca, .slice b m cb] w fun e w' => e = .returned (.bool false) ∧ Below w.heap.size w w' := by
  have hn : ((n : Int) != (m : Int)) = true := by simp; omega
  go_enter Try.func17, Try.ntmps17
  go_wp2_with fail
  go_ret
  exact ⟨rfl, Below.refl _ _⟩
set_option maxRecDepth 20000 in
set_option maxHeartbeats 1600000 in
theorem equalEm_rd (a b : Option Addr) (n ca cb : Nat) (la lb : List Em) (w : World) (ha : Ems w a la) (hb : Ems w b lb) (hn : n = la.length) (hm : n = lb.length) (hl : n ≤ maxLen) :
    Calls Try.prog 17 #[.slice a n ca, .slice b n cb] w fun e w' => e = .returned (.bool (decide (la = lb))) ∧ Below w.heap.size w w' := by
  have hne : ((n : Int) != (n : Int)) = false := by simp
  unfold maxLen at hl
  have HA := hid ha
  have HB := hid hb
  have HN := hid hn
  have HM := hid hm
  have mixed := mixd
  clear ha hb hn hm
  go_enter Try.func17, Try.ntmps17
  go_wp2_with fail
  go_loopw [13] (fun vk wr => ∃ k : Nat, k ≤ n ∧ vk = .int .i64 k ∧ Hid (la.take k = lb.take k) ∧ Below w.heap.size w wr) (fun vk _ => n - (intOf vk).toNat)
  case atStart => exact ⟨0, by omega, rfl, (by rfl : la.take 0 = lb.take 0), Below.refl _ _⟩
  case round =>
    obtain ⟨k, hk, rfl, HK, hbel⟩ := hrel
    have HBL := hid hbel
    by_cases hlt : k < n
    · obtain ⟨p, off, hpa, _, a0, a1⟩ := (HA.out.below hbel (Nat.le_refl _)).at k (by have := HN.out; omega)
      obtain ⟨q, off2, hqb, _, b0, b1⟩ := (HB.out.below hbel (Nat.le_refl _)).at k (by have := HM.out; omega)
      subst hpa
      subst hqb
      have hta := Ems_snoc la k (by have := HN.out; omega)
      have htb := Ems_snoc lb k (by have := HM.out; omega)
      generalize la.getD k zEm = x at a0 a1 hta
      generalize lb.getD k zEm = y at b0 b1 htb
      obtain ⟨x0, x1⟩ := x
      obtain ⟨y0, y1⟩ := y
      simp only at a0 a1 b0 b1
      have HTA := hid hta
      have HTB := hid htb
      have i1 : (k : Int) < (n : Int) := by omega
      clear hta htb hbel
      have hnq := fun W => neqEm x0 x1 y0 y1 W
      have hgd := guardEm
      by_cases he : x0 = y0 ∧ x1 = y1
      · have hd : decide (¬ (x0 = y0 ∧ x1 = y1)) = false := by simp [he]
        rw [hd] at hnq
        have HE := hid he
        clear he hd
        go_wp2_with fail
        go_quiet (fail)
        go_wp2_with fail
        go_roundw
        case rel =>
          obtain ⟨e0, e1⟩ := HE.out
          exact ⟨k + 1, by omega, by go_num, (by rw [HTA.out, HTB.out, HK.out, e0, e1] : la.take (k + 1) = lb.take (k + 1)), below_drewN HBL.out _⟩
        case measure => simp [intOf]; omega
      · have hd : decide (¬ (x0 = y0 ∧ x1 = y1)) = true := by simp [he]
        rw [hd] at hnq
        have HE := hid he
        clear he hd
        go_wp2_with fail
        go_quiet (fail)
        go_wp2_with fail
        go_ret
        refine ⟨?_, below_drewN HBL.out _⟩
        have : la ≠ lb := fun e => by
          have h1 := HTA.out
          rw [e, HTB.out] at h1
          simp at h1
          exact HE.out ⟨(h1.1).symm, (h1.2).symm⟩
        rw [decide_eq_false this]; rfl
    · have HE : Hid (la = lb) := by
        have h := HK.out
        rw [List.take_of_length_le (by have := HN.out; omega), List.take_of_length_le (by have := HM.out; omega)] at h
        exact h
      go_wp2_with fail
      go_ret
      exact ⟨by rw [decide_eq_true HE.out]; rfl, HBL.out⟩
/-- are two rows the same? -/
theorem equalEm_any (a b : Option Addr) (ca cb : Nat) (la lb : List Em) (w : World) (ha : Ems w a la) (hb : Ems w b lb) (hl : la.length ≤ maxLen) :
    Calls Try.prog 17 #[.slice a la.length ca, .slice b lb.length cb] w fun e w' => e = .returned (.bool (decide (la = lb))) ∧ Below w.heap.size w w' := by
  by_cases h : la.length = lb.length
  · rw [← h]
    exact equalEm_rd a b _ ca cb la lb w ha hb rfl h hl
  · rw [decide_eq_false (fun e => h (by rw [e]))]
    exact equalEm_len a b _ _ ca cb w h
end RowsO
end Go.Proofs.Ytceflfdpbgnfjaa
