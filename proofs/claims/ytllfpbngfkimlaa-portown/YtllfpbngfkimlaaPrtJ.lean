/- slices.Equal of texts, and of what is told. -/
import Derived.Test.YtllfpbngfkimlaaPrtI
import Derived.Laws.Strings
import Derived.Laws.StructEq
set_option linter.unusedVariables false
namespace Go.Proofs.Ytllfpbngfkimlaa
open Go.RowKit
open Go.Shelf Go.Sort
open SpanM SpanC IntsC
namespace PortC
open PrtM
theorem snocD {α : Type} (l : List α) (z : α) (k : Nat) (h : k < l.length) : l.take (k + 1) = l.take k ++ [l.getD k z] := by
  rw [List.take_succ_eq_append_getElem h]; simp [List.getD, h]
theorem str_eq (a b : ByteArray) : (a.toList == b.toList) = decide (a = b) := by
  by_cases h : a = b
  · rw [h]; simp
  · rw [decide_eq_false h, ByteArray.toList_eq, ByteArray.toList_eq]
    refine beq_eq_false_iff_ne.2 fun e => h ?_
    have e2 : a.data = b.data := by simpa using e
    cases a; cases b; simp only at e2; rw [e2]
theorem str_ne {a b : ByteArray} (h : ¬ a = b) : (a.toList == b.toList) = false := by rw [str_eq, decide_eq_false h]
theorem eqS_len (a b : Option Addr) (n m ca cb : Nat) (w : World) (h : n ≠ m) :
    Calls Try.prog 23 #[.slice a n ca, .slice b m cb] w fun e w' => e = .returned (.bool false) ∧ Below w.heap.size w w' := by
  have hn : ((n : Int) != (m : Int)) = true := by simp; omega
  go_enter Try.func23, Try.ntmps23
  go_wp2_with fail
  go_ret
  exact ⟨rfl, Below.refl _ _⟩
set_option maxRecDepth 20000 in
set_option maxHeartbeats 1600000 in
theorem eqS_rd (a b : Option Addr) (n ca cb : Nat) (la lb : List ByteArray) (w : World) (ha : RdS w a la) (hb : RdS w b lb) (hn : n = la.length) (hm : n = lb.length) (hl : n ≤ 100000) :
    Calls Try.prog 23 #[.slice a n ca, .slice b n cb] w fun e w' => e = .returned (.bool (decide (la = lb))) ∧ Below w.heap.size w w' := by
  have hne : ((n : Int) != (n : Int)) = false := by simp
  have HA := hid ha
  have HB := hid hb
  have HN := hid hn
  have HM := hid hm
  clear ha hb hn hm
  go_enter Try.func23, Try.ntmps23
  go_wp2_with fail
  go_loopw [13] (fun vk wr => ∃ k : Nat, k ≤ n ∧ vk = .int .i64 k ∧ Hid (la.take k = lb.take k) ∧ Below w.heap.size w wr) (fun vk _ => n - (intOf vk).toNat)
  case atStart => exact ⟨0, by omega, rfl, (by rfl : la.take 0 = lb.take 0), Below.refl _ _⟩
  case round =>
    obtain ⟨k, hk, rfl, HK, hbel⟩ := hrel
    have HBL := hid hbel
    by_cases hlt : k < n
    · obtain ⟨p, off, hpa, a0⟩ := RdS.get (HA.out.below hbel (Nat.le_refl _)) k (by have := HN.out; omega)
      obtain ⟨q, off2, hqb, b0⟩ := RdS.get (HB.out.below hbel (Nat.le_refl _)) k (by have := HM.out; omega)
      subst hpa
      subst hqb
      have hta := snocD la e0 k (by have := HN.out; omega)
      have htb := snocD lb e0 k (by have := HM.out; omega)
      generalize la.getD k e0 = x at a0 hta
      generalize lb.getD k e0 = y at b0 htb
      have HTA := hid hta
      have HTB := hid htb
      have i1 : (k : Int) < (n : Int) := by omega
      clear hta htb hbel
      by_cases he : x = y
      · subst he
        go_wp2_with fail
        go_quiet (fail)
        go_wp2_with fail
        go_roundw
        case rel => exact ⟨k + 1, by omega, by go_num, (by rw [HTA.out, HTB.out, HK.out] : la.take (k + 1) = lb.take (k + 1)), below_drewN HBL.out _⟩
        case measure => simp [intOf]; omega
      · have hd := str_ne he
        have HE := hid (fun h : x = y => he h)
        clear he
        go_wp2_with fail
        go_quiet (fail)
        go_wp2_with fail
        go_ret
        refine ⟨?_, below_drewN HBL.out _⟩
        have : la ≠ lb := fun e => by
          have h1 := HTA.out
          rw [e, HTB.out] at h1
          simp at h1
          exact HE.out h1.symm
        rw [decide_eq_false this]; rfl
    · have HE : Hid (la = lb) := by
        have h := HK.out
        rw [List.take_of_length_le (by have := HN.out; omega), List.take_of_length_le (by have := HM.out; omega)] at h
        exact h
      go_wp2_with fail
      go_ret
      exact ⟨by rw [decide_eq_true HE.out]; rfl, HBL.out⟩
theorem eqS_any (a b : Option Addr) (ca cb : Nat) (la lb : List ByteArray) (w : World) (ha : RdS w a la) (hb : RdS w b lb) (hl : la.length ≤ 100000) :
    Calls Try.prog 23 #[.slice a la.length ca, .slice b lb.length cb] w fun e w' => e = .returned (.bool (decide (la = lb))) ∧ Below w.heap.size w w' := by
  by_cases h : la.length = lb.length
  · rw [← h]
    exact eqS_rd a b _ ca cb la lb w ha hb rfl h hl
  · rw [decide_eq_false (fun e => h (by rw [e]))]
    exact eqS_len a b _ _ ca cb w h
theorem neqAn (w : World) (x0 y0 : ByteArray) (x1 y1 : Bool) (x2 y2 : Int) : (binOp .neq 44 (.agg #[.string x0, .bool x1, .int .i64 x2]) (.agg #[.string y0, .bool y1, .int .i64 y2])).run Try.prog w = .ok (.bool (!(x0.toList == y0.toList && (x1 == y1 && x2 == y2)))) w := by
  have ht : Try.prog.underlying 44 = some (.struct (Try.prog.fieldsOf 44)) := by kernel_rfl
  have hp : Try.prog.stoodInHeld 44 = false := by kernel_rfl
  rw [run_neq_struct, run_equalIn_agg w 9999 _ _ _ ht hp]
  have hf : (Try.prog.fieldsOf 44).toList.map (fun f => (f.name, f.type, f.offset)) = [("Text", 9, 0), ("Fresh", 4, 1), ("Err", 26, 2)] := by kernel_rfl
  generalize (Try.prog.fieldsOf 44).toList = fs at *
  rcases fs with _ | ⟨f0, _ | ⟨f1, _ | ⟨f2, _ | ⟨f3, fs⟩⟩⟩⟩ <;> simp at hf
  obtain ⟨⟨n0, t0, o0⟩, ⟨n1, t1, o1⟩, n2, t2, o2⟩ := hf
  have q0 : (Op.equalIn (9998 + 1) 9 (.string x0) (.string y0)).run Try.prog w = .ok (x0.toList == y0.toList) w := run_equalIn_string w _ _ _ _ (by kernel_rfl)
  have q1 : (Op.equalIn (9998 + 1) 4 (.bool x1) (.bool y1)).run Try.prog w = .ok (x1 == y1) w := run_equalIn_bool' w _ _ _ _ (by kernel_rfl)
  have q2 : (Op.equalIn (9998 + 1) 26 (.int .i64 x2) (.int .i64 y2)).run Try.prog w = .ok (x2 == y2) w := run_equalIn_int w _ _ .i64 .i64 _ _ (by kernel_rfl)
  have a0 : Sem.run Try.prog (part 9 #[.string x0, .bool x1, .int .i64 x2] 0) w = .ok (.string x0) w := by kernel_rfl
  have a1 : Sem.run Try.prog (part 4 #[.string x0, .bool x1, .int .i64 x2] 1) w = .ok (.bool x1) w := by kernel_rfl
  have a2 : Sem.run Try.prog (part 26 #[.string x0, .bool x1, .int .i64 x2] 2) w = .ok (.int .i64 x2) w := by kernel_rfl
  have b0 : Sem.run Try.prog (part 9 #[.string y0, .bool y1, .int .i64 y2] 0) w = .ok (.string y0) w := by kernel_rfl
  have b1 : Sem.run Try.prog (part 4 #[.string y0, .bool y1, .int .i64 y2] 1) w = .ok (.bool y1) w := by kernel_rfl
  have b2 : Sem.run Try.prog (part 26 #[.string y0, .bool y1, .int .i64 y2] 2) w = .ok (.int .i64 y2) w := by kernel_rfl
  simp only [Op.eqFields, n0, n1, n2, t0, t1, t2, o0, o1, o2]
  cases e0 : (x0.toList == y0.toList) <;> cases e1 : (x1 == y1) <;> cases e2 : (x2 == y2) <;> rw [e0] at q0 <;> rw [e1] at q1 <;> rw [e2] at q2 <;> simp [Sem.run_bind, a0, a1, a2, b0, b1, b2, q0, q1, q2, Result.andThen]
theorem guardAn (x y : Operand) (xs ys : Array Value) (w : World) : (eqGuard .neq 44 x y (.agg xs) (.agg ys)).run Try.prog w = .ok () w := run_eqGuard_agg w .neq _ x y xs ys (by kernel_rfl)
theorem neqAn_same (w : World) (x : An) : (binOp .neq 44 (.agg #[.string x.1, .bool x.2.1, .int .i64 x.2.2]) (.agg #[.string x.1, .bool x.2.1, .int .i64 x.2.2])).run Try.prog w = .ok (.bool false) w := by
  rw [neqAn]; simp
theorem neqAn_other (w : World) {x y : An} (h : ¬ x = y) : (binOp .neq 44 (.agg #[.string x.1, .bool x.2.1, .int .i64 x.2.2]) (.agg #[.string y.1, .bool y.2.1, .int .i64 y.2.2])).run Try.prog w = .ok (.bool true) w := by
  rw [neqAn, str_eq]
  have : (decide (x.1 = y.1) && (x.2.1 == y.2.1 && x.2.2 == y.2.2)) = false := by
    cases hq : (decide (x.1 = y.1) && (x.2.1 == y.2.1 && x.2.2 == y.2.2)) with
    | false => rfl
    | true =>
      simp at hq
      exact absurd (Prod.ext hq.1 (Prod.ext hq.2.1 hq.2.2)) h
  rw [this]; rfl
theorem eqA_len (a b : Option Addr) (n m ca cb : Nat) (w : World) (h : n ≠ m) :
    Calls Try.prog 24 #[.slice a n ca, .slice b m cb] w fun e w' => e = .returned (.bool false) ∧ Below w.heap.size w w' := by
  have hn : ((n : Int) != (m : Int)) = true := by simp; omega
  go_enter Try.func24, Try.ntmps24
  go_wp2_with fail
  go_ret
  exact ⟨rfl, Below.refl _ _⟩
set_option maxRecDepth 20000 in
set_option maxHeartbeats 1600000 in
theorem eqA_rd (a b : Option Addr) (n ca cb : Nat) (la lb : List An) (w : World) (ha : RdA w a la) (hb : RdA w b lb) (hn : n = la.length) (hm : n = lb.length) (hl : n ≤ 100000) :
    Calls Try.prog 24 #[.slice a n ca, .slice b n cb] w fun e w' => e = .returned (.bool (decide (la = lb))) ∧ Below w.heap.size w w' := by
  have hne : ((n : Int) != (n : Int)) = false := by simp
  have HA := hid ha
  have HB := hid hb
  have HN := hid hn
  have HM := hid hm
  clear ha hb hn hm
  go_enter Try.func24, Try.ntmps24
  go_wp2_with fail
  go_loopw [13] (fun vk wr => ∃ k : Nat, k ≤ n ∧ vk = .int .i64 k ∧ Hid (la.take k = lb.take k) ∧ Below w.heap.size w wr) (fun vk _ => n - (intOf vk).toNat)
  case atStart => exact ⟨0, by omega, rfl, (by rfl : la.take 0 = lb.take 0), Below.refl _ _⟩
  case round =>
    obtain ⟨k, hk, rfl, HK, hbel⟩ := hrel
    have HBL := hid hbel
    by_cases hlt : k < n
    · obtain ⟨p, off, hpa, a0, a1, a2⟩ := RdA.get (HA.out.below hbel (Nat.le_refl _)) k (by have := HN.out; omega)
      obtain ⟨q, off2, hqb, b0, b1, b2⟩ := RdA.get (HB.out.below hbel (Nat.le_refl _)) k (by have := HM.out; omega)
      subst hpa
      subst hqb
      have hta := snocD la zAn k (by have := HN.out; omega)
      have htb := snocD lb zAn k (by have := HM.out; omega)
      generalize la.getD k zAn = x at a0 a1 a2 hta
      generalize lb.getD k zAn = y at b0 b1 b2 htb
      obtain ⟨x0, x1, x2⟩ := x
      obtain ⟨y0, y1, y2⟩ := y
      simp only at a0 a1 a2 b0 b1 b2
      have HTA := hid hta
      have HTB := hid htb
      have i1 : (k : Int) < (n : Int) := by omega
      clear hta htb hbel
      by_cases he : (x0, x1, x2) = (y0, y1, y2)
      · cases he
        have hq := fun W => neqAn_same W (x0, x1, x2)
        simp only at hq
        go_wp2_with fail
        go_quiet (fail)
        go_wp2_with fail
        go_roundw
        case rel => exact ⟨k + 1, by omega, by go_num, (by rw [HTA.out, HTB.out, HK.out] : la.take (k + 1) = lb.take (k + 1)), below_drewN HBL.out _⟩
        case measure => simp [intOf]; omega
      · have hq := fun W => neqAn_other W he
        simp only at hq
        have hg := guardAn
        have HE := hid (fun h : (x0, x1, x2) = (y0, y1, y2) => he h)
        clear he
        go_wp2_with fail
        go_quiet (fail)
        go_wp2_with fail
        go_ret
        refine ⟨?_, below_drewN HBL.out _⟩
        have : la ≠ lb := fun e => by
          have h1 := HTA.out
          rw [e, HTB.out] at h1
          have h2 := List.append_cancel_left h1
          injection h2 with h2 _
          exact HE.out h2.symm
        rw [decide_eq_false this]; rfl
    · have HE : Hid (la = lb) := by
        have h := HK.out
        rw [List.take_of_length_le (by have := HN.out; omega), List.take_of_length_le (by have := HM.out; omega)] at h
        exact h
      go_wp2_with fail
      go_ret
      exact ⟨by rw [decide_eq_true HE.out]; rfl, HBL.out⟩
theorem eqA_any (a b : Option Addr) (ca cb : Nat) (la lb : List An) (w : World) (ha : RdA w a la) (hb : RdA w b lb) (hl : la.length ≤ 100000) :
    Calls Try.prog 24 #[.slice a la.length ca, .slice b lb.length cb] w fun e w' => e = .returned (.bool (decide (la = lb))) ∧ Below w.heap.size w w' := by
  by_cases h : la.length = lb.length
  · rw [← h]
    exact eqA_rd a b _ ca cb la lb w ha hb rfl h hl
  · rw [decide_eq_false (fun e => h (by rw [e]))]
    exact eqA_len a b _ _ ca cb w h
end PortC
end Go.Proofs.Ytllfpbngfkimlaa
