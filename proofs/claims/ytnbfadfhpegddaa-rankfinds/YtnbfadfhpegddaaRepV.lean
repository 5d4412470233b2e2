/- replyLives. -/
import Derived.Test.YtnbfadfhpegddaaRepB
set_option linter.unusedVariables false
namespace Go.Proofs.Ytnbfadfhpegddaa
open Go.RowKit hiding tok
open SpanM SupM SpanC TaskM PlayM RankM
open RowsO hiding Tk
namespace RepC
open TaskC (tchk tchkG tchk_zero tcheck_any tk_snoc tk_mem)
open NumC (Row)
open PlayC (Row.below box_cell box_alloc box_new)
theorem iequal_len (a b : Option Addr) (n m ca cb : Nat) (w : World) (h : n ≠ m) :
    Calls Try.prog 14 #[.slice a n ca, .slice b m cb] w fun e w' => e = .returned (.bool false) ∧ Below w.heap.size w w' := by
  have hn : ((n : Int) != (m : Int)) = true := by simp; omega
  go_enter Try.func14, Try.ntmps14
  go_wp2_with fail
  go_ret
  exact ⟨rfl, Below.refl _ _⟩
set_option maxRecDepth 20000 in
set_option maxHeartbeats 1600000 in
theorem iequal_rd (a b : Option Addr) (n ca cb : Nat) (la lb : List Int) (w : World) (ha : Row w a la) (hb : Row w b lb) (hn : n = la.length) (hm : n = lb.length) (hl : n ≤ 100000) :
    Calls Try.prog 14 #[.slice a n ca, .slice b n cb] w fun e w' => e = .returned (.bool (decide (la = lb))) ∧ Below w.heap.size w w' := by
  have hne : ((n : Int) != (n : Int)) = false := by simp
  have HA := hid ha
  have HB := hid hb
  have HN := hid hn
  have HM := hid hm
  clear ha hb hn hm
  go_enter Try.func14, Try.ntmps14
  go_wp2_with fail
  go_loopw [13] (fun vk wr => ∃ k : Nat, k ≤ n ∧ vk = .int .i64 k ∧ Hid (la.take k = lb.take k) ∧ Below w.heap.size w wr) (fun vk _ => n - (intOf vk).toNat)
  case atStart => exact ⟨0, by omega, rfl, (by rfl : la.take 0 = lb.take 0), Below.refl _ _⟩
  case round =>
    obtain ⟨k, hk, rfl, HK, hbel⟩ := hrel
    have HBL := hid hbel
    by_cases hlt : k < n
    · obtain ⟨p, off, hpa, _, a0⟩ := PlayC.Row.at (Row.below HA.out hbel (Nat.le_refl _)) k (by have := HN.out; omega)
      obtain ⟨q, off2, hqb, _, b0⟩ := PlayC.Row.at (Row.below HB.out hbel (Nat.le_refl _)) k (by have := HM.out; omega)
      subst hpa
      subst hqb
      have hta := PlayC.in_snoc la k (by have := HN.out; omega)
      have htb := PlayC.in_snoc lb k (by have := HM.out; omega)
      generalize la.getD k 0 = x at a0 hta
      generalize lb.getD k 0 = y at b0 htb
      have HTA := hid hta
      have HTB := hid htb
      have i1 : (k : Int) < (n : Int) := by omega
      clear hta htb hbel
      by_cases he : x = y
      · have hd : (x != y) = false := by simp [he]
        have HE := hid he
        clear he
        go_wp2_with fail
        go_quiet (fail)
        go_wp2_with fail
        go_roundw
        case rel => exact ⟨k + 1, by omega, by go_num, (by rw [HTA.out, HTB.out, HK.out, HE.out] : la.take (k + 1) = lb.take (k + 1)), below_drewN HBL.out _⟩
        case measure => simp [intOf]; omega
      · have hd : (x != y) = true := by simp [he]
        have HE := hid (fun h : x = y => he h)
        clear he
        go_wp2_with fail
        go_quiet (fail)
        go_wp2_with fail
        go_ret
        refine ⟨?_, below_drewN HBL.out _⟩
        have : la ≠ lb := fun e => by
          have h1 := HTA.out
          rw [e, HTB.out] at h1
          simp at h1
          exact HE.out h1.symm
        rw [decide_eq_false this]; rfl
    · have HE : Hid (la = lb) := by
        have h := HK.out
        rw [List.take_of_length_le (by have := HN.out; omega), List.take_of_length_le (by have := HM.out; omega)] at h
        exact h
      go_wp2_with fail
      go_ret
      exact ⟨by rw [decide_eq_true HE.out]; rfl, HBL.out⟩
theorem iequal_any (a b : Option Addr) (ca cb : Nat) (la lb : List Int) (w : World) (ha : Row w a la) (hb : Row w b lb) (hl : la.length ≤ 100000) :
    Calls Try.prog 14 #[.slice a la.length ca, .slice b lb.length cb] w fun e w' => e = .returned (.bool (decide (la = lb))) ∧ Below w.heap.size w w' := by
  by_cases h : la.length = lb.length
  · rw [← h]
    exact iequal_rd a b _ ca cb la lb w ha hb rfl h hl
  · rw [decide_eq_false (fun e => h (by rw [e]))]
    exact iequal_len a b _ _ ca cb w h
/-- one behind another one -/
def LL : List Tk := [(1, 4, 4), (4, 10, 10)]
theorem LL_rep0 : repV LL 0 1 [(0, 1)] = 1 := by
  refine (rep_eq (.inl ⟨⟨by decide, by decide, ?_⟩, fun m hm he => ?_⟩)).symm
  · rw [all_lst (by omega) (by omega)]; decide
  · have := he.1; omega
theorem LL_rep1 : repV LL 1 1 [(0, 1)] = 6 := by
  refine (rep_eq (.inl ⟨⟨by decide, by decide, ?_⟩, fun m hm he => ?_⟩)).symm
  · rw [all_lst (by omega) (by omega)]; decide
  · obtain ⟨h1, h2, h3⟩ := he
    rw [all_lst (by omega) (by omega)] at h3
    have hc : m = 1 ∨ m = 2 ∨ m = 3 ∨ m = 4 ∨ m = 5 := by omega
    rcases hc with rfl | rfl | rfl | rfl | rfl <;> revert h3 <;> decide
theorem LL_chk : rchk LL 1 [(0, 1)] = 0 := by
  have h1 : tchk LL = 0 := by
    unfold tchk tchkG
    rw [if_neg (by decide), if_pos]
    intro x hx
    simp [LL] at hx
    rcases hx with rfl | rfl <;> (unfold tok; decide)
  unfold rchk
  rw [if_pos h1]; decide
theorem LL_tbl : tblL LL 1 [(0, 1)] = [1, 6] := by
  unfold tblL
  rw [if_pos LL_chk]
  show (List.range 2).map _ = _
  simp only [List.range_succ, List.range_zero, List.nil_append, List.map_cons, List.map_nil, List.cons_append]
  rw [if_pos (by decide), if_pos (by decide), LL_rep0, LL_rep1]
theorem rlives_world (w : World) : ∃ V, V = (w.alloc (.cells #[.int .i64 1, .int .i64 4, .int .i64 4, .int .i64 4, .int .i64 10, .int .i64 10] 38)).alloc (.cells #[.int .i64 0, .int .i64 1] 58) ∧ Below w.heap.size w V ∧ Tks V (some ⟨w.heap.size, 0, none⟩) LL ∧ Sps V (some ⟨w.heap.size + 1, 0, none⟩) [(0, 1)] := by
  refine ⟨_, rfl, ?_, .inr ⟨_, 0, rfl, fun i hi => ?_⟩, .inr ⟨_, 0, rfl, fun i hi => ?_⟩⟩
  · exact ((Below.refl _ w).alloc (Nat.le_refl _) _).alloc (by rw [World.size_alloc]; omega) _
  · have hb := box_alloc (box_new w #[.int .i64 1, .int .i64 4, .int .i64 4, .int .i64 4, .int .i64 10, .int .i64 10] 38) (.cells #[.int .i64 0, .int .i64 1] 58)
    match i, hi with
    | 0, _ => exact ⟨box_cell hb 0, box_cell hb 1, box_cell hb 2⟩
    | 1, _ => exact ⟨box_cell hb 3, box_cell hb 4, box_cell hb 5⟩
  · have hb := box_new (w.alloc (.cells #[.int .i64 1, .int .i64 4, .int .i64 4, .int .i64 4, .int .i64 10, .int .i64 10] 38)) #[.int .i64 0, .int .i64 1] 58
    rw [World.size_alloc] at hb
    match i, hi with
    | 0, _ => exact ⟨box_cell hb 0, box_cell hb 1⟩
end RepC
end Go.Proofs.Ytnbfadfhpegddaa
