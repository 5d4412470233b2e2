/- Several texts, one behind the other: TskC TskD. -/
import Derived.Test.YtpnahhpkaegeeaaPkB
import Derived.Test.YtpnahhpkaegeeaaPkC
import Derived.Test.YtpnahhpkaegeeaaPkM
import Derived.Test.YtpnahhpkaegeeaaPkD
/- Contracts of packages task and dutyref: within, Check, TasksRight. -/
set_option linter.unusedVariables false
namespace Go.Proofs.Ytpnahhpkaegeeaa
open Go.RowKit hiding tok
open SpanM SpanC TaskM
open RowsO hiding Tk
namespace TaskC
theorem twithin_yes (x lo hi : Int) (w : World) (h1 : lo ≤ x) (h2 : x ≤ hi) :
    Calls Try.prog 68 #[.int .i64 x, .int .i64 lo, .int .i64 hi] w fun e w' => e = .returned (.bool true) ∧ w' = w := by
  go_enter Try.func68, Try.ntmps68
  go_wp2
  go_ret
  exact ⟨rfl, rfl⟩
theorem twithin_no (x lo hi : Int) (w : World) (h : ¬ (lo ≤ x ∧ x ≤ hi)) :
    Calls Try.prog 68 #[.int .i64 x, .int .i64 lo, .int .i64 hi] w fun e w' => e = .returned (.bool false) ∧ w' = w := by
  by_cases h1 : lo ≤ x
  · have h2 : ¬ x ≤ hi := fun k => h ⟨h1, k⟩
    clear h
    go_enter Try.func68, Try.ntmps68
    go_wp2
    go_ret
    exact ⟨rfl, rfl⟩
  · clear h
    go_enter Try.func68, Try.ntmps68
    go_wp2
    go_ret
    exact ⟨rfl, rfl⟩
instance (x : Tk) : Decidable (tok x) := by unfold tok; infer_instance
/-- what Check says -/
def tchkG (l : List Tk) : Int := if ∀ x ∈ l, tok x then 0 else 4
def tchk (l : List Tk) : Int := if 16 < l.length then 2 else tchkG l
theorem tchk_zero {l : List Tk} (h : tchk l = 0) : l.length ≤ 16 ∧ ∀ x ∈ l, tok x := by
  unfold tchk tchkG at h
  split at h
  · simp at h
  · split at h
    · exact ⟨by omega, ‹_›⟩
    · simp at h
theorem tchk_of {l : List Tk} (h1 : l.length ≤ 16) (h2 : ∀ x ∈ l, tok x) : tchk l = 0 := by
  unfold tchk tchkG
  rw [if_neg (by omega), if_pos h2]
theorem tchk_bd (l : List Tk) : 0 ≤ tchk l ∧ tchk l ≤ 4 := by
  unfold tchk tchkG
  split
  · omega
  · split <;> omega
theorem tk_snoc (l : List Tk) (k : Nat) (h : k < l.length) : l.take (k + 1) = l.take k ++ [l.getD k zTk] := by
  rw [List.take_succ_eq_append_getElem h]; simp [List.getD, h]
theorem tk_mem {l : List Tk} {k : Nat} (h : k < l.length) : l.getD k zTk ∈ l := by simp [List.getD, h]
theorem bel_al {w wr w' : World} {o : Obj} (h : Below w.heap.size w wr) (hb : Below (wr.alloc o).heap.size (wr.alloc o) w') : Below w.heap.size w w' :=
  (h.alloc h.size o).trans (hb.mono (by have := h.size; simp; omega))
theorem tcheck_large (a : Option Addr) (n cap : Nat) (w : World) (h : 16 < n) :
    Calls Try.prog 41 #[.slice a n cap] w fun e w' => e = .returned (.int .i64 2) ∧ Below w.heap.size w w' := by
  have hn : (16 : Int) < (n : Int) := by omega
  go_enter Try.func41, Try.ntmps41
  go_wp2_with fail
  go_ret
  exact ⟨rfl, Below.refl _ _⟩
set_option maxHeartbeats 800000 in
theorem tcheck_list (a : Option Addr) (cap : Nat) (l : List Tk) (w : World) (h : ¬ 16 < l.length) (hr : Tks w a l) :
    Calls Try.prog 41 #[.slice a l.length cap] w fun e w' => e = .returned (.int .i64 (tchkG l)) ∧ Below w.heap.size w w' := by
  have hn : ¬ (16 : Int) < (l.length : Int) := by omega
  have HR := hid hr
  clear hr
  go_enter Try.func41, Try.ntmps41
  go_wp2_with fail
  go_loopw [10] (fun v10 wr => ∃ k : Nat, k ≤ l.length ∧ v10 = .int .i64 k ∧ Hid (∀ x ∈ l.take k, tok x) ∧ Below w.heap.size w wr) (fun v10 _ => l.length - (intOf v10).toNat)
  case atStart => exact ⟨0, by omega, rfl, by intro x hx; simp at hx, Below.refl _ _⟩
  case round =>
    obtain ⟨k, hk, rfl, hA, hb⟩ := hrel
    have HB := hid hb
    have hsz := hb.size
    by_cases hlt : k < l.length
    · obtain ⟨b, off, rfl, hbw, d1, d2, d3⟩ := (HR.out.below hb (Nat.le_refl _)).at k hlt
      have hd := tk_snoc l k hlt
      have hmem := tk_mem hlt
      clear hb
      generalize l.getD k zTk = z at d1 d2 d3 hd hmem
      obtain ⟨n, e, d⟩ := z
      have Hd := hid hd
      have Hm := hid hmem
      clear hd hmem
      simp only at d1 d2 d3
      by_cases hP : tok (n, e, d)
      · have HA : Hid (∀ x ∈ l.take (k + 1), tok x) := by
          show ∀ x ∈ _, _
          rw [Hd.out]
          intro x hx
          rcases List.mem_append.1 hx with hx | hx
          · exact hA.out x hx
          · simp at hx; subst hx; exact hP
        obtain ⟨p1, p2, p3, p4, p5, p6⟩ := hP
        simp only at p1 p2 p3 p4 p5 p6
        go_wp2_with (first | (go_at_call 68; go_call (twithin_yes _ _ _ _) as e w' ⟨rfl, rfl⟩))
        go_roundw
        case rel => exact ⟨k + 1, by omega, by go_num, HA, by have := HB.out; go_grown⟩
        case measure => simp [intOf]; omega
      · have HF : Hid (tchkG l = 4) := by
          show _ = _
          unfold tchkG
          rw [if_neg]
          intro h
          exact hP (h _ Hm.out)
        have C : (¬ (1 ≤ e ∧ e ≤ 10000)) ∨ ((1 ≤ e ∧ e ≤ 10000) ∧ ¬ (1 ≤ d ∧ d ≤ e)) ∨ ((1 ≤ e ∧ e ≤ 10000) ∧ (1 ≤ d ∧ d ≤ e) ∧ ¬ (1 ≤ n ∧ n ≤ d)) := by
          unfold TaskM.tok at hP; simp only at hP; omega
        clear hP
        rcases C with o1 | ⟨⟨o1, o2⟩, o3⟩ | ⟨⟨o1, o2⟩, ⟨o3, o4⟩, o5⟩
        all_goals
          go_wp2_with (first | (go_at_call 68; go_call (twithin_yes _ _ _ _) as e w' ⟨rfl, rfl⟩) | (go_at_call 68; go_call (twithin_no _ _ _ _) as e w' ⟨rfl, rfl⟩))
          go_ret
          exact ⟨SpanC.ret_int HF.out.symm, by have := HB.out; go_grown⟩
    · have he : l.take k = l := List.take_of_length_le (by omega)
      rw [he] at hA
      have HF : Hid (tchkG l = 0) := by
        show _ = _
        unfold tchkG
        rw [if_pos hA.out]
      clear hb
      go_wp2_with fail
      go_ret
      exact ⟨SpanC.ret_int HF.out.symm, HB.out⟩
theorem tcheck_any (a : Option Addr) (cap : Nat) (l : List Tk) (w : World) (hr : Tks w a l) :
    Calls Try.prog 41 #[.slice a l.length cap] w fun e w' => e = .returned (.int .i64 (tchk l)) ∧ Below w.heap.size w w' := by
  unfold tchk
  split
  · exact tcheck_large a _ cap w (by omega)
  · exact tcheck_list a cap l w (by omega) hr
theorem tright_large (a : Option Addr) (n cap : Nat) (w : World) (h : 16 < n) :
    Calls Try.prog 15 #[.slice a n cap] w fun e w' => e = .returned (.int .i64 2) ∧ Below w.heap.size w w' := by
  have hn : (16 : Int) < (n : Int) := by omega
  go_enter Try.func15, Try.ntmps15
  go_wp2_with fail
  go_ret
  exact ⟨rfl, Below.refl _ _⟩
set_option maxHeartbeats 800000 in
theorem tright_list (a : Option Addr) (cap : Nat) (l : List Tk) (w : World) (h : ¬ 16 < l.length) (hr : Tks w a l) :
    Calls Try.prog 15 #[.slice a l.length cap] w fun e w' => e = .returned (.int .i64 (tchkG l)) ∧ Below w.heap.size w w' := by
  have hn : ¬ (16 : Int) < (l.length : Int) := by omega
  have HR := hid hr
  clear hr
  go_enter Try.func15, Try.ntmps15
  go_wp2_with fail
  go_loopw [10] (fun v10 wr => ∃ k : Nat, k ≤ l.length ∧ v10 = .int .i64 k ∧ Hid (∀ x ∈ l.take k, tok x) ∧ Below w.heap.size w wr) (fun v10 _ => l.length - (intOf v10).toNat)
  case atStart => exact ⟨0, by omega, rfl, by intro x hx; simp at hx, Below.refl _ _⟩
  case round =>
    obtain ⟨k, hk, rfl, hA, hb⟩ := hrel
    have HB := hid hb
    have hsz := hb.size
    by_cases hlt : k < l.length
    · obtain ⟨b, off, rfl, hbw, d1, d2, d3⟩ := (HR.out.below hb (Nat.le_refl _)).at k hlt
      have hd := tk_snoc l k hlt
      have hmem := tk_mem hlt
      clear hb
      generalize l.getD k zTk = z at d1 d2 d3 hd hmem
      obtain ⟨n, e, d⟩ := z
      have Hd := hid hd
      have Hm := hid hmem
      clear hd hmem
      simp only at d1 d2 d3
      by_cases hP : tok (n, e, d)
      · have HA : Hid (∀ x ∈ l.take (k + 1), tok x) := by
          show ∀ x ∈ _, _
          rw [Hd.out]
          intro x hx
          rcases List.mem_append.1 hx with hx | hx
          · exact hA.out x hx
          · simp at hx; subst hx; exact hP
        obtain ⟨p1, p2, p3, p4, p5, p6⟩ := hP
        simp only at p1 p2 p3 p4 p5 p6
        go_wp2_with (first | (go_at_call 18; go_call (NumC.between_yes _ _ _ _) as e w' ⟨rfl, rfl⟩))
        go_roundw
        case rel => exact ⟨k + 1, by omega, by go_num, HA, by have := HB.out; go_grown⟩
        case measure => simp [intOf]; omega
      · have HF : Hid (tchkG l = 4) := by
          show _ = _
          unfold tchkG
          rw [if_neg]
          intro h
          exact hP (h _ Hm.out)
        have C : (¬ (1 ≤ e ∧ e ≤ 10000)) ∨ ((1 ≤ e ∧ e ≤ 10000) ∧ ¬ (1 ≤ d ∧ d ≤ e)) ∨ ((1 ≤ e ∧ e ≤ 10000) ∧ (1 ≤ d ∧ d ≤ e) ∧ ¬ (1 ≤ n ∧ n ≤ d)) := by
          unfold TaskM.tok at hP; simp only at hP; omega
        clear hP
        rcases C with o1 | ⟨⟨o1, o2⟩, o3⟩ | ⟨⟨o1, o2⟩, ⟨o3, o4⟩, o5⟩
        all_goals
          go_wp2_with (first | (go_at_call 18; go_call (NumC.between_yes _ _ _ _) as e w' ⟨rfl, rfl⟩) | (go_at_call 18; go_call (NumC.between_no _ _ _ _) as e w' ⟨rfl, rfl⟩))
          go_ret
          exact ⟨SpanC.ret_int HF.out.symm, by have := HB.out; go_grown⟩
    · have he : l.take k = l := List.take_of_length_le (by omega)
      rw [he] at hA
      have HF : Hid (tchkG l = 0) := by
        show _ = _
        unfold tchkG
        rw [if_pos hA.out]
      clear hb
      go_wp2_with fail
      go_ret
      exact ⟨SpanC.ret_int HF.out.symm, HB.out⟩
theorem tright_any (a : Option Addr) (cap : Nat) (l : List Tk) (w : World) (hr : Tks w a l) :
    Calls Try.prog 15 #[.slice a l.length cap] w fun e w' => e = .returned (.int .i64 (tchk l)) ∧ Below w.heap.size w w' := by
  unfold tchk
  split
  · exact tright_large a _ cap w (by omega)
  · exact tright_list a cap l w (by omega) hr
end TaskC
end Go.Proofs.Ytpnahhpkaegeeaa

/- Contracts of packages task and dutyref: demand, DemandOf. -/
set_option linter.unusedVariables false
namespace Go.Proofs.Ytpnahhpkaegeeaa
open Go.RowKit hiding tok
open SpanM SpanC TaskM
open RowsO hiding Tk
namespace TaskC
theorem job_bd {x : Tk} (h : tok x) {n : Int} (h0 : 0 ≤ n) : 0 ≤ (n - x.2.2 + x.2.1) / x.2.1 ∧ (n - x.2.2 + x.2.1) / x.2.1 = jobs x n ∧ jobs x n ≤ n + 1 ∧ 0 ≤ x.1 * jobs x n ∧ x.1 * jobs x n ≤ n + 10000 := by
  obtain ⟨e1, e2, d1, d2, g1, g2⟩ := h
  have e : (n - x.2.2 + x.2.1) / x.2.1 = jobs x n := by
    unfold jobs
    rw [Int.add_ediv_of_dvd_right (Int.dvd_refl _), Int.ediv_self (by omega)]
  have q0 := jobs_pos ⟨e1, e2, d1, d2, g1, g2⟩ h0
  have m3 := Int.emod_add_mul_ediv (n - x.2.2 + x.2.1) x.2.1
  have m1 := Int.emod_nonneg (n - x.2.2 + x.2.1) (show x.2.1 ≠ 0 by omega)
  rw [e] at m3
  have c : x.1 * jobs x n ≤ x.2.1 * jobs x n := Int.mul_le_mul_of_nonneg_right (by omega) q0
  have c2 : 1 * jobs x n ≤ x.2.1 * jobs x n := Int.mul_le_mul_of_nonneg_right (by omega) q0
  have c3 := Int.mul_nonneg (show 0 ≤ x.1 by omega) q0
  refine ⟨by omega, e, ?_, c3, by omega⟩
  have := jobs_most ⟨e1, e2, d1, d2, g1, g2⟩ h0
  have := Int.ediv_le_self (a := n) x.2.1 h0
  omega
theorem dem_snoc (l : List Tk) (x : Tk) (n : Int) : dem (l ++ [x]) n = dem l n + x.1 * jobs x n := by rw [dem_append]; simp [dem]
theorem dem_bd {l : List Tk} (h : ∀ x ∈ l, tok x) (hl : l.length ≤ 16) {n : Int} (h0 : 0 ≤ n) : 0 ≤ dem l n ∧ dem l n ≤ 16 * (n + 10000) := by
  refine ⟨dem_nonneg h h0, ?_⟩
  have a := dem_le h h0
  have b : (l.length : Int) * (n + 10000) ≤ 16 * (n + 10000) := Int.mul_le_mul_of_nonneg_right (by omega) (by omega)
  omega
set_option maxHeartbeats 800000 in
theorem demand_any (a : Option Addr) (cap : Nat) (l : List Tk) (n : Int) (w : World) (hr : Tks w a l) (hl : l.length ≤ 16) (hg : ∀ x ∈ l, tok x) (n1 : 0 ≤ n) (n2 : n ≤ 1099511627776) :
    Calls Try.prog 85 #[.slice a l.length cap, .int .i64 n] w fun e w' => e = .returned (.int .i64 (dem l n)) ∧ Below w.heap.size w w' := by
  have HR := hid hr
  have HG := hid hg
  clear hr hg
  go_enter Try.func85, Try.ntmps85
  go_wp2_with fail
  go_loopw [5, 10] (fun v5 v10 wr => ∃ (k : Nat) (c : Int), k ≤ l.length ∧ v5 = .int .i64 c ∧ v10 = .int .i64 k ∧ Hid (c = dem (l.take k) n) ∧ 0 ≤ c ∧ c ≤ k * 2000000000000 ∧ Below w.heap.size w wr) (fun _ v10 _ => l.length - (intOf v10).toNat)
  case atStart => exact ⟨0, 0, by omega, rfl, rfl, by show _ = _; simp [dem], by omega, by omega, Below.refl _ _⟩
  case round =>
    obtain ⟨k, c, hk, rfl, rfl, hA, c0, c1, hb⟩ := hrel
    have HB := hid hb
    have hsz := hb.size
    by_cases hlt : k < l.length
    · obtain ⟨b, off, rfl, hbw, d1, d2, d3⟩ := (HR.out.below hb (Nat.le_refl _)).at k hlt
      have hd := tk_snoc l k hlt
      have hmem := HG.out _ (tk_mem hlt)
      clear hb
      generalize l.getD k zTk = z at d1 d2 d3 hd hmem
      have hj := job_bd hmem n1
      obtain ⟨m, e, d⟩ := z
      obtain ⟨p1, p2, p3, p4, p5, p6⟩ := hmem
      have HD : Hid (c + m * jobs (m, e, d) n = dem (l.take (k + 1)) n) := by
        show _ = _
        rw [hd, dem_snoc, hA.out]
      simp only at d1 d2 d3 p1 p2 p3 p4 p5 p6 hj
      obtain ⟨j0, j1, j2, j3, j4⟩ := hj
      rw [j1] at j0
      have k1 : 0 ≤ n - d + e := by omega
      generalize hJ : jobs (m, e, d) n = J at *
      have hJ2 := hJ
      clear hd hJ
      have ez : (e == 0) = false := by simp; omega
      have ez2 : e ≠ 0 := by omega
      go_wp2_with fail
      go_quiet (fail)
      go_wp2_with fail
      go_roundw
      case rel => exact ⟨k + 1, _, by omega, rfl, by go_num, by first | exact HD | (show _ = _; have := HD.out; omega), by omega, by omega, below_drewN (HB.out.alloc hsz _) _⟩
      case measure => simp [intOf]; omega
    · have he : l.take k = l := List.take_of_length_le (by omega)
      rw [he] at hA
      clear hb
      go_wp2_with fail
      go_ret
      exact ⟨SpanC.ret_int hA.out, HB.out⟩
end TaskC
end Go.Proofs.Ytpnahhpkaegeeaa
