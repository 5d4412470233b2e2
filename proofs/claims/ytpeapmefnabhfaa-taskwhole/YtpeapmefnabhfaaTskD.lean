/- Contracts of packages task and dutyref: demand, DemandOf. -/
import Derived.Test.YtpeapmefnabhfaaTskC
set_option linter.unusedVariables false
namespace Go.Proofs.Ytpeapmefnabhfaa
open Go.RowKit hiding tok
open SpanM SpanC TaskM
open RowsO hiding Tk
namespace TaskC
theorem job_bd {x : Tk} (h : tok x) {n : Int} (h0 : 0 ≤ n) : 0 ≤ (n - x.2.2 + x.2.1) / x.2.1 ∧ (n - x.2.2 + x.2.1) / x.2.1 = jobs x n ∧ jobs x n ≤ n + 1 ∧ 0 ≤ x.1 * jobs x n ∧ x.1 * jobs x n ≤ n + 10000 := by
  obtain ⟨e1, e2, d1, d2, g1, g2⟩ := h
  have e : (n - x.2.2 + x.2.1) / x.2.1 = jobs x n := by
    unfold jobs
    rw [Int.add_ediv_of_dvd_right (Int.dvd_refl _), Int.ediv_self (by omega)]
  have q0 := jobs_pos ⟨e1, e2, d1, d2, g1, g2⟩ h0
  have m3 := Int.emod_add_mul_ediv (n - x.2.2 + x.2.1) x.2.1
  have m1 := Int.emod_nonneg (n - x.2.2 + x.2.1) (show x.2.1 ≠ 0 by omega)
  rw [e] at m3
  have c : x.1 * jobs x n ≤ x.2.1 * jobs x n := Int.mul_le_mul_of_nonneg_right (by omega) q0
  have c2 : 1 * jobs x n ≤ x.2.1 * jobs x n := Int.mul_le_mul_of_nonneg_right (by omega) q0
  have c3 := Int.mul_nonneg (show 0 ≤ x.1 by omega) q0
  refine ⟨by omega, e, ?_, c3, by omega⟩
  have := jobs_most ⟨e1, e2, d1, d2, g1, g2⟩ h0
  have := Int.ediv_le_self (a := n) x.2.1 h0
  omega
theorem dem_snoc (l : List Tk) (x : Tk) (n : Int) : dem (l ++ [x]) n = dem l n + x.1 * jobs x n := by rw [dem_append]; simp [dem]
theorem dem_bd {l : List Tk} (h : ∀ x ∈ l, tok x) (hl : l.length ≤ 16) {n : Int} (h0 : 0 ≤ n) : 0 ≤ dem l n ∧ dem l n ≤ 16 * (n + 10000) := by
  refine ⟨dem_nonneg h h0, ?_⟩
  have a := dem_le h h0
  have b : (l.length : Int) * (n + 10000) ≤ 16 * (n + 10000) := Int.mul_le_mul_of_nonneg_right (by omega) (by omega)
  omega
set_option maxHeartbeats 800000 in
theorem demand_any (a : Option Addr) (cap : Nat) (l : List Tk) (n : Int) (w : World) (hr : Tks w a l) (hl : l.length ≤ 16) (hg : ∀ x ∈ l, tok x) (n1 : 0 ≤ n) (n2 : n ≤ 1099511627776) :
    Calls Try.prog 30 #[.slice a l.length cap, .int .i64 n] w fun e w' => e = .returned (.int .i64 (dem l n)) ∧ Below w.heap.size w w' := by
  have HR := hid hr
  have HG := hid hg
  clear hr hg
  go_enter Try.func30, Try.ntmps30
  go_wp2_with fail
  go_loopw [5, 10] (fun v5 v10 wr => ∃ (k : Nat) (c : Int), k ≤ l.length ∧ v5 = .int .i64 c ∧ v10 = .int .i64 k ∧ Hid (c = dem (l.take k) n) ∧ 0 ≤ c ∧ c ≤ k * 2000000000000 ∧ Below w.heap.size w wr) (fun _ v10 _ => l.length - (intOf v10).toNat)
  case atStart => exact ⟨0, 0, by omega, rfl, rfl, by show _ = _; simp [dem], by omega, by omega, Below.refl _ _⟩
  case round =>
    obtain ⟨k, c, hk, rfl, rfl, hA, c0, c1, hb⟩ := hrel
    have HB := hid hb
    have hsz := hb.size
    by_cases hlt : k < l.length
    · obtain ⟨b, off, rfl, hbw, d1, d2, d3⟩ := (HR.out.below hb (Nat.le_refl _)).at k hlt
      have hd := tk_snoc l k hlt
      have hmem := HG.out _ (tk_mem hlt)
      clear hb
      generalize l.getD k zTk = z at d1 d2 d3 hd hmem
      have hj := job_bd hmem n1
      obtain ⟨m, e, d⟩ := z
      obtain ⟨p1, p2, p3, p4, p5, p6⟩ := hmem
      have HD : Hid (c + m * jobs (m, e, d) n = dem (l.take (k + 1)) n) := by
        show _ = _
        rw [hd, dem_snoc, hA.out]
      simp only at d1 d2 d3 p1 p2 p3 p4 p5 p6 hj
      obtain ⟨j0, j1, j2, j3, j4⟩ := hj
      rw [j1] at j0
      have k1 : 0 ≤ n - d + e := by omega
      generalize hJ : jobs (m, e, d) n = J at *
      have hJ2 := hJ
      clear hd hJ
      have ez : (e == 0) = false := by simp; omega
      have ez2 : e ≠ 0 := by omega
      go_wp2_with fail
      go_quiet (fail)
      go_wp2_with fail
      go_roundw
      case rel => exact ⟨k + 1, _, by omega, rfl, by go_num, by first | exact HD | (show _ = _; have := HD.out; omega), by omega, by omega, below_drewN (HB.out.alloc hsz _) _⟩
      case measure => simp [intOf]; omega
    · have he : l.take k = l := List.take_of_length_le (by omega)
      rw [he] at hA
      clear hb
      go_wp2_with fail
      go_ret
      exact ⟨SpanC.ret_int hA.out, HB.out⟩
set_option maxHeartbeats 800000 in
theorem rdemand_any (a : Option Addr) (cap : Nat) (l : List Tk) (n : Int) (w : World) (hr : Tks w a l) (hl : l.length ≤ 16) (hg : ∀ x ∈ l, tok x) (n1 : 0 ≤ n) (n2 : n ≤ 1099511627776) :
    Calls Try.prog 16 #[.slice a l.length cap, .int .i64 n] w fun e w' => e = .returned (.int .i64 (dem l n)) ∧ Below w.heap.size w w' := by
  have HR := hid hr
  have HG := hid hg
  clear hr hg
  go_enter Try.func16, Try.ntmps16
  go_wp2_with fail
  go_loopw [5, 10] (fun v5 v10 wr => ∃ (k : Nat) (c : Int), k ≤ l.length ∧ v5 = .int .i64 c ∧ v10 = .int .i64 k ∧ Hid (c = dem (l.take k) n) ∧ 0 ≤ c ∧ c ≤ k * 2000000000000 ∧ Below w.heap.size w wr) (fun _ v10 _ => l.length - (intOf v10).toNat)
  case atStart => exact ⟨0, 0, by omega, rfl, rfl, by show _ = _; simp [dem], by omega, by omega, Below.refl _ _⟩
  case round =>
    obtain ⟨k, c, hk, rfl, rfl, hA, c0, c1, hb⟩ := hrel
    have HB := hid hb
    have hsz := hb.size
    by_cases hlt : k < l.length
    · obtain ⟨b, off, rfl, hbw, d1, d2, d3⟩ := (HR.out.below hb (Nat.le_refl _)).at k hlt
      have hd := tk_snoc l k hlt
      have hmem := HG.out _ (tk_mem hlt)
      clear hb
      generalize l.getD k zTk = z at d1 d2 d3 hd hmem
      have hj := job_bd hmem n1
      obtain ⟨m, e, d⟩ := z
      obtain ⟨p1, p2, p3, p4, p5, p6⟩ := hmem
      have HD : Hid (c + m * jobs (m, e, d) n = dem (l.take (k + 1)) n) := by
        show _ = _
        rw [hd, dem_snoc, hA.out]
      simp only at d1 d2 d3 p1 p2 p3 p4 p5 p6 hj
      obtain ⟨j0, j1, j2, j3, j4⟩ := hj
      have j5 : (n - d) / e + 1 = jobs (m, e, d) n := rfl
      have hw1 : IntKind.i64.wrap (n - d) = n - d := IntWalk.i64_in _ (by omega)
      rw [j1] at j0
      generalize hJ : jobs (m, e, d) n = J at *
      clear hd j1 hJ
      go_wp2_with fail
      go_quiet (first | (go_at_call 31; refine Calls.quiet_of_same (NumC.rfloor_any _ _ _ ?_ ?_ ?_ ?_) <;> omega))
      go_wp2_with fail
      go_roundw
      case rel => exact ⟨k + 1, _, by omega, rfl, by go_num, by first | exact HD | (show _ = _; have := HD.out; omega), by omega, by omega, below_drewN (HB.out.alloc hsz _) _⟩
      case measure => simp [intOf]; omega
    · have he : l.take k = l := List.take_of_length_le (by omega)
      rw [he] at hA
      clear hb
      go_wp2_with fail
      go_ret
      exact ⟨SpanC.ret_int hA.out, HB.out⟩
end TaskC
end Go.Proofs.Ytpeapmefnabhfaa
