/- The walk of TaskRound. -/
import Derived.Test.YtpeapmefnabhfaaTskM
import Derived.Test.YtpeapmefnabhfaaTskV
set_option linter.unusedVariables false
namespace Go.Proofs.Ytpeapmefnabhfaa
open Go.RowKit hiding tok
open SpanM SupM SpanC TaskM
open RowsO hiding Tk
namespace TaskC
set_option maxHeartbeats 1000000 in
theorem tround_e1 (a : Option Addr) (cap : Nat) (l : List Tk) (n : Int) (w : World) (hr : Tks w a l) (he : roundE l ≠ 0) :
    Calls Try.prog 5 #[.slice a l.length cap, .int .i64 n] w fun e w' => e = .returned (.bool true) ∧ Below w.heap.size w w' := by
  have H1 := hid (fun W (h : Below w.heap.size w W) => use_any a cap l W (hr.below h (Nat.le_refl _)))
  have H2 := hid (fun W (h : Below w.heap.size w W) => Demand_any a cap l n W (hr.below h (Nat.le_refl _)))
  have hne : (roundE l != 0) = true := by simp [he]
  clear hr he
  generalize roundE l = E at *
  generalize roundV l = R at *
  generalize useV l = U at *
  generalize demV l n = d at *
  generalize demE l n = f at *
  go_enter Try.func5, Try.ntmps5
  go_wp2_with fail
  refine (H1.out _ (Below.refl _ _)).mono ?_
  rintro e w1 ⟨rfl, b⟩
  have HB1 : Hid (Below w.heap.size w w1) := bel_of (Below.refl _ _) b
  clear b
  go_wp2_with fail
  refine (H2.out _ HB1.out).mono ?_
  rintro e w2 ⟨rfl, b⟩
  have HB2 : Hid (Below w.heap.size w w2) := bel_of HB1.out b
  clear b
  go_wp2_with fail
  refine ((fun (_ : Below w.heap.size w _) => tlives _) HB2.out).mono ?_
  rintro e w3 ⟨rfl, b⟩
  have HB3 : Hid (Below w.heap.size w w3) := bel_of HB2.out b
  clear b
  go_wp2_with fail
  refine ((fun (_ : Below w.heap.size w _) => tlives _) HB3.out).mono ?_
  rintro e w4 ⟨rfl, b⟩
  have HB4 : Hid (Below w.heap.size w w4) := bel_of HB3.out b
  clear b
  go_wp2_with fail
  go_ret
  exact ⟨by first | rfl | simp, HB4.out⟩
set_option maxHeartbeats 1000000 in
theorem tround_e2 (a : Option Addr) (cap : Nat) (l : List Tk) (n : Int) (w : World) (hr : Tks w a l) (he : roundE l = 0) (hf : demE l n ≠ 0) :
    Calls Try.prog 5 #[.slice a l.length cap, .int .i64 n] w fun e w' => e = .returned (.bool true) ∧ Below w.heap.size w w' := by
  have H1 := hid (fun W (h : Below w.heap.size w W) => use_any a cap l W (hr.below h (Nat.le_refl _)))
  have H2 := hid (fun W (h : Below w.heap.size w W) => Demand_any a cap l n W (hr.below h (Nat.le_refl _)))
  rw [he] at H1
  have hne : (demE l n != 0) = true := by simp [hf]
  clear hr he hf
  generalize roundV l = R at *
  generalize useV l = U at *
  generalize demV l n = d at *
  generalize demE l n = f at *
  go_enter Try.func5, Try.ntmps5
  go_wp2_with fail
  refine (H1.out _ (Below.refl _ _)).mono ?_
  rintro e w1 ⟨rfl, b⟩
  have HB1 : Hid (Below w.heap.size w w1) := bel_of (Below.refl _ _) b
  clear b
  go_wp2_with fail
  refine (H2.out _ HB1.out).mono ?_
  rintro e w2 ⟨rfl, b⟩
  have HB2 : Hid (Below w.heap.size w w2) := bel_of HB1.out b
  clear b
  go_wp2_with fail
  refine ((fun (_ : Below w.heap.size w _) => tlives _) HB2.out).mono ?_
  rintro e w3 ⟨rfl, b⟩
  have HB3 : Hid (Below w.heap.size w w3) := bel_of HB2.out b
  clear b
  go_wp2_with fail
  refine ((fun (_ : Below w.heap.size w _) => tlives _) HB3.out).mono ?_
  rintro e w4 ⟨rfl, b⟩
  have HB4 : Hid (Below w.heap.size w w4) := bel_of HB3.out b
  clear b
  go_wp2_with fail
  go_ret
  exact ⟨by first | rfl | simp, HB4.out⟩
set_option maxHeartbeats 1000000 in
theorem tround_e3 (a : Option Addr) (cap : Nat) (l : List Tk) (n : Int) (w : World) (hr : Tks w a l) (he : roundE l = 0) (hf : demE l n = 0) (hn : 1099511627776 - roundV l < n) :
    Calls Try.prog 5 #[.slice a l.length cap, .int .i64 n] w fun e w' => e = .returned (.bool true) ∧ Below w.heap.size w w' := by
  have H1 := hid (fun W (h : Below w.heap.size w W) => use_any a cap l W (hr.below h (Nat.le_refl _)))
  have H2 := hid (fun W (h : Below w.heap.size w W) => Demand_any a cap l n W (hr.below h (Nat.le_refl _)))
  rw [he] at H1
  rw [hf] at H2
  obtain ⟨hk, n1, n2⟩ := demE_zero hf
  obtain ⟨q1, q2, e1, q3, r1, r2⟩ := roundE_zero he
  rw [← e1] at r1 r2
  clear hr he hf hk q1 q2 q3 e1
  generalize roundV l = R at *
  generalize useV l = U at *
  generalize demV l n = d at *
  go_enter Try.func5, Try.ntmps5
  go_wp2_with fail
  refine (H1.out _ (Below.refl _ _)).mono ?_
  rintro e w1 ⟨rfl, b⟩
  have HB1 : Hid (Below w.heap.size w w1) := bel_of (Below.refl _ _) b
  clear b
  go_wp2_with fail
  refine (H2.out _ HB1.out).mono ?_
  rintro e w2 ⟨rfl, b⟩
  have HB2 : Hid (Below w.heap.size w w2) := bel_of HB1.out b
  clear b
  go_wp2_with fail
  refine ((fun (_ : Below w.heap.size w _) => tlives _) HB2.out).mono ?_
  rintro e w3 ⟨rfl, b⟩
  have HB3 : Hid (Below w.heap.size w w3) := bel_of HB2.out b
  clear b
  go_wp2_with fail
  refine ((fun (_ : Below w.heap.size w _) => tlives _) HB3.out).mono ?_
  rintro e w4 ⟨rfl, b⟩
  have HB4 : Hid (Below w.heap.size w w4) := bel_of HB3.out b
  clear b
  go_wp2_with fail
  go_ret
  exact ⟨by first | rfl | simp, HB4.out⟩
set_option maxHeartbeats 1000000 in
theorem tround_ok (a : Option Addr) (cap : Nat) (l : List Tk) (n : Int) (w : World) (hr : Tks w a l) (he : roundE l = 0) (hf : demE l n = 0) (hn : n ≤ 1099511627776 - roundV l) :
    Calls Try.prog 5 #[.slice a l.length cap, .int .i64 n] w fun e w' => e = .returned (.bool true) ∧ Below w.heap.size w w' := by
  have H1 := hid (fun W (h : Below w.heap.size w W) => use_any a cap l W (hr.below h (Nat.le_refl _)))
  have H2 := hid (fun W (h : Below w.heap.size w W) => Demand_any a cap l n W (hr.below h (Nat.le_refl _)))
  have H3 := hid (fun W (h : Below w.heap.size w W) => Demand_any a cap l (n + roundV l) W (hr.below h (Nat.le_refl _)))
  have H4 := hid (fun W (h : Below w.heap.size w W) => Demand_any a cap l (roundV l) W (hr.below h (Nat.le_refl _)))
  rw [he] at H1
  rw [hf] at H2
  obtain ⟨hk, n1, n2⟩ := demE_zero hf
  obtain ⟨q1, q2, e1, q3, r1, r2⟩ := roundE_zero he
  obtain ⟨hl, hg⟩ := tchk_zero hk
  have hd := rnd_dvd hg q2
  rw [← e1] at r1 r2 hd
  have f3 : demE l (n + roundV l) = 0 := demE_of hk (by omega) (by omega)
  have f4 : demE l (roundV l) = 0 := demE_of hk (by omega) (by omega)
  have u : useV l = use (roundV l) l := by unfold useV; rw [if_pos he]
  have g1 : demV l (n + roundV l) = demV l n + useV l := by rw [demV_of f3, demV_of hf, u, dem_round hg hd n]
  have g2 : demV l (roundV l) = useV l := by
    have := dem_round hg hd 0
    rw [dem_zero hg, show (0 : Int) + roundV l = roundV l by omega, show (0 : Int) + use (roundV l) l = use (roundV l) l by omega] at this
    rw [demV_of f4, u, this]
  have b1 := demV_bd l n
  have b2 := demV_bd l (roundV l)
  rw [g2] at b2
  obtain ⟨b3, b4⟩ := b1
  obtain ⟨b5, b6⟩ := b2
  rw [f3, g1] at H3
  rw [f4, g2] at H4
  clear hr he hf hk q1 q2 q3 e1 hg hd f3 f4 u g1 g2
  generalize roundV l = R at *
  generalize useV l = U at *
  generalize demV l n = d at *
  go_enter Try.func5, Try.ntmps5
  go_wp2_with fail
  refine (H1.out _ (Below.refl _ _)).mono ?_
  rintro e w1 ⟨rfl, b⟩
  have HB1 : Hid (Below w.heap.size w w1) := bel_of (Below.refl _ _) b
  clear b
  go_wp2_with fail
  refine (H2.out _ HB1.out).mono ?_
  rintro e w2 ⟨rfl, b⟩
  have HB2 : Hid (Below w.heap.size w w2) := bel_of HB1.out b
  clear b
  go_wp2_with fail
  refine ((fun (_ : Below w.heap.size w _) => tlives _) HB2.out).mono ?_
  rintro e w3 ⟨rfl, b⟩
  have HB3 : Hid (Below w.heap.size w w3) := bel_of HB2.out b
  clear b
  go_wp2_with fail
  refine (H3.out _ HB3.out).mono ?_
  rintro e w4 ⟨rfl, b⟩
  have HB4 : Hid (Below w.heap.size w w4) := bel_of HB3.out b
  clear b
  go_wp2_with fail
  refine (H4.out _ HB4.out).mono ?_
  rintro e w5 ⟨rfl, b⟩
  have HB5 : Hid (Below w.heap.size w w5) := bel_of HB4.out b
  clear b
  go_wp2_with fail
  go_ret
  exact ⟨by first | rfl | simp, HB5.out⟩
theorem taskRound_walk (a : Option Addr) (len cap : Nat) (l : List Tk) (n : Int) (w : World) (h : IsTks w a len cap l) (hn : wf64 n) :
    Calls Try.prog 5 #[.slice a len cap, .int .i64 n] w fun e w' => e = .returned (.bool true) ∧ Below w.heap.size w w' := by
  obtain ⟨rfl, h1, h2, hr, _, _⟩ := h
  by_cases he : roundE l = 0
  · by_cases hf : demE l n = 0
    · by_cases hb : n ≤ 1099511627776 - roundV l
      · exact tround_ok a cap l n w hr he hf hb
      · exact tround_e3 a cap l n w hr he hf (by omega)
    · exact tround_e2 a cap l n w hr he hf
  · exact tround_e1 a cap l n w hr he
end TaskC
end Go.Proofs.Ytpeapmefnabhfaa
