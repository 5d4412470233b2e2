/- The walk of TaskDemand. -/
import Derived.Test.YtpeapmefnabhfaaTskM
import Derived.Test.YtpeapmefnabhfaaTskV
import Derived.Test.YtpeapmefnabhfaaRowTkr
set_option linter.unusedVariables false
namespace Go.Proofs.Ytpeapmefnabhfaa
open Go.RowKit hiding tok
open SpanM SupM SpanC TaskM
open RowsO hiding Tk
namespace TaskC
theorem most_snoc (n : Int) (l : List Tk) (x : Tk) : most n (l ++ [x]) = most n l + x.1 * (n / x.2.1 + 1) := by
  induction l with
  | nil => simp [most]
  | cons y r ih => simp only [List.cons_append, most, ih]; omega
theorem most_bd {x : Tk} (h : tok x) {n : Int} (h0 : 0 ≤ n) : 0 ≤ n / x.2.1 ∧ n / x.2.1 ≤ n ∧ 0 ≤ x.1 * (n / x.2.1 + 1) ∧ x.1 * (n / x.2.1 + 1) ≤ n + 10000 := by
  obtain ⟨e1, e2, d1, d2, g1, g2⟩ := h
  have q0 := Int.ediv_nonneg h0 (show 0 ≤ x.2.1 by omega)
  have m3 := Int.emod_add_mul_ediv n x.2.1
  have m1 := Int.emod_nonneg n (show x.2.1 ≠ 0 by omega)
  have c : x.1 * (n / x.2.1 + 1) ≤ x.2.1 * (n / x.2.1 + 1) := Int.mul_le_mul_of_nonneg_right (by omega) (by omega)
  have d : x.2.1 * (n / x.2.1 + 1) = x.2.1 * (n / x.2.1) + x.2.1 := by rw [Int.mul_add, Int.mul_one]
  exact ⟨q0, Int.ediv_le_self _ h0, Int.mul_nonneg (by omega) (by omega), by omega⟩
set_option maxHeartbeats 1600000 in
theorem dem_e1 (a sa : Option Addr) (cap scap : Nat) (l m : List Tk) (n more : Int) (w : World) (hr : Tks w a l) (hq : Tks w sa m) (he : demE l n ≠ 0) :
    Calls Try.prog 6 #[.slice a l.length cap, .slice sa m.length scap, .int .i64 n, .int .i64 more] w fun e w' => e = .returned (.bool true) ∧ Below w.heap.size w w' := by
  have H1 := hid (fun W (h : Below w.heap.size w W) => Demand_any a cap l n W (hr.below h (Nat.le_refl _)))
  have H2 := hid (fun W (h : Below w.heap.size w W) => Demand_any sa scap m n W (hq.below h (Nat.le_refl _)))
  have hne : (demE l n != 0) = true := by simp [he]
  clear hr hq he
  generalize demE l n = E at *
  generalize demV l n = d at *
  generalize demE m n = f at *
  generalize demV m n = d2 at *
  go_enter Try.func6, Try.ntmps6
  go_wp2_with fail
  refine (H1.out _ (Below.refl _ _)).mono ?_
  rintro e w1 ⟨rfl, b⟩
  have HB1 : Hid (Below w.heap.size w w1) := bel_of (Below.refl _ _) b
  clear b
  go_wp2_with fail
  refine (H2.out _ HB1.out).mono ?_
  rintro e w2 ⟨rfl, b⟩
  have HB2 : Hid (Below w.heap.size w w2) := bel_of HB1.out b
  clear b
  go_wp2_with fail
  refine ((fun (_ : Below w.heap.size w _) => tlives _) HB2.out).mono ?_
  rintro e w3 ⟨rfl, b⟩
  have HB3 : Hid (Below w.heap.size w w3) := bel_of HB2.out b
  clear b
  go_wp2_with fail
  refine ((fun (_ : Below w.heap.size w _) => tlives _) HB3.out).mono ?_
  rintro e w4 ⟨rfl, b⟩
  have HB4 : Hid (Below w.heap.size w w4) := bel_of HB3.out b
  clear b
  go_wp2_with fail
  go_ret
  exact ⟨by first | rfl | simp, HB4.out⟩
set_option maxHeartbeats 1600000 in
theorem dem_e2 (a sa : Option Addr) (cap scap : Nat) (l m : List Tk) (n more : Int) (w : World) (hr : Tks w a l) (hq : Tks w sa m) (he : demE l n = 0) (hf : demE m n ≠ 0) :
    Calls Try.prog 6 #[.slice a l.length cap, .slice sa m.length scap, .int .i64 n, .int .i64 more] w fun e w' => e = .returned (.bool true) ∧ Below w.heap.size w w' := by
  have H1 := hid (fun W (h : Below w.heap.size w W) => Demand_any a cap l n W (hr.below h (Nat.le_refl _)))
  have H2 := hid (fun W (h : Below w.heap.size w W) => Demand_any sa scap m n W (hq.below h (Nat.le_refl _)))
  rw [he] at H1
  have hne : (demE m n != 0) = true := by simp [hf]
  clear hr hq he hf
  generalize demV l n = d at *
  generalize demE m n = f at *
  generalize demV m n = d2 at *
  go_enter Try.func6, Try.ntmps6
  go_wp2_with fail
  refine (H1.out _ (Below.refl _ _)).mono ?_
  rintro e w1 ⟨rfl, b⟩
  have HB1 : Hid (Below w.heap.size w w1) := bel_of (Below.refl _ _) b
  clear b
  go_wp2_with fail
  refine (H2.out _ HB1.out).mono ?_
  rintro e w2 ⟨rfl, b⟩
  have HB2 : Hid (Below w.heap.size w w2) := bel_of HB1.out b
  clear b
  go_wp2_with fail
  refine ((fun (_ : Below w.heap.size w _) => tlives _) HB2.out).mono ?_
  rintro e w3 ⟨rfl, b⟩
  have HB3 : Hid (Below w.heap.size w w3) := bel_of HB2.out b
  clear b
  go_wp2_with fail
  refine ((fun (_ : Below w.heap.size w _) => tlives _) HB3.out).mono ?_
  rintro e w4 ⟨rfl, b⟩
  have HB4 : Hid (Below w.heap.size w w4) := bel_of HB3.out b
  clear b
  go_wp2_with fail
  go_ret
  exact ⟨by first | rfl | simp, HB4.out⟩
set_option maxHeartbeats 1600000 in
theorem dem_e3 (a sa : Option Addr) (cap scap : Nat) (l m : List Tk) (n more : Int) (w : World) (hr : Tks w a l) (hq : Tks w sa m) (he : demE l n = 0) (hf : demE m n = 0) (hlen : 16 < l.length + m.length) :
    Calls Try.prog 6 #[.slice a l.length cap, .slice sa m.length scap, .int .i64 n, .int .i64 more] w fun e w' => e = .returned (.bool true) ∧ Below w.heap.size w w' := by
  have H1 := hid (fun W (h : Below w.heap.size w W) => Demand_any a cap l n W (hr.below h (Nat.le_refl _)))
  have H2 := hid (fun W (h : Below w.heap.size w W) => Demand_any sa scap m n W (hq.below h (Nat.le_refl _)))
  rw [he] at H1
  rw [hf] at H2
  have l1 := (tchk_zero (demE_zero he).1).1
  have l2 := (tchk_zero (demE_zero hf).1).1
  have hl : (16 : Int) < (l.length : Int) + (m.length : Int) := by omega
  clear hr hq he hf
  generalize demV l n = d at *
  generalize demV m n = d2 at *
  go_enter Try.func6, Try.ntmps6
  go_wp2_with fail
  refine (H1.out _ (Below.refl _ _)).mono ?_
  rintro e w1 ⟨rfl, b⟩
  have HB1 : Hid (Below w.heap.size w w1) := bel_of (Below.refl _ _) b
  clear b
  go_wp2_with fail
  refine (H2.out _ HB1.out).mono ?_
  rintro e w2 ⟨rfl, b⟩
  have HB2 : Hid (Below w.heap.size w w2) := bel_of HB1.out b
  clear b
  go_wp2_with fail
  refine ((fun (_ : Below w.heap.size w _) => tlives _) HB2.out).mono ?_
  rintro e w3 ⟨rfl, b⟩
  have HB3 : Hid (Below w.heap.size w w3) := bel_of HB2.out b
  clear b
  go_wp2_with fail
  refine ((fun (_ : Below w.heap.size w _) => tlives _) HB3.out).mono ?_
  rintro e w4 ⟨rfl, b⟩
  have HB4 : Hid (Below w.heap.size w w4) := bel_of HB3.out b
  clear b
  go_wp2_with fail
  go_ret
  exact ⟨by first | rfl | simp, HB4.out⟩
set_option maxHeartbeats 1600000 in
theorem dem_more (a sa : Option Addr) (cap scap : Nat) (l m : List Tk) (n more : Int) (w : World) (hr : Tks w a l) (hq : Tks w sa m) (az : a = none → cap = 0) (sz : sa = none → m.length = 0 ∧ scap = 0) (he : demE l n = 0) (hf : demE m n = 0) (hlen : l.length + m.length ≤ 16) (m1 : 0 < more) (m2 : more ≤ 1099511627776 - n) :
    Calls Try.prog 6 #[.slice a l.length cap, .slice sa m.length scap, .int .i64 n, .int .i64 more] w fun e w' => e = .returned (.bool true) ∧ Below w.heap.size w w' := by
  have H1 := hid (fun W (h : Below w.heap.size w W) => Demand_any a cap l n W (hr.below h (Nat.le_refl _)))
  have H2 := hid (fun W (h : Below w.heap.size w W) => Demand_any sa scap m n W (hq.below h (Nat.le_refl _)))
  have H4 := hid (fun W (h : Below w.heap.size w W) => Demand_any a cap l (n + more) W (hr.below h (Nat.le_refl _)))
  obtain ⟨k1, n1, n2⟩ := demE_zero he
  obtain ⟨l1, g1⟩ := tchk_zero k1
  obtain ⟨l2, g2⟩ := tchk_zero (demE_zero hf).1
  have gA : ∀ x ∈ (l ++ m).reverse, tok x := by
    intro x hx
    simp only [List.mem_reverse, List.mem_append] at hx
    rcases hx with hx | hx
    · exact g1 x hx
    · exact g2 x hx
  have kA : demE (l ++ m).reverse n = 0 := demE_of (tchk_of (by simp; omega) gA) n1 n2
  have vA : demV (l ++ m).reverse n = demV l n + demV m n := by rw [demV_of kA, demV_of he, demV_of hf, dem_reverse, dem_append]
  have HC := hid (fun W (h : Below w.heap.size w W) => cloneTk_any a cap l W (hr.below h (Nat.le_refl _)) az (by unfold maxLen; omega) (by omega))
  have HD := hid (fun (b : Option Addr) (c : Nat) W (h : Tks W b (l ++ m).reverse) => Demand_any b c (l ++ m).reverse n W h)
  rw [kA, vA, show (l ++ m).reverse.length = (l ++ m).length by rw [List.length_reverse]] at HD
  have b1 := demV_bd l n
  have b2 := demV_bd m n
  have HMost := hid (dem_most g1 n1)
  rw [← demV_of he] at HMost
  have HQ := hid hq
  have HR := hid hr
  have HG := hid g1
  have HSZ := hid sz
  rw [he] at H1
  rw [hf] at H2
  have k4 : demE l (n + more) = 0 := demE_of k1 (by omega) (by omega)
  have v4 : demV l n ≤ demV l (n + more) := by rw [demV_of he, demV_of k4]; exact dem_mono g1 (by omega)
  have b4 := demV_bd l (n + more)
  rw [k4] at H4
  clear k4
  generalize demV l (n + more) = d4 at *
  clear hr hq he hf k1 g1 g2 gA kA vA az sz
  generalize demV l n = d at *
  generalize demV m n = d2 at *
  have hll : ¬ (16 : Int) < (l.length : Int) + (m.length : Int) := by omega
  have hl3 : l.length + m.length ≤ maxLen := by unfold maxLen; omega
  obtain ⟨b10, b11⟩ := b1
  obtain ⟨b20, b21⟩ := b2
  go_enter Try.func6, Try.ntmps6
  go_wp2_with fail
  refine (H1.out _ (Below.refl _ _)).mono ?_
  rintro e w1 ⟨rfl, b⟩
  have HB1 : Hid (Below w.heap.size w w1) := bel_of (Below.refl _ _) b
  clear b
  go_wp2_with fail
  refine (H2.out _ HB1.out).mono ?_
  rintro e w2 ⟨rfl, b⟩
  have HB2 : Hid (Below w.heap.size w w2) := bel_of HB1.out b
  clear b
  go_wp2_with fail
  refine ((fun (_ : Below w.heap.size w _) => tlives _) HB2.out).mono ?_
  rintro e w3 ⟨rfl, b⟩
  have HB3 : Hid (Below w.heap.size w w3) := bel_of HB2.out b
  clear b
  go_wp2_with fail
  refine (HC.out _ HB3.out).mono ?_
  rintro e w4 ⟨⟨v, rfl, ho⟩, b⟩
  have HB4 : Hid (Below w.heap.size w w4) := bel_of HB3.out b
  have HO4 := hid (ho.base HB3.out.size)
  obtain ⟨p5, n5, q5, hv5⟩ := ho.slice
  subst hv5
  clear b ho
  go_wp2_with (at_builtin; refine wpList_appendTk rfl _ _ rfl w.heap.size _ l m sa m.length scap rfl HO4.out rfl rfl (HQ.out.below HB4.out (Nat.le_refl _)) HSZ.out hl3 (by omega) HB4.out.size ?_)
  intro v' w5 ho5 hgr
  have HB5 : Hid (Below w.heap.size w w5) := Below.grown HB4.out hgr HB4.out.size (fun k hk => (World.ownsRow.lt HO4.out k hk).1)
  have HO5 := hid ho5
  obtain ⟨p6, n6, q6, hv6⟩ := ho5.slice
  subst hv6
  clear ho5 hgr
  go_wp2_with fail
  refine (reverseTk_any _ w.heap.size (l ++ m) w5 HO5.out HB5.out.size).mono ?_
  rintro e w6 ⟨rfl, ho6, b⟩
  have HB6 : Hid (Below w.heap.size w w6) := HB5.out.trans b
  obtain ⟨a6, c6, hv7, hr6⟩ := ho6.rows
  rw [show (l ++ m).reverse.length = (l ++ m).length by rw [List.length_reverse]] at hv7
  injection hv7 with e1 e2 e3
  subst e1 e2 e3
  have HD6 := hid (HD.out _ q6 w6 hr6)
  clear b ho6 hr6
  generalize (l ++ m).length = K at *
  go_wp2_with fail
  refine HD6.out.mono ?_
  rintro e w7 ⟨rfl, b⟩
  have HB7 : Hid (Below w.heap.size w w7) := bel_of HB6.out b
  clear b
  go_wp2_with fail
  refine (H4.out _ HB7.out).mono ?_
  rintro e w8 ⟨rfl, b⟩
  have HB8 : Hid (Below w.heap.size w w8) := bel_of HB7.out b
  clear b
  go_wp2_with fail
  go_loopw [18, 98] (fun vA vI wr => ∃ (k : Nat) (c : Int), k ≤ l.length ∧ vA = .int .i64 c ∧ vI = .int .i64 k ∧ Hid (c = most n (l.take k)) ∧ 0 ≤ c ∧ c ≤ k * 1099511700000 ∧ Below w.heap.size w wr) (fun _ vI _ => l.length - (intOf vI).toNat)
  case atStart => exact ⟨0, 0, by omega, rfl, rfl, by show _ = _; simp [most], by omega, by omega, HB8.out⟩
  case round =>
    obtain ⟨k, c, hk, rfl, rfl, hA, c0, c1, hb⟩ := hrel
    have HB := hid hb
    have hsz := hb.size
    by_cases hlt : k < l.length
    · obtain ⟨b, off, rfl, hbw, d1, d2, d3⟩ := (HR.out.below hb (Nat.le_refl _)).at k hlt
      have hd := tk_snoc l k hlt
      have hmem := HG.out _ (tk_mem hlt)
      clear hb
      generalize l.getD k zTk = z at d1 d2 d3 hd hmem
      have hj := most_bd hmem n1
      obtain ⟨x, e, y⟩ := z
      obtain ⟨p1, p2, p3, p4, p5, p6⟩ := hmem
      have HD : Hid (c + x * (n / e + 1) = most n (l.take (k + 1))) := by
        show _ = _
        rw [hd, most_snoc, hA.out]
      simp only at d1 d2 d3 p1 p2 p3 p4 p5 p6 hj
      obtain ⟨j0, j1, j2, j3⟩ := hj
      clear hd
      have ez : (e == 0) = false := by simp; omega
      have ez2 : e ≠ 0 := by omega
      generalize hJ : n / e = J at *
      go_wp2_with fail
      go_quiet (fail)
      go_wp2_with fail
      go_roundw
      case rel => exact ⟨k + 1, _, by omega, rfl, by go_num, by first | exact HD | (show _ = _; have := HD.out; omega), by omega, by omega, below_drewN (HB.out.alloc hsz _) _⟩
      case measure => simp [intOf]; omega
    · have he : l.take k = l := List.take_of_length_le (by omega)
      rw [he] at hA
      have hm := HMost.out
      rw [← hA.out] at hm
      clear hb hA
      go_wp2_with fail
      go_ret
      exact ⟨by first | rfl | simp, HB.out⟩
set_option maxHeartbeats 1600000 in
theorem dem_none (a sa : Option Addr) (cap scap : Nat) (l m : List Tk) (n more : Int) (w : World) (hr : Tks w a l) (hq : Tks w sa m) (az : a = none → cap = 0) (sz : sa = none → m.length = 0 ∧ scap = 0) (he : demE l n = 0) (hf : demE m n = 0) (hlen : l.length + m.length ≤ 16) (m1 : ¬ 0 < more) :
    Calls Try.prog 6 #[.slice a l.length cap, .slice sa m.length scap, .int .i64 n, .int .i64 more] w fun e w' => e = .returned (.bool true) ∧ Below w.heap.size w w' := by
  have H1 := hid (fun W (h : Below w.heap.size w W) => Demand_any a cap l n W (hr.below h (Nat.le_refl _)))
  have H2 := hid (fun W (h : Below w.heap.size w W) => Demand_any sa scap m n W (hq.below h (Nat.le_refl _)))
  obtain ⟨k1, n1, n2⟩ := demE_zero he
  obtain ⟨l1, g1⟩ := tchk_zero k1
  obtain ⟨l2, g2⟩ := tchk_zero (demE_zero hf).1
  have gA : ∀ x ∈ (l ++ m).reverse, tok x := by
    intro x hx
    simp only [List.mem_reverse, List.mem_append] at hx
    rcases hx with hx | hx
    · exact g1 x hx
    · exact g2 x hx
  have kA : demE (l ++ m).reverse n = 0 := demE_of (tchk_of (by simp; omega) gA) n1 n2
  have vA : demV (l ++ m).reverse n = demV l n + demV m n := by rw [demV_of kA, demV_of he, demV_of hf, dem_reverse, dem_append]
  have HC := hid (fun W (h : Below w.heap.size w W) => cloneTk_any a cap l W (hr.below h (Nat.le_refl _)) az (by unfold maxLen; omega) (by omega))
  have HD := hid (fun (b : Option Addr) (c : Nat) W (h : Tks W b (l ++ m).reverse) => Demand_any b c (l ++ m).reverse n W h)
  rw [kA, vA, show (l ++ m).reverse.length = (l ++ m).length by rw [List.length_reverse]] at HD
  have b1 := demV_bd l n
  have b2 := demV_bd m n
  have HMost := hid (dem_most g1 n1)
  rw [← demV_of he] at HMost
  have HQ := hid hq
  have HR := hid hr
  have HG := hid g1
  have HSZ := hid sz
  rw [he] at H1
  rw [hf] at H2
  clear hr hq he hf k1 g1 g2 gA kA vA az sz
  generalize demV l n = d at *
  generalize demV m n = d2 at *
  have hll : ¬ (16 : Int) < (l.length : Int) + (m.length : Int) := by omega
  have hl3 : l.length + m.length ≤ maxLen := by unfold maxLen; omega
  obtain ⟨b10, b11⟩ := b1
  obtain ⟨b20, b21⟩ := b2
  go_enter Try.func6, Try.ntmps6
  go_wp2_with fail
  refine (H1.out _ (Below.refl _ _)).mono ?_
  rintro e w1 ⟨rfl, b⟩
  have HB1 : Hid (Below w.heap.size w w1) := bel_of (Below.refl _ _) b
  clear b
  go_wp2_with fail
  refine (H2.out _ HB1.out).mono ?_
  rintro e w2 ⟨rfl, b⟩
  have HB2 : Hid (Below w.heap.size w w2) := bel_of HB1.out b
  clear b
  go_wp2_with fail
  refine ((fun (_ : Below w.heap.size w _) => tlives _) HB2.out).mono ?_
  rintro e w3 ⟨rfl, b⟩
  have HB3 : Hid (Below w.heap.size w w3) := bel_of HB2.out b
  clear b
  go_wp2_with fail
  refine (HC.out _ HB3.out).mono ?_
  rintro e w4 ⟨⟨v, rfl, ho⟩, b⟩
  have HB4 : Hid (Below w.heap.size w w4) := bel_of HB3.out b
  have HO4 := hid (ho.base HB3.out.size)
  obtain ⟨p5, n5, q5, hv5⟩ := ho.slice
  subst hv5
  clear b ho
  go_wp2_with (at_builtin; refine wpList_appendTk rfl _ _ rfl w.heap.size _ l m sa m.length scap rfl HO4.out rfl rfl (HQ.out.below HB4.out (Nat.le_refl _)) HSZ.out hl3 (by omega) HB4.out.size ?_)
  intro v' w5 ho5 hgr
  have HB5 : Hid (Below w.heap.size w w5) := Below.grown HB4.out hgr HB4.out.size (fun k hk => (World.ownsRow.lt HO4.out k hk).1)
  have HO5 := hid ho5
  obtain ⟨p6, n6, q6, hv6⟩ := ho5.slice
  subst hv6
  clear ho5 hgr
  go_wp2_with fail
  refine (reverseTk_any _ w.heap.size (l ++ m) w5 HO5.out HB5.out.size).mono ?_
  rintro e w6 ⟨rfl, ho6, b⟩
  have HB6 : Hid (Below w.heap.size w w6) := HB5.out.trans b
  obtain ⟨a6, c6, hv7, hr6⟩ := ho6.rows
  rw [show (l ++ m).reverse.length = (l ++ m).length by rw [List.length_reverse]] at hv7
  injection hv7 with e1 e2 e3
  subst e1 e2 e3
  have HD6 := hid (HD.out _ q6 w6 hr6)
  clear b ho6 hr6
  generalize (l ++ m).length = K at *
  go_wp2_with fail
  refine HD6.out.mono ?_
  rintro e w7 ⟨rfl, b⟩
  have HB7 : Hid (Below w.heap.size w w7) := bel_of HB6.out b
  clear b
  go_wp2_with fail
  go_loopw [18, 98] (fun vA vI wr => ∃ (k : Nat) (c : Int), k ≤ l.length ∧ vA = .int .i64 c ∧ vI = .int .i64 k ∧ Hid (c = most n (l.take k)) ∧ 0 ≤ c ∧ c ≤ k * 1099511700000 ∧ Below w.heap.size w wr) (fun _ vI _ => l.length - (intOf vI).toNat)
  case atStart => exact ⟨0, 0, by omega, rfl, rfl, by show _ = _; simp [most], by omega, by omega, HB7.out⟩
  case round =>
    obtain ⟨k, c, hk, rfl, rfl, hA, c0, c1, hb⟩ := hrel
    have HB := hid hb
    have hsz := hb.size
    by_cases hlt : k < l.length
    · obtain ⟨b, off, rfl, hbw, d1, d2, d3⟩ := (HR.out.below hb (Nat.le_refl _)).at k hlt
      have hd := tk_snoc l k hlt
      have hmem := HG.out _ (tk_mem hlt)
      clear hb
      generalize l.getD k zTk = z at d1 d2 d3 hd hmem
      have hj := most_bd hmem n1
      obtain ⟨x, e, y⟩ := z
      obtain ⟨p1, p2, p3, p4, p5, p6⟩ := hmem
      have HD : Hid (c + x * (n / e + 1) = most n (l.take (k + 1))) := by
        show _ = _
        rw [hd, most_snoc, hA.out]
      simp only at d1 d2 d3 p1 p2 p3 p4 p5 p6 hj
      obtain ⟨j0, j1, j2, j3⟩ := hj
      clear hd
      have ez : (e == 0) = false := by simp; omega
      have ez2 : e ≠ 0 := by omega
      generalize hJ : n / e = J at *
      go_wp2_with fail
      go_quiet (fail)
      go_wp2_with fail
      go_roundw
      case rel => exact ⟨k + 1, _, by omega, rfl, by go_num, by first | exact HD | (show _ = _; have := HD.out; omega), by omega, by omega, below_drewN (HB.out.alloc hsz _) _⟩
      case measure => simp [intOf]; omega
    · have he : l.take k = l := List.take_of_length_le (by omega)
      rw [he] at hA
      have hm := HMost.out
      rw [← hA.out] at hm
      clear hb hA
      go_wp2_with fail
      go_ret
      exact ⟨by first | rfl | simp, HB.out⟩
set_option maxHeartbeats 1600000 in
theorem dem_much (a sa : Option Addr) (cap scap : Nat) (l m : List Tk) (n more : Int) (w : World) (hr : Tks w a l) (hq : Tks w sa m) (az : a = none → cap = 0) (sz : sa = none → m.length = 0 ∧ scap = 0) (he : demE l n = 0) (hf : demE m n = 0) (hlen : l.length + m.length ≤ 16) (m1 : 0 < more) (m2 : ¬ more ≤ 1099511627776 - n) :
    Calls Try.prog 6 #[.slice a l.length cap, .slice sa m.length scap, .int .i64 n, .int .i64 more] w fun e w' => e = .returned (.bool true) ∧ Below w.heap.size w w' := by
  have H1 := hid (fun W (h : Below w.heap.size w W) => Demand_any a cap l n W (hr.below h (Nat.le_refl _)))
  have H2 := hid (fun W (h : Below w.heap.size w W) => Demand_any sa scap m n W (hq.below h (Nat.le_refl _)))
  obtain ⟨k1, n1, n2⟩ := demE_zero he
  obtain ⟨l1, g1⟩ := tchk_zero k1
  obtain ⟨l2, g2⟩ := tchk_zero (demE_zero hf).1
  have gA : ∀ x ∈ (l ++ m).reverse, tok x := by
    intro x hx
    simp only [List.mem_reverse, List.mem_append] at hx
    rcases hx with hx | hx
    · exact g1 x hx
    · exact g2 x hx
  have kA : demE (l ++ m).reverse n = 0 := demE_of (tchk_of (by simp; omega) gA) n1 n2
  have vA : demV (l ++ m).reverse n = demV l n + demV m n := by rw [demV_of kA, demV_of he, demV_of hf, dem_reverse, dem_append]
  have HC := hid (fun W (h : Below w.heap.size w W) => cloneTk_any a cap l W (hr.below h (Nat.le_refl _)) az (by unfold maxLen; omega) (by omega))
  have HD := hid (fun (b : Option Addr) (c : Nat) W (h : Tks W b (l ++ m).reverse) => Demand_any b c (l ++ m).reverse n W h)
  rw [kA, vA, show (l ++ m).reverse.length = (l ++ m).length by rw [List.length_reverse]] at HD
  have b1 := demV_bd l n
  have b2 := demV_bd m n
  have HMost := hid (dem_most g1 n1)
  rw [← demV_of he] at HMost
  have HQ := hid hq
  have HR := hid hr
  have HG := hid g1
  have HSZ := hid sz
  rw [he] at H1
  rw [hf] at H2
  clear hr hq he hf k1 g1 g2 gA kA vA az sz
  generalize demV l n = d at *
  generalize demV m n = d2 at *
  have hll : ¬ (16 : Int) < (l.length : Int) + (m.length : Int) := by omega
  have hl3 : l.length + m.length ≤ maxLen := by unfold maxLen; omega
  obtain ⟨b10, b11⟩ := b1
  obtain ⟨b20, b21⟩ := b2
  go_enter Try.func6, Try.ntmps6
  go_wp2_with fail
  refine (H1.out _ (Below.refl _ _)).mono ?_
  rintro e w1 ⟨rfl, b⟩
  have HB1 : Hid (Below w.heap.size w w1) := bel_of (Below.refl _ _) b
  clear b
  go_wp2_with fail
  refine (H2.out _ HB1.out).mono ?_
  rintro e w2 ⟨rfl, b⟩
  have HB2 : Hid (Below w.heap.size w w2) := bel_of HB1.out b
  clear b
  go_wp2_with fail
  refine ((fun (_ : Below w.heap.size w _) => tlives _) HB2.out).mono ?_
  rintro e w3 ⟨rfl, b⟩
  have HB3 : Hid (Below w.heap.size w w3) := bel_of HB2.out b
  clear b
  go_wp2_with fail
  refine (HC.out _ HB3.out).mono ?_
  rintro e w4 ⟨⟨v, rfl, ho⟩, b⟩
  have HB4 : Hid (Below w.heap.size w w4) := bel_of HB3.out b
  have HO4 := hid (ho.base HB3.out.size)
  obtain ⟨p5, n5, q5, hv5⟩ := ho.slice
  subst hv5
  clear b ho
  go_wp2_with (at_builtin; refine wpList_appendTk rfl _ _ rfl w.heap.size _ l m sa m.length scap rfl HO4.out rfl rfl (HQ.out.below HB4.out (Nat.le_refl _)) HSZ.out hl3 (by omega) HB4.out.size ?_)
  intro v' w5 ho5 hgr
  have HB5 : Hid (Below w.heap.size w w5) := Below.grown HB4.out hgr HB4.out.size (fun k hk => (World.ownsRow.lt HO4.out k hk).1)
  have HO5 := hid ho5
  obtain ⟨p6, n6, q6, hv6⟩ := ho5.slice
  subst hv6
  clear ho5 hgr
  go_wp2_with fail
  refine (reverseTk_any _ w.heap.size (l ++ m) w5 HO5.out HB5.out.size).mono ?_
  rintro e w6 ⟨rfl, ho6, b⟩
  have HB6 : Hid (Below w.heap.size w w6) := HB5.out.trans b
  obtain ⟨a6, c6, hv7, hr6⟩ := ho6.rows
  rw [show (l ++ m).reverse.length = (l ++ m).length by rw [List.length_reverse]] at hv7
  injection hv7 with e1 e2 e3
  subst e1 e2 e3
  have HD6 := hid (HD.out _ q6 w6 hr6)
  clear b ho6 hr6
  generalize (l ++ m).length = K at *
  go_wp2_with fail
  refine HD6.out.mono ?_
  rintro e w7 ⟨rfl, b⟩
  have HB7 : Hid (Below w.heap.size w w7) := bel_of HB6.out b
  clear b
  go_wp2_with fail
  go_loopw [18, 98] (fun vA vI wr => ∃ (k : Nat) (c : Int), k ≤ l.length ∧ vA = .int .i64 c ∧ vI = .int .i64 k ∧ Hid (c = most n (l.take k)) ∧ 0 ≤ c ∧ c ≤ k * 1099511700000 ∧ Below w.heap.size w wr) (fun _ vI _ => l.length - (intOf vI).toNat)
  case atStart => exact ⟨0, 0, by omega, rfl, rfl, by show _ = _; simp [most], by omega, by omega, HB7.out⟩
  case round =>
    obtain ⟨k, c, hk, rfl, rfl, hA, c0, c1, hb⟩ := hrel
    have HB := hid hb
    have hsz := hb.size
    by_cases hlt : k < l.length
    · obtain ⟨b, off, rfl, hbw, d1, d2, d3⟩ := (HR.out.below hb (Nat.le_refl _)).at k hlt
      have hd := tk_snoc l k hlt
      have hmem := HG.out _ (tk_mem hlt)
      clear hb
      generalize l.getD k zTk = z at d1 d2 d3 hd hmem
      have hj := most_bd hmem n1
      obtain ⟨x, e, y⟩ := z
      obtain ⟨p1, p2, p3, p4, p5, p6⟩ := hmem
      have HD : Hid (c + x * (n / e + 1) = most n (l.take (k + 1))) := by
        show _ = _
        rw [hd, most_snoc, hA.out]
      simp only at d1 d2 d3 p1 p2 p3 p4 p5 p6 hj
      obtain ⟨j0, j1, j2, j3⟩ := hj
      clear hd
      have ez : (e == 0) = false := by simp; omega
      have ez2 : e ≠ 0 := by omega
      generalize hJ : n / e = J at *
      go_wp2_with fail
      go_quiet (fail)
      go_wp2_with fail
      go_roundw
      case rel => exact ⟨k + 1, _, by omega, rfl, by go_num, by first | exact HD | (show _ = _; have := HD.out; omega), by omega, by omega, below_drewN (HB.out.alloc hsz _) _⟩
      case measure => simp [intOf]; omega
    · have he : l.take k = l := List.take_of_length_le (by omega)
      rw [he] at hA
      have hm := HMost.out
      rw [← hA.out] at hm
      clear hb hA
      go_wp2_with fail
      go_ret
      exact ⟨by first | rfl | simp, HB.out⟩
theorem taskDemand_walk (a : Option Addr) (len cap : Nat) (l : List Tk) (sa : Option Addr) (slen scap : Nat) (m : List Tk) (n more : Int) (w : World) (h : IsTks w a len cap l) (k : IsTks w sa slen scap m) (hn : wf64 n) (hm : wf64 more) :
    Calls Try.prog 6 #[.slice a len cap, .slice sa slen scap, .int .i64 n, .int .i64 more] w fun e w' => e = .returned (.bool true) ∧ Below w.heap.size w w' := by
  obtain ⟨rfl, h1, h2, hr, az, _⟩ := h
  obtain ⟨rfl, k1, k2, hq, sz, _⟩ := k
  by_cases he : demE l n = 0
  · by_cases hf : demE m n = 0
    · by_cases hl : l.length + m.length ≤ 16
      · by_cases m1 : 0 < more
        · by_cases m2 : more ≤ 1099511627776 - n
          · exact dem_more a sa cap scap l m n more w hr hq (fun h => (az h).2) sz he hf hl m1 m2
          · exact dem_much a sa cap scap l m n more w hr hq (fun h => (az h).2) sz he hf hl m1 m2
        · exact dem_none a sa cap scap l m n more w hr hq (fun h => (az h).2) sz he hf hl m1
      · exact dem_e3 a sa cap scap l m n more w hr hq he hf (by omega)
    · exact dem_e2 a sa cap scap l m n more w hr hq he hf
  · exact dem_e1 a sa cap scap l m n more w hr hq he
end TaskC
end Go.Proofs.Ytpeapmefnabhfaa
