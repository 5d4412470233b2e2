/- Contracts of package reply: check, needWithin, replyOf. -/
import Derived.Test.YtnbfadfhpegddaaSupA
import Derived.Test.YtnbfadfhpegddaaTskC
import Derived.Test.YtnbfadfhpegddaaRepM
set_option linter.unusedVariables false
namespace Go.Proofs.Ytnbfadfhpegddaa
open Go.RowKit hiding tok
open SpanM SupM SpanC TaskM PlayM RankM
open RowsO hiding Tk
namespace RepC
open TaskC (tchk tchk_zero tcheck_any tk_snoc tk_mem)
/-- what is told of tasks and a set -/
def rchk (l : List Tk) (size : Int) (sl : List Sp) : Int := if tchk l = 0 then chk size sl else tchk l
theorem rchk_zero {l : List Tk} {size : Int} {sl : List Sp} (h : rchk l size sl = 0) : tchk l = 0 ∧ chk size sl = 0 := by
  unfold rchk at h
  split at h
  · exact ⟨by assumption, h⟩
  · exact absurd h (by assumption)
set_option maxHeartbeats 800000 in
theorem rcheck_any (l : List Tk) (size : Int) (sl : List Sp) (a c : Option Addr) (ca cc : Nat) (w : World) (hr : Tks w a l) (hs : Sps w c sl) :
    Calls Try.prog 49 #[.slice a l.length ca, .agg #[.int .i64 size, .slice c sl.length cc]] w fun e w' => e = .returned (.int .i64 (rchk l size sl)) ∧ Below w.heap.size w w' := by
  have HC1 := hid (fun W (h : Below w.heap.size w W) => tcheck_any a ca l W (hr.below h (Nat.le_refl _)))
  have HC2 := hid (fun W (h : Below w.heap.size w W) => check_any size c cc sl W (hs.below h (Nat.le_refl _)))
  clear hr hs
  unfold rchk
  by_cases h1 : tchk l = 0
  · rw [if_pos h1]
    rw [h1] at HC1
    clear h1
    generalize chk size sl = z at *
    go_enter Try.func49, Try.ntmps49
    go_wp2_with fail
    refine (HC1.out _ (by go_grown)).mono ?_
    rintro e w1 ⟨rfl, b1⟩
    have HB1 := hid (box1 b1)
    have c0 : w1.cell? ⟨w.heap.size, 0, none⟩ = some (.int .i64 size) := boxc HB1.out 0
    have c1 : w1.cell? ⟨w.heap.size, 1, none⟩ = some (.slice c sl.length cc) := boxc HB1.out 1
    clear b1
    go_wp2_with fail
    refine (HC2.out _ (of_alloc HB1.out)).mono ?_
    rintro e w2 ⟨rfl, b2⟩
    have HB2 := hid (box2 HB1.out b2)
    clear b2 c0 c1
    go_wp2_with fail
    go_ret
    exact ⟨rfl, of_alloc HB2.out⟩
  · rw [if_neg h1]
    have hn : (tchk l != 0) = true := by simpa using h1
    clear h1
    generalize tchk l = z at *
    go_enter Try.func49, Try.ntmps49
    go_wp2_with fail
    refine (HC1.out _ (by go_grown)).mono ?_
    rintro e w1 ⟨rfl, b1⟩
    have HB1 := hid (box1 b1)
    clear b1
    go_wp2_with fail
    go_ret
    exact ⟨rfl, of_alloc HB1.out⟩
theorem up_eq (n e : Int) : -(-n / e) = up n e := rfl
set_option maxRecDepth 20000 in
set_option maxHeartbeats 1600000 in
theorem needWithin_any (l : List Tk) (i : Nat) (n : Int) (a : Option Addr) (ca : Nat) (w : World) (hr : Tks w a l) (hc : l.length ≤ ca) (hl : l.length ≤ 16) (hg : ∀ x ∈ l, tok x) (hi : i < l.length) (n1 : 1 ≤ n) (n2 : n ≤ 10000) :
    Calls Try.prog 59 #[.slice a l.length ca, .int .i64 i, .int .i64 n] w fun e w' => e = .returned (.int .i64 (need (l.take i) (l.getD i zTk) n)) ∧ Below w.heap.size w w' := by
  have HR := hid hr
  have HG := hid hg
  obtain ⟨b0, o0, rfl, hb0, z1, z2, z3⟩ := hr.at i hi
  have hm0 := hg _ (tk_mem hi)
  generalize l.getD i zTk = x at *
  obtain ⟨m0, e0, d0⟩ := x
  obtain ⟨p1, p2, p3, p4, p5, p6⟩ := hm0
  simp only at z1 z2 z3 p1 p2 p3 p4 p5 p6
  have ii : (i : Int) ≤ (l.length : Int) := by omega
  have ic : i ≤ ca := by omega
  have il : (i : Int) < (l.length : Int) := by omega
  have HN0 := hid (show need (l.take 0) (m0, e0, d0) n = m0 by rw [List.take_zero, need_nil])
  clear hr hg z2 z3
  go_enter Try.func59, Try.ntmps59
  go_wp2_with fail
  go_loopw [7, 21] (fun v7 v21 wr => ∃ (k : Nat) (c : Int), k ≤ i ∧ v7 = .int .i64 c ∧ v21 = .int .i64 k ∧ Hid (need (l.take k) (m0, e0, d0) n = c) ∧ 1 ≤ c ∧ c ≤ 10000 + k * 20000 ∧ Below w.heap.size w wr) (fun _ v21 _ => i - (intOf v21).toNat)
  case atStart => exact ⟨0, m0, by omega, rfl, rfl, HN0, by omega, by omega, Below.refl _ _⟩
  case round =>
    obtain ⟨k, c, hk, rfl, rfl, hA, c0, c1, hb⟩ := hrel
    have HB := hid hb
    have hsz := hb.size
    by_cases hlt : k < i
    · have hkl : k < l.length := by omega
      obtain ⟨b, off, hbe, hbw, d1, d2, d3⟩ := (HR.out.below hb (Nat.le_refl _)).at k hkl
      injection hbe with hbe
      injection hbe with hbe1 hbe2
      subst hbe1 hbe2
      have hd := tk_snoc l k hkl
      have hmem := HG.out _ (tk_mem hkl)
      have hki : (k : Int) < (i : Int) := by omega
      clear hb
      generalize l.getD k zTk = z at d1 d2 d3 hd hmem
      have hj := term_bd hmem n1 n2
      have HD := hid (show need (l.take (k + 1)) (m0, e0, d0) n = c + z.1 * up n z.2.1 by rw [hd, need_snoc, hA.out])
      obtain ⟨m, e, d⟩ := z
      obtain ⟨q1, q2, q3, q4, q5, q6⟩ := hmem
      simp only at d1 d2 d3 q1 q2 q3 q4 q5 q6 hj HD
      obtain ⟨j0, j1, j2, j3⟩ := hj
      clear hd
      have HU := hid (fun W => NumC.up_yes n e W (by omega) (by omega) (by omega) (by omega))
      rw [up_eq] at HU
      generalize hJ : up n e = J at *
      go_wp2_with (first | (go_at_call 68; refine (HU.out _).mono ?_; rintro e' w' ⟨rfl, hw⟩; replace hw := hw.symm; subst hw))
      go_roundw
      case rel => exact ⟨k + 1, _, by omega, rfl, by go_num, HD, by omega, by omega, HB.out.alloc hsz _⟩
      case measure => simp [intOf]; omega
    · obtain rfl : k = i := by omega
      clear hb
      go_wp2_with fail
      go_ret
      exact ⟨by rw [hA.out]; rfl, HB.out⟩
/-- the reply of a task, and what is told where there is none -/
noncomputable def repV (l : List Tk) (i : Nat) (size : Int) (sl : List Sp) : Int := rep (lst size sl) (l.take i) (l.getD i zTk)
open Classical in
noncomputable def repE (l : List Tk) (i : Nat) (size : Int) (sl : List Sp) : Int := if repV l i size sl = 0 then 11 else 0
theorem repE_none {l : List Tk} {i : Nat} {size : Int} {sl : List Sp} (h : repV l i size sl = 0) : repE l i size sl = 11 := by unfold repE; rw [if_pos h]
theorem repE_some {l : List Tk} {i : Nat} {size : Int} {sl : List Sp} (h : repV l i size sl ≠ 0) : repE l i size sl = 0 := by unfold repE; rw [if_neg h]
theorem wait_nil {size n : Int} (hk : chk size [] = 0) (h1 : 1 ≤ n) (h2 : n ≤ 1000000) : waitE size [] n = 7 ∧ waitV size [] n = 0 := by
  have he : sE size [] n 1000000 = 0 := by unfold sE; rw [if_pos hk, if_pos ⟨by omega, h2⟩]
  unfold waitE waitV
  rw [if_pos he, if_neg (by omega), if_pos rfl, if_neg (by simp)]
  exact ⟨rfl, rfl⟩
theorem wait_some {size n : Int} {sl : List Sp} (hk : chk size sl = 0) (hl : sl ≠ []) (h1 : 1 ≤ n) (h2 : n ≤ 1000000) : waitE size sl n = 0 ∧ waitV size sl n = wt size sl n := by
  have he : sE size sl n 1000000 = 0 := by unfold sE; rw [if_pos hk, if_pos ⟨by omega, h2⟩]
  unfold waitE waitV
  rw [if_pos he, if_neg (by omega), if_neg hl, if_pos ⟨he, by omega, hl⟩]
  exact ⟨rfl, rfl⟩
set_option maxRecDepth 20000 in
set_option maxHeartbeats 1600000 in
theorem replyOf_any (l : List Tk) (i : Nat) (size : Int) (sl : List Sp) (a c : Option Addr) (ca cc : Nat) (w : World) (hr : Tks w a l) (hs : Sps w c sl) (hc : l.length ≤ ca) (hk : tchk l = 0) (hck : chk size sl = 0) (hi : i < l.length) :
    Calls Try.prog 50 #[.slice a l.length ca, .int .i64 i, .agg #[.int .i64 size, .slice c sl.length cc]] w fun e w' => e = .returned (.tuple #[.int .i64 (repV l i size sl), .int .i64 (repE l i size sl)]) ∧ Below w.heap.size w w' := by
  obtain ⟨hl, hg⟩ := tchk_zero hk
  obtain ⟨s1, s2, s3, s4⟩ := chk_zero hck
  have HR := hid hr
  have HS := hid hs
  have HCK := hid hck
  have HG := hid (show ∀ y ∈ l.take i, tok y from fun y hy => hg y (List.mem_of_mem_take hy))
  have hx := hg _ (tk_mem hi)
  have HX := hid hx
  have HP := hid (show (l.take i).length ≤ 16 by rw [List.length_take]; omega)
  have HNW := hid (fun W n (h : Below w.heap.size w W) (h1 : 1 ≤ n) (h2 : n ≤ 10000) => needWithin_any l i n a ca W (hr.below h (Nat.le_refl _)) hc hl hg hi h1 h2)
  have HWT := hid (fun W n (h : Below w.heap.size w W) => wait_any size n c cc sl W (hs.below h (Nat.le_refl _)))
  have HBD := hid (fun n (h1 : 1 ≤ n) (h2 : n ≤ 10000) => need_bd (fun y hy => hg y (List.mem_of_mem_take hy)) hx (show (l.take i).length ≤ 16 by rw [List.length_take]; omega) h1 h2)
  have HNONE := hid (fun (n : Int) (h : NoneB (lst size sl) (l.take i) (l.getD i zTk) n) (hn : ¬ n ≤ (l.getD i zTk).2.2) => none_end h hn)
  have HNIL := hid (fun (h : sl = []) => (by subst h; exact rep_nil (fun y hy => hg y (List.mem_of_mem_take hy)) hx : rep (lst size sl) (l.take i) (l.getD i zTk) = 0))
  have HLEAP := hid (fun (h : sl ≠ []) (n : Int) (h1 : 1 ≤ n) (hn : NoneB (lst size sl) (l.take i) (l.getD i zTk) n) => none_leap s1 s4 h (fun y hy => hg y (List.mem_of_mem_take hy)) hx h1 hn)
  have HEND := hid (fun (h : sl ≠ []) (n : Int) (h1 : 1 ≤ n) (h2 : n ≤ (l.getD i zTk).2.2) (hn : NoneB (lst size sl) (l.take i) (l.getD i zTk) n) (hw : wt size sl (need (l.take i) (l.getD i zTk) n) ≤ n) => leap_end s1 s4 h (fun y hy => hg y (List.mem_of_mem_take hy)) hx h1 h2 hn hw)
  have HV : Hid (repV l i size sl = rep (lst size sl) (l.take i) (l.getD i zTk)) := rfl
  have HE1 := hid (fun h : repV l i size sl = 0 => repE_none h)
  have HE2 := hid (fun h : repV l i size sl ≠ 0 => repE_some h)
  have H0 := hid (none_start (lst size sl) (l.take i) (l.getD i zTk))
  obtain ⟨b0, o0, rfl, hb0, z1, z2, z3⟩ := hr.at i hi
  have HD := hid hx.2.2.2.1
  have HE := hid hx.2.1
  have il : (i : Int) < (l.length : Int) := by omega
  generalize repV l i size sl = RV at *
  generalize repE l i size sl = RE at *
  generalize l.take i = p at *
  generalize l.getD i zTk = x at *
  obtain ⟨m0, e0, d0⟩ := x
  have HZ := hid z3
  simp only at z3 HD HE HEND HNONE
  have hd0 : d0 ≤ 10000 := by have := HD.out; have := HE.out; omega
  clear hr hs hg z1 z2 z3 hck s1 s4 hx
  go_enter Try.func50, Try.ntmps50
  go_wp2_with fail
  go_loopw [8] (fun v8 wr => ∃ (n : Int), v8 = .int .i64 n ∧ 1 ≤ n ∧ Hid (NoneB (lst size sl) p (m0, e0, d0) n) ∧ Below (w.heap.size + 1) (w.alloc (.cells #[.int .i64 size, .slice c sl.length cc] 26)) wr) (fun v8 _ => (d0 + 1 - intOf v8).toNat)
  case atStart => exact ⟨1, rfl, by omega, H0, Below.refl _ _⟩
  case round =>
    obtain ⟨n, rfl, h1, hN, hb⟩ := hrel
    have HB := hid hb
    have y3 := ((of_alloc hb).cell hb0).trans HZ.out
    have c0 : wr.cell? ⟨w.heap.size, 0, none⟩ = some (.int .i64 size) := boxc hb 0
    have c1 : wr.cell? ⟨w.heap.size, 1, none⟩ = some (.slice c sl.length cc) := boxc hb 1
    by_cases hn : n ≤ d0
    · have hnb := HBD.out n h1 (by omega)
      have HNN := hid (fun W (h : Below w.heap.size w W) => HNW.out W n h h1 (by omega))
      have HL := hid (fun h : sl ≠ [] => HLEAP.out h n h1 hN.out)
      have HF := hid (fun (h : sl ≠ []) (hw : wt size sl (need p (m0, e0, d0) n) ≤ n) => HEND.out h n h1 hn hN.out hw)
      generalize need p (m0, e0, d0) n = nd at *
      have HW := hid (fun W (h : Below w.heap.size w W) => HWT.out W nd h)
      have LV := hid (of_alloc hb)
      have p0 := BelowOf.cell c0
      have p1 := BelowOf.cell c1
      have hcase : (sl = [] ∧ waitE size sl nd = 7 ∧ waitV size sl nd = 0) ∨ (sl ≠ [] ∧ waitE size sl nd = 0 ∧ waitV size sl nd = wt size sl nd) := by
        by_cases h : sl = []
        · have hck := HCK.out
          have := wait_nil (size := size) (n := nd) (by rw [h] at hck; exact hck) hnb.1 hnb.2
          exact .inl ⟨h, by rw [h]; exact this.1, by rw [h]; exact this.2⟩
        · exact .inr ⟨h, wait_some HCK.out h hnb.1 hnb.2⟩
      clear hb
      rcases hcase with ⟨h, he, hv⟩ | ⟨h, he, hv⟩
      · rw [he, hv] at HW
        have HX0 := hid (HNIL.out h)
        have HXV := hid (HE1.out (HV.out.trans HX0.out))
        have HXR := hid (HV.out.trans HX0.out)
        clear h he hv
        go_wp2_with fail
        clear c0 c1 y3
        refine wp_region_quiet_below (by kernel_rfl) (by kernel_rfl) ?_
        repeat (first | go_big_quiet_step (first | (go_at_call 59; rename_i pp; exact Calls.below_of pp (HNN.out _ (bel_of LV.out pp.hb))) | (go_at_call 58; rename_i pp; exact Calls.below_of pp (HW.out _ (bel_of LV.out pp.hb)))) | quiet_step (first | (go_at_call 59; rename_i pp; exact Calls.below_of pp (HNN.out _ (bel_of LV.out pp.hb))) | (go_at_call 58; rename_i pp; exact Calls.below_of pp (HW.out _ (bel_of LV.out pp.hb)))))
        refine wpQuiet_nil ?_
        rintro w5 ⟨pp, hpp⟩
        have b5 := pp.hb
        rw [← hpp] at b5
        have L5 := hid (bel_of LV.out b5)
        clear hpp pp p0 p1 b5
        go_wp2_with fail
        go_ret2
        exact ⟨by rw [HXV.out, HXR.out]; rfl, L5.out⟩
      · rw [he, hv] at HW
        have HLE := hid (HL.out h)
        have HFE := hid (HF.out h)
        clear h he hv
        generalize wt size sl nd = wv at *
        go_wp2_with fail
        clear c0 c1 y3
        refine wp_region_quiet_below (by kernel_rfl) (by kernel_rfl) ?_
        repeat (first | go_big_quiet_step (first | (go_at_call 59; rename_i pp; exact Calls.below_of pp (HNN.out _ (bel_of LV.out pp.hb))) | (go_at_call 58; rename_i pp; exact Calls.below_of pp (HW.out _ (bel_of LV.out pp.hb)))) | quiet_step (first | (go_at_call 59; rename_i pp; exact Calls.below_of pp (HNN.out _ (bel_of LV.out pp.hb))) | (go_at_call 58; rename_i pp; exact Calls.below_of pp (HW.out _ (bel_of LV.out pp.hb)))))
        refine wpQuiet_nil ?_
        rintro w5 ⟨pp, hpp⟩
        have b5 := pp.hb
        rw [← hpp] at b5
        have L5 := hid (box2 HB.out b5)
        clear hpp pp p0 p1 b5
        by_cases hw : wv ≤ n
        · have HX := hid (HV.out.trans (HFE.out hw))
          have HXE := hid (HE2.out (by rw [HX.out]; omega))
          go_wp2_with fail
          go_ret2
          exact ⟨by rw [HX.out, HXE.out]; rfl, of_alloc L5.out⟩
        · go_wp2_with fail
          go_roundw
          case rel => exact ⟨wv, rfl, by omega, HLE, L5.out⟩
          case measure => simp [intOf]; omega
    · have HX := hid (HV.out.trans (HNONE.out n hN.out (by omega)))
      have HXE := hid (HE1.out HX.out)
      clear hb
      go_wp2_with fail
      go_ret2
      exact ⟨by rw [HX.out, HXE.out]; rfl, of_alloc HB.out⟩
end RepC
end Go.Proofs.Ytnbfadfhpegddaa
