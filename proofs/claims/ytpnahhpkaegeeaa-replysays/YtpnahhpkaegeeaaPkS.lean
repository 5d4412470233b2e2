/- Several texts, one behind the other: RepA RepB RepV. -/
import Derived.Test.YtpnahhpkaegeeaaPkH
import Derived.Test.YtpnahhpkaegeeaaPkE
import Derived.Test.YtpnahhpkaegeeaaPkM
import Derived.Test.YtpnahhpkaegeeaaPkJ
/- Contracts of package reply: check, needWithin, replyOf. -/
set_option linter.unusedVariables false
namespace Go.Proofs.Ytpnahhpkaegeeaa
open Go.RowKit hiding tok
open SpanM SupM SpanC TaskM PlayM RankM
open RowsO hiding Tk
namespace RepC
open TaskC (tchk tchk_zero tcheck_any tk_snoc tk_mem)
/-- what is told of tasks and a set -/
def rchk (l : List Tk) (size : Int) (sl : List Sp) : Int := if tchk l = 0 then chk size sl else tchk l
theorem rchk_zero {l : List Tk} {size : Int} {sl : List Sp} (h : rchk l size sl = 0) : tchk l = 0 ∧ chk size sl = 0 := by
  unfold rchk at h
  split at h
  · exact ⟨by assumption, h⟩
  · exact absurd h (by assumption)
set_option maxHeartbeats 800000 in
theorem rcheck_any (l : List Tk) (size : Int) (sl : List Sp) (a c : Option Addr) (ca cc : Nat) (w : World) (hr : Tks w a l) (hs : Sps w c sl) :
    Calls Try.prog 58 #[.slice a l.length ca, .agg #[.int .i64 size, .slice c sl.length cc]] w fun e w' => e = .returned (.int .i64 (rchk l size sl)) ∧ Below w.heap.size w w' := by
  have HC1 := hid (fun W (h : Below w.heap.size w W) => tcheck_any a ca l W (hr.below h (Nat.le_refl _)))
  have HC2 := hid (fun W (h : Below w.heap.size w W) => check_any size c cc sl W (hs.below h (Nat.le_refl _)))
  clear hr hs
  unfold rchk
  by_cases h1 : tchk l = 0
  · rw [if_pos h1]
    rw [h1] at HC1
    clear h1
    generalize chk size sl = z at *
    go_enter Try.func58, Try.ntmps58
    go_wp2_with fail
    refine (HC1.out _ (by go_grown)).mono ?_
    rintro e w1 ⟨rfl, b1⟩
    have HB1 := hid (box1 b1)
    have c0 : w1.cell? ⟨w.heap.size, 0, none⟩ = some (.int .i64 size) := boxc HB1.out 0
    have c1 : w1.cell? ⟨w.heap.size, 1, none⟩ = some (.slice c sl.length cc) := boxc HB1.out 1
    clear b1
    go_wp2_with fail
    refine (HC2.out _ (of_alloc HB1.out)).mono ?_
    rintro e w2 ⟨rfl, b2⟩
    have HB2 := hid (box2 HB1.out b2)
    clear b2 c0 c1
    go_wp2_with fail
    go_ret
    exact ⟨rfl, of_alloc HB2.out⟩
  · rw [if_neg h1]
    have hn : (tchk l != 0) = true := by simpa using h1
    clear h1
    generalize tchk l = z at *
    go_enter Try.func58, Try.ntmps58
    go_wp2_with fail
    refine (HC1.out _ (by go_grown)).mono ?_
    rintro e w1 ⟨rfl, b1⟩
    have HB1 := hid (box1 b1)
    clear b1
    go_wp2_with fail
    go_ret
    exact ⟨rfl, of_alloc HB1.out⟩
theorem up_eq (n e : Int) : -(-n / e) = up n e := rfl
set_option maxRecDepth 20000 in
set_option maxHeartbeats 1600000 in
theorem needWithin_any (l : List Tk) (i : Nat) (n : Int) (a : Option Addr) (ca : Nat) (w : World) (hr : Tks w a l) (hc : l.length ≤ ca) (hl : l.length ≤ 16) (hg : ∀ x ∈ l, tok x) (hi : i < l.length) (n1 : 1 ≤ n) (n2 : n ≤ 10000) :
    Calls Try.prog 79 #[.slice a l.length ca, .int .i64 i, .int .i64 n] w fun e w' => e = .returned (.int .i64 (need (l.take i) (l.getD i zTk) n)) ∧ Below w.heap.size w w' := by
  have HR := hid hr
  have HG := hid hg
  obtain ⟨b0, o0, rfl, hb0, z1, z2, z3⟩ := hr.at i hi
  have hm0 := hg _ (tk_mem hi)
  generalize l.getD i zTk = x at *
  obtain ⟨m0, e0, d0⟩ := x
  obtain ⟨p1, p2, p3, p4, p5, p6⟩ := hm0
  simp only at z1 z2 z3 p1 p2 p3 p4 p5 p6
  have ii : (i : Int) ≤ (l.length : Int) := by omega
  have ic : i ≤ ca := by omega
  have il : (i : Int) < (l.length : Int) := by omega
  have HN0 := hid (show need (l.take 0) (m0, e0, d0) n = m0 by rw [List.take_zero, need_nil])
  clear hr hg z2 z3
  go_enter Try.func79, Try.ntmps79
  go_wp2_with fail
  go_loopw [7, 21] (fun v7 v21 wr => ∃ (k : Nat) (c : Int), k ≤ i ∧ v7 = .int .i64 c ∧ v21 = .int .i64 k ∧ Hid (need (l.take k) (m0, e0, d0) n = c) ∧ 1 ≤ c ∧ c ≤ 10000 + k * 20000 ∧ Below w.heap.size w wr) (fun _ v21 _ => i - (intOf v21).toNat)
  case atStart => exact ⟨0, m0, by omega, rfl, rfl, HN0, by omega, by omega, Below.refl _ _⟩
  case round =>
    obtain ⟨k, c, hk, rfl, rfl, hA, c0, c1, hb⟩ := hrel
    have HB := hid hb
    have hsz := hb.size
    by_cases hlt : k < i
    · have hkl : k < l.length := by omega
      obtain ⟨b, off, hbe, hbw, d1, d2, d3⟩ := (HR.out.below hb (Nat.le_refl _)).at k hkl
      injection hbe with hbe
      injection hbe with hbe1 hbe2
      subst hbe1 hbe2
      have hd := tk_snoc l k hkl
      have hmem := HG.out _ (tk_mem hkl)
      have hki : (k : Int) < (i : Int) := by omega
      clear hb
      generalize l.getD k zTk = z at d1 d2 d3 hd hmem
      have hj := term_bd hmem n1 n2
      have HD := hid (show need (l.take (k + 1)) (m0, e0, d0) n = c + z.1 * up n z.2.1 by rw [hd, need_snoc, hA.out])
      obtain ⟨m, e, d⟩ := z
      obtain ⟨q1, q2, q3, q4, q5, q6⟩ := hmem
      simp only at d1 d2 d3 q1 q2 q3 q4 q5 q6 hj HD
      obtain ⟨j0, j1, j2, j3⟩ := hj
      clear hd
      have HU := hid (fun W => NumC.up_yes n e W (by omega) (by omega) (by omega) (by omega))
      rw [up_eq] at HU
      generalize hJ : up n e = J at *
      go_wp2_with (first | (go_at_call 96; refine (HU.out _).mono ?_; rintro e' w' ⟨rfl, hw⟩; replace hw := hw.symm; subst hw))
      go_roundw
      case rel => exact ⟨k + 1, _, by omega, rfl, by go_num, HD, by omega, by omega, HB.out.alloc hsz _⟩
      case measure => simp [intOf]; omega
    · obtain rfl : k = i := by omega
      clear hb
      go_wp2_with fail
      go_ret
      exact ⟨by rw [hA.out]; rfl, HB.out⟩
/-- the reply of a task, and what is told where there is none -/
noncomputable def repV (l : List Tk) (i : Nat) (size : Int) (sl : List Sp) : Int := rep (lst size sl) (l.take i) (l.getD i zTk)
open Classical in
noncomputable def repE (l : List Tk) (i : Nat) (size : Int) (sl : List Sp) : Int := if repV l i size sl = 0 then 11 else 0
theorem repE_none {l : List Tk} {i : Nat} {size : Int} {sl : List Sp} (h : repV l i size sl = 0) : repE l i size sl = 11 := by unfold repE; rw [if_pos h]
theorem repE_some {l : List Tk} {i : Nat} {size : Int} {sl : List Sp} (h : repV l i size sl ≠ 0) : repE l i size sl = 0 := by unfold repE; rw [if_neg h]
theorem wait_nil {size n : Int} (hk : chk size [] = 0) (h1 : 1 ≤ n) (h2 : n ≤ 1000000) : waitE size [] n = 7 ∧ waitV size [] n = 0 := by
  have he : sE size [] n 1000000 = 0 := by unfold sE; rw [if_pos hk, if_pos ⟨by omega, h2⟩]
  unfold waitE waitV
  rw [if_pos he, if_neg (by omega), if_pos rfl, if_neg (by simp)]
  exact ⟨rfl, rfl⟩
theorem wait_some {size n : Int} {sl : List Sp} (hk : chk size sl = 0) (hl : sl ≠ []) (h1 : 1 ≤ n) (h2 : n ≤ 1000000) : waitE size sl n = 0 ∧ waitV size sl n = wt size sl n := by
  have he : sE size sl n 1000000 = 0 := by unfold sE; rw [if_pos hk, if_pos ⟨by omega, h2⟩]
  unfold waitE waitV
  rw [if_pos he, if_neg (by omega), if_neg hl, if_pos ⟨he, by omega, hl⟩]
  exact ⟨rfl, rfl⟩
set_option maxRecDepth 20000 in
set_option maxHeartbeats 1600000 in
theorem replyOf_any (l : List Tk) (i : Nat) (size : Int) (sl : List Sp) (a c : Option Addr) (ca cc : Nat) (w : World) (hr : Tks w a l) (hs : Sps w c sl) (hc : l.length ≤ ca) (hk : tchk l = 0) (hck : chk size sl = 0) (hi : i < l.length) :
    Calls Try.prog 59 #[.slice a l.length ca, .int .i64 i, .agg #[.int .i64 size, .slice c sl.length cc]] w fun e w' => e = .returned (.tuple #[.int .i64 (repV l i size sl), .int .i64 (repE l i size sl)]) ∧ Below w.heap.size w w' := by
  obtain ⟨hl, hg⟩ := tchk_zero hk
  obtain ⟨s1, s2, s3, s4⟩ := chk_zero hck
  have HR := hid hr
  have HS := hid hs
  have HCK := hid hck
  have HG := hid (show ∀ y ∈ l.take i, tok y from fun y hy => hg y (List.mem_of_mem_take hy))
  have hx := hg _ (tk_mem hi)
  have HX := hid hx
  have HP := hid (show (l.take i).length ≤ 16 by rw [List.length_take]; omega)
  have HNW := hid (fun W n (h : Below w.heap.size w W) (h1 : 1 ≤ n) (h2 : n ≤ 10000) => needWithin_any l i n a ca W (hr.below h (Nat.le_refl _)) hc hl hg hi h1 h2)
  have HWT := hid (fun W n (h : Below w.heap.size w W) => wait_any size n c cc sl W (hs.below h (Nat.le_refl _)))
  have HBD := hid (fun n (h1 : 1 ≤ n) (h2 : n ≤ 10000) => need_bd (fun y hy => hg y (List.mem_of_mem_take hy)) hx (show (l.take i).length ≤ 16 by rw [List.length_take]; omega) h1 h2)
  have HNONE := hid (fun (n : Int) (h : NoneB (lst size sl) (l.take i) (l.getD i zTk) n) (hn : ¬ n ≤ (l.getD i zTk).2.2) => none_end h hn)
  have HNIL := hid (fun (h : sl = []) => (by subst h; exact rep_nil (fun y hy => hg y (List.mem_of_mem_take hy)) hx : rep (lst size sl) (l.take i) (l.getD i zTk) = 0))
  have HLEAP := hid (fun (h : sl ≠ []) (n : Int) (h1 : 1 ≤ n) (hn : NoneB (lst size sl) (l.take i) (l.getD i zTk) n) => none_leap s1 s4 h (fun y hy => hg y (List.mem_of_mem_take hy)) hx h1 hn)
  have HEND := hid (fun (h : sl ≠ []) (n : Int) (h1 : 1 ≤ n) (h2 : n ≤ (l.getD i zTk).2.2) (hn : NoneB (lst size sl) (l.take i) (l.getD i zTk) n) (hw : wt size sl (need (l.take i) (l.getD i zTk) n) ≤ n) => leap_end s1 s4 h (fun y hy => hg y (List.mem_of_mem_take hy)) hx h1 h2 hn hw)
  have HV : Hid (repV l i size sl = rep (lst size sl) (l.take i) (l.getD i zTk)) := rfl
  have HE1 := hid (fun h : repV l i size sl = 0 => repE_none h)
  have HE2 := hid (fun h : repV l i size sl ≠ 0 => repE_some h)
  have H0 := hid (none_start (lst size sl) (l.take i) (l.getD i zTk))
  obtain ⟨b0, o0, rfl, hb0, z1, z2, z3⟩ := hr.at i hi
  have HD := hid hx.2.2.2.1
  have HE := hid hx.2.1
  have il : (i : Int) < (l.length : Int) := by omega
  generalize repV l i size sl = RV at *
  generalize repE l i size sl = RE at *
  generalize l.take i = p at *
  generalize l.getD i zTk = x at *
  obtain ⟨m0, e0, d0⟩ := x
  have HZ := hid z3
  simp only at z3 HD HE HEND HNONE
  have hd0 : d0 ≤ 10000 := by have := HD.out; have := HE.out; omega
  clear hr hs hg z1 z2 z3 hck s1 s4 hx
  go_enter Try.func59, Try.ntmps59
  go_wp2_with fail
  go_loopw [8] (fun v8 wr => ∃ (n : Int), v8 = .int .i64 n ∧ 1 ≤ n ∧ Hid (NoneB (lst size sl) p (m0, e0, d0) n) ∧ Below (w.heap.size + 1) (w.alloc (.cells #[.int .i64 size, .slice c sl.length cc] 25)) wr) (fun v8 _ => (d0 + 1 - intOf v8).toNat)
  case atStart => exact ⟨1, rfl, by omega, H0, Below.refl _ _⟩
  case round =>
    obtain ⟨n, rfl, h1, hN, hb⟩ := hrel
    have HB := hid hb
    have y3 := ((of_alloc hb).cell hb0).trans HZ.out
    have c0 : wr.cell? ⟨w.heap.size, 0, none⟩ = some (.int .i64 size) := boxc hb 0
    have c1 : wr.cell? ⟨w.heap.size, 1, none⟩ = some (.slice c sl.length cc) := boxc hb 1
    by_cases hn : n ≤ d0
    · have hnb := HBD.out n h1 (by omega)
      have HNN := hid (fun W (h : Below w.heap.size w W) => HNW.out W n h h1 (by omega))
      have HL := hid (fun h : sl ≠ [] => HLEAP.out h n h1 hN.out)
      have HF := hid (fun (h : sl ≠ []) (hw : wt size sl (need p (m0, e0, d0) n) ≤ n) => HEND.out h n h1 hn hN.out hw)
      generalize need p (m0, e0, d0) n = nd at *
      have HW := hid (fun W (h : Below w.heap.size w W) => HWT.out W nd h)
      have LV := hid (of_alloc hb)
      have p0 := BelowOf.cell c0
      have p1 := BelowOf.cell c1
      have hcase : (sl = [] ∧ waitE size sl nd = 7 ∧ waitV size sl nd = 0) ∨ (sl ≠ [] ∧ waitE size sl nd = 0 ∧ waitV size sl nd = wt size sl nd) := by
        by_cases h : sl = []
        · have hck := HCK.out
          have := wait_nil (size := size) (n := nd) (by rw [h] at hck; exact hck) hnb.1 hnb.2
          exact .inl ⟨h, by rw [h]; exact this.1, by rw [h]; exact this.2⟩
        · exact .inr ⟨h, wait_some HCK.out h hnb.1 hnb.2⟩
      clear hb
      rcases hcase with ⟨h, he, hv⟩ | ⟨h, he, hv⟩
      · rw [he, hv] at HW
        have HX0 := hid (HNIL.out h)
        have HXV := hid (HE1.out (HV.out.trans HX0.out))
        have HXR := hid (HV.out.trans HX0.out)
        clear h he hv
        go_wp2_with fail
        clear c0 c1 y3
        refine wp_region_quiet_below (by kernel_rfl) (by kernel_rfl) ?_
        repeat (first | go_big_quiet_step (first | (go_at_call 79; rename_i pp; exact Calls.below_of pp (HNN.out _ (bel_of LV.out pp.hb))) | (go_at_call 78; rename_i pp; exact Calls.below_of pp (HW.out _ (bel_of LV.out pp.hb)))) | quiet_step (first | (go_at_call 79; rename_i pp; exact Calls.below_of pp (HNN.out _ (bel_of LV.out pp.hb))) | (go_at_call 78; rename_i pp; exact Calls.below_of pp (HW.out _ (bel_of LV.out pp.hb)))))
        refine wpQuiet_nil ?_
        rintro w5 ⟨pp, hpp⟩
        have b5 := pp.hb
        rw [← hpp] at b5
        have L5 := hid (bel_of LV.out b5)
        clear hpp pp p0 p1 b5
        go_wp2_with fail
        go_ret2
        exact ⟨by rw [HXV.out, HXR.out]; rfl, L5.out⟩
      · rw [he, hv] at HW
        have HLE := hid (HL.out h)
        have HFE := hid (HF.out h)
        clear h he hv
        generalize wt size sl nd = wv at *
        go_wp2_with fail
        clear c0 c1 y3
        refine wp_region_quiet_below (by kernel_rfl) (by kernel_rfl) ?_
        repeat (first | go_big_quiet_step (first | (go_at_call 79; rename_i pp; exact Calls.below_of pp (HNN.out _ (bel_of LV.out pp.hb))) | (go_at_call 78; rename_i pp; exact Calls.below_of pp (HW.out _ (bel_of LV.out pp.hb)))) | quiet_step (first | (go_at_call 79; rename_i pp; exact Calls.below_of pp (HNN.out _ (bel_of LV.out pp.hb))) | (go_at_call 78; rename_i pp; exact Calls.below_of pp (HW.out _ (bel_of LV.out pp.hb)))))
        refine wpQuiet_nil ?_
        rintro w5 ⟨pp, hpp⟩
        have b5 := pp.hb
        rw [← hpp] at b5
        have L5 := hid (box2 HB.out b5)
        clear hpp pp p0 p1 b5
        by_cases hw : wv ≤ n
        · have HX := hid (HV.out.trans (HFE.out hw))
          have HXE := hid (HE2.out (by rw [HX.out]; omega))
          go_wp2_with fail
          go_ret2
          exact ⟨by rw [HX.out, HXE.out]; rfl, of_alloc L5.out⟩
        · go_wp2_with fail
          go_roundw
          case rel => exact ⟨wv, rfl, by omega, HLE, L5.out⟩
          case measure => simp [intOf]; omega
    · have HX := hid (HV.out.trans (HNONE.out n hN.out (by omega)))
      have HXE := hid (HE1.out HX.out)
      clear hb
      go_wp2_with fail
      go_ret2
      exact ⟨by rw [HX.out, HXE.out]; rfl, of_alloc HB.out⟩
end RepC
end Go.Proofs.Ytpnahhpkaegeeaa

/- Contracts of package reply: Reply, Table. -/
set_option linter.unusedVariables false
namespace Go.Proofs.Ytpnahhpkaegeeaa
open Go.RowKit hiding tok
open SpanM SupM SpanC TaskM PlayM RankM
open RowsO hiding Tk
namespace RepC
open TaskC (tchk tchk_zero tcheck_any tk_snoc tk_mem)
open NumC (Row)
theorem OwnI.row {w : World} {B : Nat} {v : Value} {l : List Int} (h : OwnI w B v l) : ∃ a cap, v = .slice a l.length cap ∧ Row w a l ∧ (a = none → l.length = 0 ∧ cap = 0) := by
  rcases OwnI.form h with ⟨rfl, rfl⟩ | ⟨g, cap, rfl, _⟩
  · exact ⟨none, 0, rfl, .inl rfl, fun _ => ⟨rfl, rfl⟩⟩
  · exact ⟨_, cap, rfl, .inr ⟨g, 0, rfl, fun i hi => by rw [Nat.zero_add]; exact OwnI.cell h i hi⟩, by simp⟩
theorem OwnI.set {w : World} {B g n cap : Nat} {l : List Int} (h : OwnI w B (.slice (some ⟨g, 0, none⟩) n cap) l) (hn : n = l.length) (k : Nat) (v : Int) :
    OwnI (w.setCell ⟨g, k, none⟩ (.int .i64 v)) B (.slice (some ⟨g, 0, none⟩) n cap) (l.set k v) ∧ w.grownBy (w.setCell ⟨g, k, none⟩ (.int .i64 v)) (some g) := by
  subst hn
  obtain ⟨h1, h2⟩ := World.ownsRow.stored h k (.int .i64 v)
  refine ⟨?_, h2⟩
  show World.ownsRow _ _ _ _ _ _ _
  rw [List.length_set, List.map_set]
  exact h1
theorem OwnI.frozen {w : World} {B g n cap : Nat} {l : List Int} (h : OwnI w B (.slice (some ⟨g, 0, none⟩) n cap) l) (hn : n = l.length) (k : Nat) : w.frozen? ⟨g, k, none⟩ = false := by
  subst hn
  exact World.ownsRow.frozenAt h k
theorem OwnI.base' {w : World} {B C : Nat} {v : Value} {l : List Int} (h : OwnI w B v l) (hC : C ≤ B) : OwnI w C v l := by
  refine ⟨h.1, ?_⟩
  rcases h.2 with h0 | ⟨g, cap, cur, h1, h2, h3⟩
  · exact .inl h0
  · exact .inr ⟨g, cap, cur, h1, by omega, h3⟩
theorem made_zero (n : Nat) : (madeCells #[Value.int .i64 0] n).toList = (List.replicate n (0 : Int)).map (Value.int .i64) := by
  apply List.ext_getElem
  · simp [size_madeCells]
  · intro j h1 h2
    simp [madeCells, Nat.mod_one]
theorem OwnI.made {w : World} {B : Nat} {v : Value} {n : Nat} (h : w.ownsRow B 3 1 v n (madeCells #[Value.int .i64 0] n).toList) : OwnI w B v (List.replicate n 0) := by
  show World.ownsRow _ _ _ _ _ _ _
  rw [List.length_replicate, ← made_zero]
  exact h
/-- what Reply tells -/
noncomputable def rplE (l : List Tk) (i : Int) (size : Int) (sl : List Sp) : Int := if rchk l size sl = 0 then (if 0 ≤ i ∧ i < l.length then repE l i.toNat size sl else 7) else rchk l size sl
noncomputable def rplV (l : List Tk) (i : Int) (size : Int) (sl : List Sp) : Int := if rchk l size sl = 0 ∧ 0 ≤ i ∧ i < l.length then repV l i.toNat size sl else 0
set_option maxRecDepth 20000 in
set_option maxHeartbeats 1600000 in
theorem Reply_any (l : List Tk) (i : Int) (size : Int) (sl : List Sp) (a c : Option Addr) (ca cc : Nat) (w : World) (hr : Tks w a l) (hs : Sps w c sl) (hc : l.length ≤ ca) :
    Calls Try.prog 25 #[.slice a l.length ca, .int .i64 i, .agg #[.int .i64 size, .slice c sl.length cc]] w fun e w' => e = .returned (.tuple #[.int .i64 (rplV l i size sl), .int .i64 (rplE l i size sl)]) ∧ Below w.heap.size w w' := by
  have HC := hid (fun W (h : Below w.heap.size w W) => rcheck_any l size sl a c ca cc W (hr.below h (Nat.le_refl _)) (hs.below h (Nat.le_refl _)))
  unfold rplV rplE
  by_cases h1 : rchk l size sl = 0
  · obtain ⟨k1, k2⟩ := rchk_zero h1
    rw [if_pos h1]
    rw [h1] at HC
    by_cases h2 : 0 ≤ i ∧ i < l.length
    · rw [if_pos h2, if_pos ⟨h1, h2⟩]
      obtain ⟨n, rfl⟩ : ∃ n : Nat, i = n := ⟨i.toNat, by omega⟩
      have hi : n < l.length := by omega
      rw [Int.toNat_natCast]
      have HR := hid (fun W (h : Below w.heap.size w W) => replyOf_any l n size sl a c ca cc W (hr.below h (Nat.le_refl _)) (hs.below h (Nat.le_refl _)) hc k1 k2 hi)
      obtain ⟨i0, i1⟩ := id h2
      have i2 : ¬ (l.length : Int) ≤ (n : Int) := by omega
      clear hr hs h1 k1 k2
      generalize repV l n size sl = RV at *
      generalize repE l n size sl = RE at *
      go_enter Try.func25, Try.ntmps25
      go_wp2_with fail
      refine (HC.out _ (by go_grown)).mono ?_
      rintro e w1 ⟨rfl, b1⟩
      have HB1 := hid (box1 b1)
      have c0 : w1.cell? ⟨w.heap.size, 0, none⟩ = some (.int .i64 size) := boxc HB1.out 0
      have c1 : w1.cell? ⟨w.heap.size, 1, none⟩ = some (.slice c sl.length cc) := boxc HB1.out 1
      clear b1
      go_wp2_with fail
      refine (HR.out _ (of_alloc HB1.out)).mono ?_
      rintro e w2 ⟨rfl, b2⟩
      have HB2 := hid (box2 HB1.out b2)
      clear b2 c0 c1
      go_wp2_with fail
      go_ret2
      exact ⟨rfl, of_alloc HB2.out⟩
    · rw [if_neg h2, if_neg (fun h => h2 h.2)]
      have hcase : i < 0 ∨ (¬ i < 0 ∧ (l.length : Int) ≤ i) := by omega
      clear hr hs h1 k1 k2 h2
      rcases hcase with i0 | ⟨i0, i1⟩
      all_goals
        go_enter Try.func25, Try.ntmps25
        go_wp2_with fail
        refine (HC.out _ (by go_grown)).mono ?_
        rintro e w1 ⟨rfl, b1⟩
        have HB1 := hid (box1 b1)
        clear b1
        go_wp2_with fail
        go_ret2
        exact ⟨rfl, of_alloc HB1.out⟩
  · rw [if_neg h1, if_neg (fun h => h1 h.1)]
    have hn : (rchk l size sl != 0) = true := by simpa using h1
    clear hr hs h1
    generalize rchk l size sl = z at *
    go_enter Try.func25, Try.ntmps25
    go_wp2_with fail
    refine (HC.out _ (by go_grown)).mono ?_
    rintro e w1 ⟨rfl, b1⟩
    have HB1 := hid (box1 b1)
    clear b1
    go_wp2_with fail
    go_ret2
    exact ⟨rfl, of_alloc HB1.out⟩
/-- the replies of the first k tasks, 0 for all others -/
noncomputable def tbl (l : List Tk) (size : Int) (sl : List Sp) (k : Nat) : List Int := (List.range l.length).map fun j => if j < k then repV l j size sl else 0
theorem tbl_len (l : List Tk) (size : Int) (sl : List Sp) (k : Nat) : (tbl l size sl k).length = l.length := by simp [tbl]
theorem tbl_zero (l : List Tk) (size : Int) (sl : List Sp) : tbl l size sl 0 = List.replicate l.length 0 := by
  apply List.ext_getElem
  · simp [tbl]
  · intro j h1 h2; simp [tbl]
theorem tbl_set (l : List Tk) (size : Int) (sl : List Sp) {k : Nat} : (tbl l size sl k).set k (repV l k size sl) = tbl l size sl (k + 1) := by
  apply List.ext_getElem
  · simp [tbl]
  · intro j h1 h2
    rw [List.getElem_set]
    split
    · subst_vars; simp [tbl]
    · simp [tbl]
      by_cases c : j < k
      · rw [if_pos c, if_pos (by omega)]
      · rw [if_neg c, if_neg (by omega)]
theorem tbl_at (l : List Tk) (size : Int) (sl : List Sp) {j : Nat} (h : j < l.length) : (tbl l size sl l.length).getD j 0 = repV l j size sl := by
  simp [tbl, List.getD, h]
/-- what Table tells -/
noncomputable def tblL (l : List Tk) (size : Int) (sl : List Sp) : List Int := if rchk l size sl = 0 then tbl l size sl l.length else []
set_option maxRecDepth 20000 in
set_option maxHeartbeats 1600000 in
theorem Table_any (l : List Tk) (size : Int) (sl : List Sp) (a c : Option Addr) (ca cc : Nat) (w : World) (hr : Tks w a l) (hs : Sps w c sl) (hc : l.length ≤ ca) :
    Calls Try.prog 26 #[.slice a l.length ca, .agg #[.int .i64 size, .slice c sl.length cc]] w fun e w' => (∃ v, e = .returned (.tuple #[v, .int .i64 (rchk l size sl)]) ∧ OwnI w' w.heap.size v (tblL l size sl)) ∧ Below w.heap.size w w' := by
  have HC := hid (fun W (h : Below w.heap.size w W) => rcheck_any l size sl a c ca cc W (hr.below h (Nat.le_refl _)) (hs.below h (Nat.le_refl _)))
  unfold tblL
  by_cases h1 : rchk l size sl = 0
  · obtain ⟨k1, k2⟩ := rchk_zero h1
    rw [if_pos h1]
    rw [h1] at HC ⊢
    have hl16 := (tchk_zero k1).1
    have HR := hid (fun W (n : Nat) (hn : n < l.length) (h : Below w.heap.size w W) => replyOf_any l n size sl a c ca cc W (hr.below h (Nat.le_refl _)) (hs.below h (Nat.le_refl _)) hc k1 k2 hn)
    obtain ⟨i0, hi, hz0, hz1, hz2⟩ := info_parts infoInt
    have Hi := hid hi
    have Hz0 := hid hz0
    have Hz1 := hid hz1
    have Hz2 := hid hz2
    have HT0 := hid (tbl_zero l size sl)
    have HTL := hid (fun k => tbl_len l size sl k)
    have HTS := hid (fun k => tbl_set l size sl (k := k))
    clear hr hs h1 k1 k2 hi hz0 hz1 hz2
    generalize tbl l size sl = TB at *
    go_enter Try.func26, Try.ntmps26
    go_wp2_with fail
    refine (HC.out _ (by go_grown)).mono ?_
    rintro e w1 ⟨rfl, b1⟩
    have HB1 := hid (box1 b1)
    clear b1
    have hs1 : w.heap.size + 1 ≤ w1.heap.size := by have := HB1.out.size; simpa using this
    have HS1 := hid hs1
    go_wp2_with (at_make; refine wpList_make_full _ rfl _ _ 26 rfl (w.heap.size + 1) 3 i0 (.int .i64 0) 1 Try.underlying26 Hi.out Hz0.out Hz1.out _ _ _ _ l.length rfl rfl ?qc1 ?qc2 ?qc3 ?qc4 ?qc5 ?_)
    case qc1 => rfl
    case qc2 => rfl
    case qc3 => rw [Hz2.out]; omega
    case qc4 => unfold maxLen; omega
    case qc5 => exact HS1.out
    intro w2 hown hgrow
    have HB2 := hid (Below.grown HB1.out hgrow HS1.out (fun k hk => by simp at hk))
    have HO2 : Hid (OwnI w2 (w.heap.size + 1) (.slice (some ⟨w1.heap.size, 0, none⟩) l.length l.length) (TB 0)) := by
      show OwnI _ _ _ _
      rw [HT0.out]
      exact OwnI.made hown
    clear hown hgrow hs1
    generalize w1.heap.size = g at *
    have hg : w.heap.size + 1 ≤ g := HS1.out
    go_wp2_with fail
    go_loopw [20] (fun v20 wr => ∃ k : Nat, k ≤ l.length ∧ v20 = .int .i64 k ∧ OwnI wr (w.heap.size + 1) (.slice (some ⟨g, 0, none⟩) l.length l.length) (TB k) ∧ Below (w.heap.size + 1) (w.alloc (.cells #[.int .i64 size, .slice c sl.length cc] 25)) wr) (fun v20 _ => l.length - (intOf v20).toNat)
    case atStart => exact ⟨0, by omega, rfl, HO2.out, HB2.out⟩
    case round =>
      obtain ⟨k, hk, rfl, ho, hb⟩ := hrel
      have HO := hid ho
      have HB := hid hb
      by_cases hlt : k < l.length
      · have c0 : wr.cell? ⟨w.heap.size, 0, none⟩ = some (.int .i64 size) := boxc hb 0
        have c1 : wr.cell? ⟨w.heap.size, 1, none⟩ = some (.slice c sl.length cc) := boxc hb 1
        have HRk := hid (HR.out wr k hlt (of_alloc hb))
        have HS := hid (HTS.out k)
        have hki : (k : Int) < (l.length : Int) := by omega
        clear ho hb
        generalize repV l k size sl = RV at *
        generalize repE l k size sl = RE at *
        go_wp2_with fail
        refine HRk.out.mono ?_
        rintro e w3 ⟨rfl, b3⟩
        have ho3 := OwnI.below HO.out b3 (Nat.le_refl _)
        have HB3 := hid (box2 HB.out b3)
        have y0 := OwnI.cell ho3 k (by rw [HTL.out]; exact hlt)
        have y1 := OwnI.frozen ho3 (by rw [HTL.out]) k
        have HST := hid (OwnI.set ho3 (by rw [HTL.out]) k RV)
        have hs3 : w.heap.size + 1 ≤ w3.heap.size := by have := HB3.out.size; simpa using this
        clear b3 ho3 c0 c1
        go_wp2_with fail
        obtain ⟨o4, g4⟩ := HST.out
        have HB4 := hid (Below.grown HB3.out g4 hs3 (fun j hj => by simp at hj; omega))
        rw [HS.out] at o4
        clear y0 y1 g4
        go_roundw
        case rel => exact ⟨k + 1, by omega, by go_num, o4, HB4.out⟩
        case measure => simp [intOf]; omega
      · obtain rfl : k = l.length := by omega
        clear ho hb
        go_wp2_with fail
        go_ret2
        exact ⟨⟨_, rfl, OwnI.base' HO.out (by omega)⟩, of_alloc HB.out⟩
  · rw [if_neg h1]
    have hn : (rchk l size sl != 0) = true := by simpa using h1
    clear hr hs h1
    generalize rchk l size sl = z at *
    go_enter Try.func26, Try.ntmps26
    go_wp2_with fail
    refine (HC.out _ (by go_grown)).mono ?_
    rintro e w1 ⟨rfl, b1⟩
    have HB1 := hid (box1 b1)
    clear b1
    go_wp2_with fail
    go_ret2
    exact ⟨⟨_, rfl, World.ownsRow_nil _ _ _ _⟩, of_alloc HB1.out⟩
end RepC
end Go.Proofs.Ytpnahhpkaegeeaa

/- replyLives. -/
set_option linter.unusedVariables false
namespace Go.Proofs.Ytpnahhpkaegeeaa
open Go.RowKit hiding tok
open SpanM SupM SpanC TaskM PlayM RankM
open RowsO hiding Tk
namespace RepC
open TaskC (tchk tchkG tchk_zero tcheck_any tk_snoc tk_mem)
open NumC (Row)
open PlayC (Row.below box_cell box_alloc box_new)
theorem iequal_len (a b : Option Addr) (n m ca cb : Nat) (w : World) (h : n ≠ m) :
    Calls Try.prog 66 #[.slice a n ca, .slice b m cb] w fun e w' => e = .returned (.bool false) ∧ Below w.heap.size w w' := by
  have hn : ((n : Int) != (m : Int)) = true := by simp; omega
  go_enter Try.func66, Try.ntmps66
  go_wp2_with fail
  go_ret
  exact ⟨rfl, Below.refl _ _⟩
set_option maxRecDepth 20000 in
set_option maxHeartbeats 1600000 in
theorem iequal_rd (a b : Option Addr) (n ca cb : Nat) (la lb : List Int) (w : World) (ha : Row w a la) (hb : Row w b lb) (hn : n = la.length) (hm : n = lb.length) (hl : n ≤ 100000) :
    Calls Try.prog 66 #[.slice a n ca, .slice b n cb] w fun e w' => e = .returned (.bool (decide (la = lb))) ∧ Below w.heap.size w w' := by
  have hne : ((n : Int) != (n : Int)) = false := by simp
  have HA := hid ha
  have HB := hid hb
  have HN := hid hn
  have HM := hid hm
  clear ha hb hn hm
  go_enter Try.func66, Try.ntmps66
  go_wp2_with fail
  go_loopw [13] (fun vk wr => ∃ k : Nat, k ≤ n ∧ vk = .int .i64 k ∧ Hid (la.take k = lb.take k) ∧ Below w.heap.size w wr) (fun vk _ => n - (intOf vk).toNat)
  case atStart => exact ⟨0, by omega, rfl, (by rfl : la.take 0 = lb.take 0), Below.refl _ _⟩
  case round =>
    obtain ⟨k, hk, rfl, HK, hbel⟩ := hrel
    have HBL := hid hbel
    by_cases hlt : k < n
    · obtain ⟨p, off, hpa, _, a0⟩ := PlayC.Row.at (Row.below HA.out hbel (Nat.le_refl _)) k (by have := HN.out; omega)
      obtain ⟨q, off2, hqb, _, b0⟩ := PlayC.Row.at (Row.below HB.out hbel (Nat.le_refl _)) k (by have := HM.out; omega)
      subst hpa
      subst hqb
      have hta := PlayC.in_snoc la k (by have := HN.out; omega)
      have htb := PlayC.in_snoc lb k (by have := HM.out; omega)
      generalize la.getD k 0 = x at a0 hta
      generalize lb.getD k 0 = y at b0 htb
      have HTA := hid hta
      have HTB := hid htb
      have i1 : (k : Int) < (n : Int) := by omega
      clear hta htb hbel
      by_cases he : x = y
      · have hd : (x != y) = false := by simp [he]
        have HE := hid he
        clear he
        go_wp2_with fail
        go_quiet (fail)
        go_wp2_with fail
        go_roundw
        case rel => exact ⟨k + 1, by omega, by go_num, (by rw [HTA.out, HTB.out, HK.out, HE.out] : la.take (k + 1) = lb.take (k + 1)), below_drewN HBL.out _⟩
        case measure => simp [intOf]; omega
      · have hd : (x != y) = true := by simp [he]
        have HE := hid (fun h : x = y => he h)
        clear he
        go_wp2_with fail
        go_quiet (fail)
        go_wp2_with fail
        go_ret
        refine ⟨?_, below_drewN HBL.out _⟩
        have : la ≠ lb := fun e => by
          have h1 := HTA.out
          rw [e, HTB.out] at h1
          simp at h1
          exact HE.out h1.symm
        rw [decide_eq_false this]; rfl
    · have HE : Hid (la = lb) := by
        have h := HK.out
        rw [List.take_of_length_le (by have := HN.out; omega), List.take_of_length_le (by have := HM.out; omega)] at h
        exact h
      go_wp2_with fail
      go_ret
      exact ⟨by rw [decide_eq_true HE.out]; rfl, HBL.out⟩
theorem iequal_any (a b : Option Addr) (ca cb : Nat) (la lb : List Int) (w : World) (ha : Row w a la) (hb : Row w b lb) (hl : la.length ≤ 100000) :
    Calls Try.prog 66 #[.slice a la.length ca, .slice b lb.length cb] w fun e w' => e = .returned (.bool (decide (la = lb))) ∧ Below w.heap.size w w' := by
  by_cases h : la.length = lb.length
  · rw [← h]
    exact iequal_rd a b _ ca cb la lb w ha hb rfl h hl
  · rw [decide_eq_false (fun e => h (by rw [e]))]
    exact iequal_len a b _ _ ca cb w h
/-- one behind another one -/
def LL : List Tk := [(1, 4, 4), (4, 10, 10)]
theorem LL_rep0 : repV LL 0 1 [(0, 1)] = 1 := by
  refine (rep_eq (.inl ⟨⟨by decide, by decide, ?_⟩, fun m hm he => ?_⟩)).symm
  · rw [all_lst (by omega) (by omega)]; decide
  · have := he.1; omega
theorem LL_rep1 : repV LL 1 1 [(0, 1)] = 6 := by
  refine (rep_eq (.inl ⟨⟨by decide, by decide, ?_⟩, fun m hm he => ?_⟩)).symm
  · rw [all_lst (by omega) (by omega)]; decide
  · obtain ⟨h1, h2, h3⟩ := he
    rw [all_lst (by omega) (by omega)] at h3
    have hc : m = 1 ∨ m = 2 ∨ m = 3 ∨ m = 4 ∨ m = 5 := by omega
    rcases hc with rfl | rfl | rfl | rfl | rfl <;> revert h3 <;> decide
theorem LL_chk : rchk LL 1 [(0, 1)] = 0 := by
  have h1 : tchk LL = 0 := by
    unfold tchk tchkG
    rw [if_neg (by decide), if_pos]
    intro x hx
    simp [LL] at hx
    rcases hx with rfl | rfl <;> (unfold tok; decide)
  unfold rchk
  rw [if_pos h1]; decide
theorem LL_tbl : tblL LL 1 [(0, 1)] = [1, 6] := by
  unfold tblL
  rw [if_pos LL_chk]
  show (List.range 2).map _ = _
  simp only [List.range_succ, List.range_zero, List.nil_append, List.map_cons, List.map_nil, List.cons_append]
  rw [if_pos (by decide), if_pos (by decide), LL_rep0, LL_rep1]
theorem rlives_world (w : World) : ∃ V, V = (w.alloc (.cells #[.int .i64 1, .int .i64 4, .int .i64 4, .int .i64 4, .int .i64 10, .int .i64 10] 67)).alloc (.cells #[.int .i64 0, .int .i64 1] 63) ∧ Below w.heap.size w V ∧ Tks V (some ⟨w.heap.size, 0, none⟩) LL ∧ Sps V (some ⟨w.heap.size + 1, 0, none⟩) [(0, 1)] := by
  refine ⟨_, rfl, ?_, .inr ⟨_, 0, rfl, fun i hi => ?_⟩, .inr ⟨_, 0, rfl, fun i hi => ?_⟩⟩
  · exact ((Below.refl _ w).alloc (Nat.le_refl _) _).alloc (by rw [World.size_alloc]; omega) _
  · have hb := box_alloc (box_new w #[.int .i64 1, .int .i64 4, .int .i64 4, .int .i64 4, .int .i64 10, .int .i64 10] 67) (.cells #[.int .i64 0, .int .i64 1] 63)
    match i, hi with
    | 0, _ => exact ⟨box_cell hb 0, box_cell hb 1, box_cell hb 2⟩
    | 1, _ => exact ⟨box_cell hb 3, box_cell hb 4, box_cell hb 5⟩
  · have hb := box_new (w.alloc (.cells #[.int .i64 1, .int .i64 4, .int .i64 4, .int .i64 4, .int .i64 10, .int .i64 10] 67)) #[.int .i64 0, .int .i64 1] 63
    rw [World.size_alloc] at hb
    match i, hi with
    | 0, _ => exact ⟨box_cell hb 0, box_cell hb 1⟩
set_option maxRecDepth 20000 in
set_option maxHeartbeats 1600000 in
theorem rlives (w : World) :
    Calls Try.prog 35 #[] w fun e w' => e = .returned (.bool true) ∧ Below w.heap.size w w' := by
  obtain ⟨V, hV, hb, hT, hS⟩ := rlives_world w
  have H := hid (Table_any LL 1 [(0, 1)] _ _ 2 1 V hT hS (by decide))
  rw [LL_tbl, LL_chk] at H
  simp only [show LL.length = 2 from rfl, List.length_singleton] at H
  have HB := hid hb
  have HV := hid hV
  clear hb hT hS hV
  go_enter Try.func35, Try.ntmps35
  go_wp2_with fail
  rw [← HV.out]
  refine H.out.mono ?_
  rintro e w1 ⟨⟨vd, rfl, ho⟩, hb1⟩
  obtain ⟨ad, cd, rfl, hrd, _⟩ := OwnI.row ho
  have HB1 := hid (bel_of HB.out hb1)
  have HE := hid (iequal_any ad (some ⟨w1.heap.size, 0, none⟩) cd 2 [1, 6] [1, 6] (w1.alloc (.cells #[.int .i64 1, .int .i64 6] 3)) (Row.below hrd ((Below.refl _ w1).alloc (Nat.le_refl _) _) (Nat.le_refl _)) (.inr ⟨_, 0, rfl, fun i hi => by
    have hb := box_new w1 #[.int .i64 1, .int .i64 6] 3
    match i, hi with
    | 0, _ => exact box_cell hb 0
    | 1, _ => exact box_cell hb 1⟩) (by decide))
  rw [decide_eq_true rfl] at HE
  simp only [List.length_cons, List.length_nil] at HE
  clear ho hrd hb1
  simp only [List.length_cons, List.length_nil]
  go_wp2_with (first | (go_at_call 66; refine HE.out.mono ?_; rintro e w2 ⟨rfl, hb2⟩; have HB2 := hid (bel_of (HB1.out.alloc HB1.out.size _) hb2); clear hb2))
  go_ret
  exact ⟨rfl, HB2.out⟩
end RepC
end Go.Proofs.Ytpnahhpkaegeeaa
