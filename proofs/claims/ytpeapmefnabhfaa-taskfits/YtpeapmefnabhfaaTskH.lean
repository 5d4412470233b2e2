/- Contracts of package dutyref: FitsBy. -/
import Derived.Test.YtpeapmefnabhfaaTskG
import Derived.Test.YtpeapmefnabhfaaSupN2
set_option linter.unusedVariables false
namespace Go.Proofs.Ytpeapmefnabhfaa
open Go.RowKit hiding tok
open SpanM SupM SpanC TaskM
open RowsO hiding Tk
namespace TaskC
noncomputable def byV (size : Int) (sl : List Sp) (l : List Tk) (R : Int) : Int := if lack size sl l R = 0 then -1 else lack size sl l R
theorem byV_none {size R : Int} {sl : List Sp} {l : List Tk} (h : LackP size sl l R 0) : -1 = byV size sl l R := by
  unfold byV; rw [if_pos (lack_eq h).symm]
theorem byV_some {size R v : Int} {sl : List Sp} {l : List Tk} (h : LackP size sl l R v) (hv : 1 ≤ v) : v = byV size sl l R := by
  have := lack_eq h
  unfold byV; rw [if_neg (by omega)]; exact this
set_option maxHeartbeats 1000000 in
theorem fitsBy_any (a sa : Option Addr) (cap scap : Nat) (l : List Tk) (sl : List Sp) (size R : Int) (w : World) (hr : Tks w a l) (hq : Sps w sa sl) (hk : tchk l = 0) (hc : chk size sl = 0) (r1 : 0 ≤ R) (r2 : R ≤ 50000) :
    Calls Try.prog 21 #[.slice a l.length cap, .agg #[.int .i64 size, .slice sa sl.length scap], .int .i64 R] w fun e w' => e = .returned (.int .i64 (byV size sl l R)) ∧ Below w.heap.size w w' := by
  obtain ⟨s1, s2, s3, s4⟩ := chk_zero hc
  obtain ⟨hl, hg⟩ := tchk_zero hk
  have HD := hid (fun n (n1 : 0 ≤ n) (n2 : n ≤ 50000) W (h : Below w.heap.size w W) => rdemand_any a cap l n W (hr.below h (Nat.le_refl _)) hl hg n1 (by omega))
  have HL := hid (fun n (n1 : 0 ≤ n) (n2 : n ≤ 50000) W (h : Below w.heap.size w W) => show ∃ M, Calls Try.prog 36 #[.agg #[.int .i64 size, .slice sa sl.length scap], .int .i64 n] W fun e w' => e = .returned (.tuple #[.int .i64 (lst size sl n), .int .i64 M]) ∧ Below W.heap.size W w' by
    have := rbounds_any size n sa scap sl W (hq.below h (Nat.le_refl _)) hc n1 (by omega)
    rw [(zmin_P s1 s4 n1).one (lst_P s1 s4 n1)] at this
    exact ⟨_, this⟩)
  have H0 := hid (bad_zero (l := l) s1 s4 hg)
  have HZ := hid (dem_zero hg)
  have HM := hid (fun n m (hn : 0 ≤ n) (h : n ≤ m) => lst_mono s1 s4 hn h)
  have HB := hid (fun n (hn : 0 ≤ n) => lst_le (n := n) s1 s4 hn)
  have HE := hid (fun n (hn : 0 ≤ n) => dem_bd (n := n) hg hl hn)
  have HX := hid (fun v (h : LackP size sl l R v) (h1 : 1 ≤ v) => byV_some h h1)
  have HX0 := hid (fun (h : LackP size sl l R 0) => byV_none h)
  generalize byV size sl l R = X at *
  clear hr hq hk hc hg s4
  go_enter Try.func21, Try.ntmps21
  go_wp2_with fail
  go_loopw [7, 14] (fun v7 v14 wr => ∃ H n : Int, v7 = .int .i64 H ∧ v14 = .int .i64 n ∧ 0 ≤ n ∧ n ≤ R + 1 ∧ Hid (H = dem l (max (n - 1) 0)) ∧ Hid (∀ m, 0 ≤ m → m < n → ¬ Bad size sl l m) ∧ Below (w.heap.size + 1) (w.alloc (.cells #[.int .i64 size, .slice sa sl.length scap] 38)) wr) (fun _ v14 _ => (R + 1 - intOf v14).toNat)
  case atStart =>
    refine ⟨0, 0, rfl, rfl, by omega, by omega, ?_, ?_, Below.refl _ _⟩
    · show _ = _; rw [show max ((0 : Int) - 1) 0 = 0 by omega, HZ.out]
    · intro m h1 h2; omega
  case round =>
    obtain ⟨H, n, rfl, rfl, n1, n2, HH, HN, hb⟩ := hrel
    have HBel := hid hb
    by_cases hlt : n ≤ R
    · have hlt' : n < R + 1 := by omega
      have hD := HD.out n (by omega) (by omega) wr (of_alloc hb)
      have HD1 := hid hD
      obtain ⟨e1, e2⟩ := HE.out n (by omega)
      obtain ⟨f1, f2⟩ := HB.out n (by omega)
      have HNb := hid (show (lst size sl n < dem l n → Bad size sl l n) ∧ (dem l n ≤ lst size sl n → ¬ Bad size sl l n) from ⟨fun h => h, fun h k => by unfold Bad at k; omega⟩)
      have HSame : Hid (dem l n = H → ¬ Bad size sl l n) := by
        intro h
        by_cases c : n = 0
        · rw [c]; exact H0.out
        · have f3 := HM.out (n - 1) n (by omega) (by omega)
          have nb := HN.out (n - 1) (by omega) (by omega)
          have hh := HH.out
          rw [show max (n - 1) 0 = n - 1 by omega] at hh
          unfold Bad at nb ⊢
          omega
      have HNx : Hid (dem l n = dem l (max (n + 1 - 1) 0)) := by show _ = _; rw [show max (n + 1 - 1) 0 = n by omega]
      clear hb hD
      have HLS : Hid (∃ s, lst size sl n = s) := ⟨_, rfl⟩
      generalize hdm : dem l n = d at *
      clear hdm
      by_cases hn : d = H
      · have hne : (d == H) = true := by simp [hn]
        have HDH := hid hn
        clear hn
        go_wp2_with (go_at_call 16; refine HD1.out.mono ?_; rintro e w2 ⟨rfl, hb2⟩; have HB2 := hid (box2 HBel.out hb2); clear hb2)
        go_roundw
        case rel =>
          refine ⟨H, n + 1, rfl, by go_num, by omega, by omega, ?_, ?_, HB2.out⟩
          · show _ = _; rw [← HDH.out]; exact HNx.out
          · intro m m1 m2
            by_cases c : m < n
            · exact HN.out m m1 c
            · obtain rfl : m = n := by omega
              exact HSame.out HDH.out
        case measure => simp [intOf]; omega
      · have hne : (d == H) = false := by simp [hn]
        clear hn
        go_wp2_with (go_at_call 16; refine HD1.out.mono ?_; rintro e w2 ⟨rfl, hb2⟩; have HB2 := hid (box2 HBel.out hb2); have c0 : w2.cell? ⟨w.heap.size, 0, none⟩ = some (.int .i64 size) := boxc (box2 HBel.out hb2) 0; have c1 : w2.cell? ⟨w.heap.size, 1, none⟩ = some (.slice sa sl.length scap) := boxc (box2 HBel.out hb2) 1; clear hb2)
        obtain ⟨M, hL⟩ := HL.out n (by omega) (by omega) w2 (of_alloc HB2.out)
        refine hL.mono ?_
        clear hL c0 c1
        rintro e w3 ⟨rfl, hb3⟩
        have HB3 := hid (box2 HB2.out hb3)
        clear hb3
        generalize lst size sl n = s at *
        by_cases hbad : s < d
        · have hn0 : Hid (1 ≤ n) := by
            show 1 ≤ n
            by_cases c : n = 0
            · have := HNb.out.1 hbad
              rw [c] at this
              exact absurd this H0.out
            · omega
          go_wp2_with fail
          go_ret
          refine ⟨SpanC.ret_int (HX.out n (.inr ⟨hn0.out, hlt, HNb.out.1 hbad, HN.out⟩) hn0.out), of_alloc HB3.out⟩
        · have hbad2 : d ≤ s := by omega
          clear hbad
          go_wp2_with fail
          go_roundw
          case rel =>
            refine ⟨d, n + 1, rfl, by go_num, by omega, by omega, HNx, ?_, HB3.out⟩
            · intro m m1 m2
              by_cases c : m < n
              · exact HN.out m m1 c
              · obtain rfl : m = n := by omega
                exact HNb.out.2 hbad2
          case measure => simp [intOf]; omega
    · have HF : Hid (LackP size sl l R 0) := .inl ⟨rfl, fun m m1 m2 => HN.out m m1 (by omega)⟩
      have hlt' : ¬ n < R + 1 := by omega
      clear hb
      go_wp2_with fail
      go_ret
      exact ⟨SpanC.ret_int (HX0.out HF.out), of_alloc HBel.out⟩
end TaskC
end Go.Proofs.Ytpeapmefnabhfaa
