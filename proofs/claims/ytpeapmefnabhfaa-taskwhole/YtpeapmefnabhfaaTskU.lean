/- Contracts of package task: Use, Demand. -/
import Derived.Test.YtpeapmefnabhfaaTskR
set_option linter.unusedVariables false
namespace Go.Proofs.Ytpeapmefnabhfaa
open Go.RowKit hiding tok
open SpanM SpanC TaskM
open RowsO hiding Tk
namespace TaskC
theorem rnd_eq {l : List Tk} (h : ∀ x ∈ l, tok x) : NumM.lcmFrom 1 (evs l) = if NumM.lc 1 (evs l) ≤ 1099511627776 then some (NumM.lc 1 (evs l)) else none :=
  NumM.lcmFrom_eq _ 1 (by omega) (by omega) (evs_ok h)
theorem evs_pos {l : List Tk} (h : ∀ x ∈ l, tok x) : ∀ x ∈ evs l, 1 ≤ x := fun x hx => (evs_ok h x hx).1
theorem lc_pos {l : List Tk} (h : ∀ x ∈ l, tok x) : 1 ≤ NumM.lc 1 (evs l) := NumM.lc_pos _ 1 (by omega) (evs_pos h)
theorem rnd_cases {l : List Tk} (h : ∀ x ∈ l, tok x) : (rndE l = 0 ∧ rnd l = NumM.lc 1 (evs l) ∧ 1 ≤ rnd l ∧ rnd l ≤ 1099511627776) ∨ (rndE l = 6 ∧ rnd l = 0 ∧ 1099511627776 < NumM.lc 1 (evs l)) := by
  have hp := lc_pos h
  unfold rnd rndE
  rw [rnd_eq h]
  by_cases c : NumM.lc 1 (evs l) ≤ 1099511627776
  · rw [if_pos c]
    simp only [NumC.lcmErr, NumC.lcmVal]
    exact .inl ⟨by simp, by simp, by simpa using hp, by simpa using c⟩
  · rw [if_neg c]
    simp only [NumC.lcmErr, NumC.lcmVal]
    exact .inr ⟨by simp, by simp, by omega⟩
theorem rnd_dvd {l : List Tk} (h : ∀ x ∈ l, tok x) (he : rndE l = 0) : ∀ x ∈ l, x.2.1 ∣ rnd l := by
  intro x hx
  rcases rnd_cases h with ⟨_, e, _⟩ | ⟨e, _⟩
  · rw [e]
    exact ((NumM.lc_dvd (evs l) _ 1 (by omega) (evs_pos h)).1 (Int.dvd_refl _)).2 _ (List.mem_map.2 ⟨x, hx, rfl⟩)
  · omega
def roundV (l : List Tk) : Int := if tchk l = 0 then rnd l else 0
def roundE (l : List Tk) : Int := if tchk l = 0 then rndE l else tchk l
theorem roundE_zero {l : List Tk} (h : roundE l = 0) : tchk l = 0 ∧ rndE l = 0 ∧ roundV l = rnd l ∧ roundV l = NumM.lc 1 (evs l) ∧ 1 ≤ rnd l ∧ rnd l ≤ 1099511627776 := by
  unfold roundE at h
  by_cases c : tchk l = 0
  · rw [if_pos c] at h
    have e : roundV l = rnd l := by unfold roundV; rw [if_pos c]
    rcases rnd_cases (tchk_zero c).2 with ⟨_, e2, h1, h2⟩ | ⟨e2, _⟩
    · exact ⟨c, h, e, e.trans e2, h1, h2⟩
    · omega
  · rw [if_neg c] at h; exact absurd h c
theorem roundE_err {l : List Tk} (h : roundE l ≠ 0) : roundV l = 0 := by
  unfold roundE at h
  unfold roundV
  by_cases c : tchk l = 0
  · rw [if_pos c] at h ⊢
    rcases rnd_cases (tchk_zero c).2 with ⟨e2, _⟩ | ⟨_, e2, _⟩
    · exact absurd e2 h
    · exact e2
  · rw [if_neg c]
theorem round_any (a : Option Addr) (cap : Nat) (l : List Tk) (w : World) (hr : Tks w a l) :
    Calls Try.prog 10 #[.slice a l.length cap] w fun e w' => e = .returned (.tuple #[.int .i64 (roundV l), .int .i64 (roundE l)]) ∧ Below w.heap.size w w' := by
  unfold roundV roundE
  by_cases c : tchk l = 0
  · rw [if_pos c, if_pos c]; exact round_ok a cap l w hr c
  · rw [if_neg c, if_neg c]; exact round_err a cap l w hr c
theorem use_snoc (R : Int) (l : List Tk) (x : Tk) : use R (l ++ [x]) = use R l + R / x.2.1 * x.1 := by
  induction l with
  | nil => simp [use]
  | cons y r ih => simp only [List.cons_append, use, ih]; omega
theorem use_bd {x : Tk} (h : tok x) {R : Int} (h0 : 0 ≤ R) : 0 ≤ R / x.2.1 ∧ R / x.2.1 ≤ R ∧ 0 ≤ x.1 * (R / x.2.1) ∧ x.1 * (R / x.2.1) ≤ R := by
  obtain ⟨e1, e2, d1, d2, g1, g2⟩ := h
  have q0 := Int.ediv_nonneg h0 (show 0 ≤ x.2.1 by omega)
  have m3 := Int.emod_add_mul_ediv R x.2.1
  have m1 := Int.emod_nonneg R (show x.2.1 ≠ 0 by omega)
  have c : x.1 * (R / x.2.1) ≤ x.2.1 * (R / x.2.1) := Int.mul_le_mul_of_nonneg_right (by omega) q0
  exact ⟨q0, Int.ediv_le_self _ h0, Int.mul_nonneg (by omega) q0, by omega⟩
theorem use_err (a : Option Addr) (cap : Nat) (l : List Tk) (w : World) (hr : Tks w a l) (h : roundE l ≠ 0) :
    Calls Try.prog 11 #[.slice a l.length cap] w fun e w' => e = .returned (.tuple #[.int .i64 0, .int .i64 0, .int .i64 (roundE l)]) ∧ Below w.heap.size w w' := by
  have HC := hid (round_any a cap l w hr)
  have hne : (roundE l != 0) = true := by simp [h]
  clear hr h
  generalize roundE l = c at *
  generalize roundV l = R at *
  go_enter Try.func11, Try.ntmps11
  go_wp2_with (go_at_call 10; refine HC.out.mono ?_; rintro e w' ⟨rfl, hb⟩)
  go_returns
  exact ⟨rfl, hb⟩
set_option maxHeartbeats 800000 in
theorem use_ok (a : Option Addr) (cap : Nat) (l : List Tk) (w : World) (hr : Tks w a l) (h : roundE l = 0) :
    Calls Try.prog 11 #[.slice a l.length cap] w fun e w' => e = .returned (.tuple #[.int .i64 (use (roundV l) l), .int .i64 (roundV l), .int .i64 0]) ∧ Below w.heap.size w w' := by
  have HC0 := round_any a cap l w hr
  obtain ⟨hk, e2, e1, e3, r1, r2⟩ := roundE_zero h
  rw [← e1] at r1 r2
  rw [h] at HC0
  have HC := hid HC0
  obtain ⟨hl, hg⟩ := tchk_zero hk
  have HR := hid hr
  have HG := hid hg
  clear hr hg h HC0 hk e1 e2 e3
  generalize roundV l = R at *
  go_enter Try.func11, Try.ntmps11
  go_wp2_with (go_at_call 10; refine HC.out.mono ?_; rintro e w0 ⟨rfl, hb⟩; have HB0 := hid hb; clear hb)
  go_loopw [7, 20] (fun v7 v20 wr => ∃ (k : Nat) (c : Int), k ≤ l.length ∧ v7 = .int .i64 c ∧ v20 = .int .i64 k ∧ Hid (c = use R (l.take k)) ∧ 0 ≤ c ∧ c ≤ k * 1099511627776 ∧ Below w.heap.size w wr) (fun _ v20 _ => l.length - (intOf v20).toNat)
  case atStart => exact ⟨0, 0, by omega, rfl, rfl, by show _ = _; simp [use], by omega, by omega, HB0.out⟩
  case round =>
    obtain ⟨k, c, hk, rfl, rfl, hA, c0, c1, hb⟩ := hrel
    have HB := hid hb
    have hsz := hb.size
    by_cases hlt : k < l.length
    · obtain ⟨b, off, rfl, hbw, d1, d2, d3⟩ := (HR.out.below hb (Nat.le_refl _)).at k hlt
      have hd := tk_snoc l k hlt
      have hmem := HG.out _ (tk_mem hlt)
      clear hb
      generalize l.getD k zTk = z at d1 d2 d3 hd hmem
      have hj := use_bd hmem (show 0 ≤ R by omega)
      obtain ⟨m, e, d⟩ := z
      obtain ⟨p1, p2, p3, p4, p5, p6⟩ := hmem
      have HD : Hid (c + m * (R / e) = use R (l.take (k + 1))) := by
        show _ = _
        rw [hd, use_snoc, hA.out, Int.mul_comm]
      simp only at d1 d2 d3 p1 p2 p3 p4 p5 p6 hj
      obtain ⟨j0, j1, j2, j3⟩ := hj
      clear hd
      have ez : (e == 0) = false := by simp; omega
      have ez2 : e ≠ 0 := by omega
      generalize hJ : R / e = J at *
      go_wp2_with fail
      go_quiet (fail)
      go_wp2_with fail
      go_roundw
      case rel => exact ⟨k + 1, _, by omega, rfl, by go_num, by first | exact HD | (show _ = _; have := HD.out; omega), by omega, by omega, below_drewN (HB.out.alloc hsz _) _⟩
      case measure => simp [intOf]; omega
    · have he : l.take k = l := List.take_of_length_le (by omega)
      rw [he] at hA
      clear hb
      go_wp2_with fail
      go_returns
      exact ⟨by rw [hA.out]; rfl, HB.out⟩
def useV (l : List Tk) : Int := if roundE l = 0 then use (roundV l) l else 0
theorem use_any (a : Option Addr) (cap : Nat) (l : List Tk) (w : World) (hr : Tks w a l) :
    Calls Try.prog 11 #[.slice a l.length cap] w fun e w' => e = .returned (.tuple #[.int .i64 (useV l), .int .i64 (roundV l), .int .i64 (roundE l)]) ∧ Below w.heap.size w w' := by
  unfold useV
  by_cases c : roundE l = 0
  · rw [if_pos c, c]; exact use_ok a cap l w hr c
  · rw [if_neg c, roundE_err c]; exact use_err a cap l w hr c
def demE (l : List Tk) (n : Int) : Int := if tchk l = 0 then (if 0 ≤ n ∧ n ≤ 1099511627776 then 0 else 1) else tchk l
def demV (l : List Tk) (n : Int) : Int := if demE l n = 0 then dem l n else 0
theorem demE_zero {l : List Tk} {n : Int} (h : demE l n = 0) : tchk l = 0 ∧ 0 ≤ n ∧ n ≤ 1099511627776 := by
  unfold demE at h
  split at h
  · split at h
    · exact ⟨‹_›, ‹_›⟩
    · simp at h
  · exact absurd h ‹_›
theorem demE_of {l : List Tk} {n : Int} (h : tchk l = 0) (h1 : 0 ≤ n) (h2 : n ≤ 1099511627776) : demE l n = 0 := by unfold demE; rw [if_pos h, if_pos ⟨h1, h2⟩]
theorem demV_of {l : List Tk} {n : Int} (h : demE l n = 0) : demV l n = dem l n := by unfold demV; rw [if_pos h]
theorem demV_bd (l : List Tk) (n : Int) : 0 ≤ demV l n ∧ demV l n ≤ 17600000000000 := by
  unfold demV
  split
  · obtain ⟨k, n1, n2⟩ := demE_zero ‹_›
    obtain ⟨k1, k2⟩ := tchk_zero k
    have := dem_bd k2 k1 n1
    omega
  · omega
theorem Demand_any (a : Option Addr) (cap : Nat) (l : List Tk) (n : Int) (w : World) (hr : Tks w a l) :
    Calls Try.prog 12 #[.slice a l.length cap, .int .i64 n] w fun e w' => e = .returned (.tuple #[.int .i64 (demV l n), .int .i64 (demE l n)]) ∧ Below w.heap.size w w' := by
  have HC0 := tcheck_any a cap l w hr
  by_cases hk : tchk l = 0
  · rw [hk] at HC0
    have HC := hid HC0
    clear HC0
    by_cases hn : 0 ≤ n ∧ n ≤ 1099511627776
    · obtain ⟨n1, n2⟩ := hn
      have e := demE_of hk n1 n2
      rw [demV_of e, e]
      have HD := hid (fun W (h : Below w.heap.size w W) => demand_any a cap l n W (hr.below h (Nat.le_refl _)) (tchk_zero hk).1 (tchk_zero hk).2 n1 n2)
      clear hk hr e
      go_enter Try.func12, Try.ntmps12
      go_wp2_with (first | (go_at_call 14; refine HC.out.mono ?_; rintro e w1 ⟨rfl, hb⟩) | (go_at_call 29; refine (twithin_yes _ _ _ _ (by omega) (by omega)).mono ?_; rintro e w' ⟨rfl, hw⟩; replace hw := hw.symm; subst hw) | (go_at_call 30; refine (HD.out _ hb).mono ?_; rintro e w2 ⟨rfl, hb2⟩))
      go_ret2
      exact ⟨rfl, bel_of hb hb2⟩
    · have e : demE l n = 1 := by unfold demE; rw [if_pos hk, if_neg hn]
      have e2 : demV l n = 0 := by unfold demV; rw [if_neg (by omega)]
      rw [e, e2]
      clear hk hr e e2
      go_enter Try.func12, Try.ntmps12
      go_wp2_with (first | (go_at_call 14; refine HC.out.mono ?_; rintro e w1 ⟨rfl, hb⟩) | (go_at_call 29; refine (twithin_no _ _ _ _ hn).mono ?_; rintro e w' ⟨rfl, hw⟩; replace hw := hw.symm; subst hw))
      go_ret2
      exact ⟨rfl, hb⟩
  · have e : demE l n = tchk l := by unfold demE; rw [if_neg hk]
    have e2 : demV l n = 0 := by unfold demV; rw [if_neg (by omega)]
    rw [e, e2]
    have hne : (tchk l != 0) = true := by simp [hk]
    have HC := hid HC0
    clear hk hr e e2 HC0
    generalize tchk l = c at *
    go_enter Try.func12, Try.ntmps12
    go_wp2_with (first | (go_at_call 14; refine HC.out.mono ?_; rintro e w1 ⟨rfl, hb⟩))
    go_ret2
    exact ⟨rfl, hb⟩
end TaskC
end Go.Proofs.Ytpeapmefnabhfaa
