/- Several texts, one behind the other: TskR TskU. -/
import Derived.Test.YtpnahhpkaegeeaaPkE
import Derived.Test.YtpnahhpkaegeeaaPkF
import Derived.Test.YtpnahhpkaegeeaaPkC
import Derived.Deep.RegionHeld3
import Derived.Deep.AppendLies
/- Contracts of packages task and dutyref: Round, RoundOf. -/
set_option linter.unusedVariables false
namespace Go.Proofs.Ytpnahhpkaegeeaa
open Go.RowKit hiding tok
open SpanM SpanC TaskM
open RowsO hiding Tk
namespace TaskC
def evs (l : List Tk) : List Int := l.map (·.2.1)
theorem evs_len (l : List Tk) : (evs l).length = l.length := by simp [evs]
theorem evs_snoc (l : List Tk) (x : Tk) : evs (l ++ [x]) = evs l ++ [x.2.1] := by simp [evs]
theorem evs_ok {l : List Tk} (h : ∀ x ∈ l, tok x) : ∀ x ∈ evs l, NumM.Ok1 x := by
  intro x hx
  simp only [evs, List.mem_map] at hx
  obtain ⟨y, hy, rfl⟩ := hx
  obtain ⟨e1, e2, _⟩ := h y hy
  exact ⟨e1, by omega⟩
theorem evs_ok' {l : List Tk} (h : ∀ x ∈ l, tok x) : ∀ i, i < (evs l).length → NumM.Ok1 ((evs l).getD i 0) := by
  intro i hi
  exact evs_ok h _ (by simp [List.getD, hi])
theorem evs_all {l : List Tk} (h : ∀ x ∈ l, tok x) : (evs l).all NumC.okB = true := (NumC.all_iff _).2 (evs_ok' h)
/-- what Round says of right tasks -/
def rnd (l : List Tk) : Int := NumC.lcmVal (NumM.lcmFrom 1 (evs l))
def rndE (l : List Tk) : Int := NumC.lcmErr (NumM.lcmFrom 1 (evs l))
theorem say_evs {l : List Tk} (hl : l.length ≤ 16) (h : ∀ x ∈ l, tok x) : NumC.lcmSay (evs l) = (rnd l, rndE l) := by
  unfold NumC.lcmSay rnd rndE
  rw [if_neg (by rw [evs_len]; omega), if_pos (evs_all h)]
theorem own_nil (w : World) (B : Nat) : OwnI w B (.slice none 0 0) [] := World.ownsRow_nil w B _ _
theorem own_row {w : World} {B : Nat} {v : Value} {l : List Int} (h : OwnI w B v l) : ∃ a cap, v = .slice a l.length cap ∧ NumC.Row w a l := by
  rcases h.form with ⟨rfl, rfl⟩ | ⟨g, cap, rfl, _⟩
  · exact ⟨none, 0, rfl, .inl rfl⟩
  · exact ⟨_, cap, rfl, .inr ⟨g, 0, rfl, fun i hi => by rw [Nat.zero_add]; exact h.cell i hi⟩⟩
theorem round_err (a : Option Addr) (cap : Nat) (l : List Tk) (w : World) (hr : Tks w a l) (h : tchk l ≠ 0) :
    Calls Try.prog 83 #[.slice a l.length cap] w fun e w' => e = .returned (.tuple #[.int .i64 0, .int .i64 (tchk l)]) ∧ Below w.heap.size w w' := by
  have HC := hid (tcheck_any a cap l w hr)
  have hne : (tchk l != 0) = true := by simp [h]
  clear hr h
  generalize tchk l = c at *
  go_enter Try.func83, Try.ntmps83
  go_wp2_with (go_at_call 41; refine HC.out.mono ?_; rintro e w' ⟨rfl, hb⟩)
  go_ret2
  exact ⟨rfl, hb⟩
set_option maxHeartbeats 800000 in
theorem round_ok (a : Option Addr) (cap : Nat) (l : List Tk) (w : World) (hr : Tks w a l) (h : tchk l = 0) :
    Calls Try.prog 83 #[.slice a l.length cap] w fun e w' => e = .returned (.tuple #[.int .i64 (rnd l), .int .i64 (rndE l)]) ∧ Below w.heap.size w w' := by
  obtain ⟨i0, hi, hz0, hz1, hz2⟩ := info_parts infoInt
  have Hi := hid hi
  have Hz0 := hid hz0
  have Hz1 := hid hz1
  have Hz2 := hid hz2
  clear hi hz0 hz1 hz2
  have HC0 := tcheck_any a cap l w hr
  rw [h] at HC0
  have HC := hid HC0
  obtain ⟨hl, hg⟩ := tchk_zero h
  have HR := hid hr
  have HG := hid hg
  clear hr hg h HC0
  go_enter Try.func83, Try.ntmps83
  go_wp2_with (go_at_call 41; refine HC.out.mono ?_; rintro e w0 ⟨rfl, hb⟩; have HB0 := hid hb; clear hb)
  go_loopw [5, 15] (fun vA vI wr => ∃ k : Nat, k ≤ l.length ∧ vI = .int .i64 k ∧ OwnI wr w.heap.size vA (evs (l.take k)) ∧ Below w.heap.size w wr) (fun _ vI _ => l.length - (intOf vI).toNat)
  case atStart => exact ⟨0, by omega, rfl, by simpa [evs] using own_nil _ _, HB0.out⟩
  case round =>
    obtain ⟨k, hk, rfl, ho, hb⟩ := hrel
    have HB := hid hb
    have hsz := hb.size
    have HO := hid ho
    obtain ⟨p5, n5, q5, hv5⟩ := ho.slice
    subst hv5
    have hln : (evs (l.take k)).length ≤ 16 := by rw [evs_len, List.length_take]; omega
    by_cases hlt : k < l.length
    · obtain ⟨b, off, rfl, hbw, d1, d2, d3⟩ := (HR.out.below hb (Nat.le_refl _)).at k hlt
      have hd := tk_snoc l k hlt
      clear hb ho
      generalize l.getD k zTk = z at d1 d2 d3 hd
      obtain ⟨m, e, d⟩ := z
      have HE := hid (show evs (l.take (k + 1)) = evs (l.take k) ++ [e] by rw [hd, evs_snoc])
      clear hd
      simp only at d1 d2 d3
      generalize evs (l.take k) = Z at *
      go_wp2_with (at_builtin; refine wpList_append_own _ rfl _ _ 26 rfl w.heap.size 3 i0 (.int .i64 0) 1 8 Try.underlying26 Hi.out Hz0.out Hz1.out Hz2.out rfl (by decide) _ Z.length (Z.map (Value.int .i64)) rfl ?qc0 ⟨wr.heap.size + 1, 0, none⟩ 1 1 [.int .i64 e] ?qcx ?qc1 ?qc2 ?qc3 ?qc4 ?qc5 ?qc6 ?_)
      case qc0 => exact World.ownsRow.alloc (World.ownsRow.alloc HO.out _) _
      case qcx => rfl
      case qc1 => simp
      case qc2 =>
        intro j u hj
        match j, hj with
        | 0, hj => simp at hj; subst hj; exact World.cell?_alloc_at _ _ _ _ (by simp)
        | j + 1, hj => simp at hj
      case qc3 => intro u hu; simp at hu; subst hu; rfl
      case qc4 => unfold maxLen; omega
      case qc5 => omega
      case qc6 => simp; omega
      intro v' w1 hown hgrow hnil
      have HO1 : Hid (OwnI w1 w.heap.size v' (Z ++ [e])) := by
        show w1.ownsRow _ _ _ _ _ _
        simpa using hown
      have HB1 := hid (HB.out.trans (Below.grown (Below.alloc (Below.alloc (Below.refl w.heap.size wr) hsz (.cells #[.int .i64 m, .int .i64 e, .int .i64 d] 67)) (by simp; omega) (.cells #[.int .i64 e] 3)) hgrow (by simp; omega) (fun k hk => (World.ownsRow.lt HO.out k hk).1)))
      obtain ⟨p6, n6, q6, hv6⟩ := HO1.out.slice
      subst hv6
      clear hown hgrow hnil
      go_wp2_with fail
      go_roundw
      case rel => exact ⟨k + 1, by omega, by go_num, by rw [HE.out]; exact HO1.out, HB1.out⟩
      case measure => simp [intOf]; omega
    · have he : l.take k = l := List.take_of_length_le (by omega)
      rw [he] at HO
      obtain ⟨p6, q6, hv6, hrow⟩ := own_row (show OwnI _ _ _ _ from HO.out)
      injection hv6 with e1 e2 e3
      subst e1 e2 e3
      have HW := hid hrow
      clear hb ho hrow hln HO
      have hs := NumC.lcm_any p5 q5 (evs l) wr HW.out
      rw [say_evs hl HG.out] at hs
      have HC := hid hs
      clear hs
      go_wp2_with (go_at_call 84; refine HC.out.mono ?_; rintro e w' ⟨rfl, nd, hw⟩; replace hw := hw.symm; subst hw)
      go_ret2
      exact ⟨rfl, below_drewN HB.out _⟩
end TaskC
end Go.Proofs.Ytpnahhpkaegeeaa

/- Contracts of package task: Use, Demand. -/
set_option linter.unusedVariables false
namespace Go.Proofs.Ytpnahhpkaegeeaa
open Go.RowKit hiding tok
open SpanM SpanC TaskM
open RowsO hiding Tk
namespace TaskC
theorem rnd_eq {l : List Tk} (h : ∀ x ∈ l, tok x) : NumM.lcmFrom 1 (evs l) = if NumM.lc 1 (evs l) ≤ 1099511627776 then some (NumM.lc 1 (evs l)) else none :=
  NumM.lcmFrom_eq _ 1 (by omega) (by omega) (evs_ok h)
theorem evs_pos {l : List Tk} (h : ∀ x ∈ l, tok x) : ∀ x ∈ evs l, 1 ≤ x := fun x hx => (evs_ok h x hx).1
theorem lc_pos {l : List Tk} (h : ∀ x ∈ l, tok x) : 1 ≤ NumM.lc 1 (evs l) := NumM.lc_pos _ 1 (by omega) (evs_pos h)
theorem rnd_cases {l : List Tk} (h : ∀ x ∈ l, tok x) : (rndE l = 0 ∧ rnd l = NumM.lc 1 (evs l) ∧ 1 ≤ rnd l ∧ rnd l ≤ 1099511627776) ∨ (rndE l = 6 ∧ rnd l = 0 ∧ 1099511627776 < NumM.lc 1 (evs l)) := by
  have hp := lc_pos h
  unfold rnd rndE
  rw [rnd_eq h]
  by_cases c : NumM.lc 1 (evs l) ≤ 1099511627776
  · rw [if_pos c]
    simp only [NumC.lcmErr, NumC.lcmVal]
    exact .inl ⟨by simp, by simp, by simpa using hp, by simpa using c⟩
  · rw [if_neg c]
    simp only [NumC.lcmErr, NumC.lcmVal]
    exact .inr ⟨by simp, by simp, by omega⟩
theorem rnd_dvd {l : List Tk} (h : ∀ x ∈ l, tok x) (he : rndE l = 0) : ∀ x ∈ l, x.2.1 ∣ rnd l := by
  intro x hx
  rcases rnd_cases h with ⟨_, e, _⟩ | ⟨e, _⟩
  · rw [e]
    exact ((NumM.lc_dvd (evs l) _ 1 (by omega) (evs_pos h)).1 (Int.dvd_refl _)).2 _ (List.mem_map.2 ⟨x, hx, rfl⟩)
  · omega
def roundV (l : List Tk) : Int := if tchk l = 0 then rnd l else 0
def roundE (l : List Tk) : Int := if tchk l = 0 then rndE l else tchk l
theorem roundE_zero {l : List Tk} (h : roundE l = 0) : tchk l = 0 ∧ rndE l = 0 ∧ roundV l = rnd l ∧ roundV l = NumM.lc 1 (evs l) ∧ 1 ≤ rnd l ∧ rnd l ≤ 1099511627776 := by
  unfold roundE at h
  by_cases c : tchk l = 0
  · rw [if_pos c] at h
    have e : roundV l = rnd l := by unfold roundV; rw [if_pos c]
    rcases rnd_cases (tchk_zero c).2 with ⟨_, e2, h1, h2⟩ | ⟨e2, _⟩
    · exact ⟨c, h, e, e.trans e2, h1, h2⟩
    · omega
  · rw [if_neg c] at h; exact absurd h c
theorem roundE_err {l : List Tk} (h : roundE l ≠ 0) : roundV l = 0 := by
  unfold roundE at h
  unfold roundV
  by_cases c : tchk l = 0
  · rw [if_pos c] at h ⊢
    rcases rnd_cases (tchk_zero c).2 with ⟨e2, _⟩ | ⟨_, e2, _⟩
    · exact absurd e2 h
    · exact e2
  · rw [if_neg c]
theorem round_any (a : Option Addr) (cap : Nat) (l : List Tk) (w : World) (hr : Tks w a l) :
    Calls Try.prog 83 #[.slice a l.length cap] w fun e w' => e = .returned (.tuple #[.int .i64 (roundV l), .int .i64 (roundE l)]) ∧ Below w.heap.size w w' := by
  unfold roundV roundE
  by_cases c : tchk l = 0
  · rw [if_pos c, if_pos c]; exact round_ok a cap l w hr c
  · rw [if_neg c, if_neg c]; exact round_err a cap l w hr c
theorem use_snoc (R : Int) (l : List Tk) (x : Tk) : use R (l ++ [x]) = use R l + R / x.2.1 * x.1 := by
  induction l with
  | nil => simp [use]
  | cons y r ih => simp only [List.cons_append, use, ih]; omega
theorem use_bd {x : Tk} (h : tok x) {R : Int} (h0 : 0 ≤ R) : 0 ≤ R / x.2.1 ∧ R / x.2.1 ≤ R ∧ 0 ≤ x.1 * (R / x.2.1) ∧ x.1 * (R / x.2.1) ≤ R := by
  obtain ⟨e1, e2, d1, d2, g1, g2⟩ := h
  have q0 := Int.ediv_nonneg h0 (show 0 ≤ x.2.1 by omega)
  have m3 := Int.emod_add_mul_ediv R x.2.1
  have m1 := Int.emod_nonneg R (show x.2.1 ≠ 0 by omega)
  have c : x.1 * (R / x.2.1) ≤ x.2.1 * (R / x.2.1) := Int.mul_le_mul_of_nonneg_right (by omega) q0
  exact ⟨q0, Int.ediv_le_self _ h0, Int.mul_nonneg (by omega) q0, by omega⟩
def useV (l : List Tk) : Int := if roundE l = 0 then use (roundV l) l else 0
def demE (l : List Tk) (n : Int) : Int := if tchk l = 0 then (if 0 ≤ n ∧ n ≤ 1099511627776 then 0 else 1) else tchk l
def demV (l : List Tk) (n : Int) : Int := if demE l n = 0 then dem l n else 0
theorem demE_zero {l : List Tk} {n : Int} (h : demE l n = 0) : tchk l = 0 ∧ 0 ≤ n ∧ n ≤ 1099511627776 := by
  unfold demE at h
  split at h
  · split at h
    · exact ⟨‹_›, ‹_›⟩
    · simp at h
  · exact absurd h ‹_›
theorem demE_of {l : List Tk} {n : Int} (h : tchk l = 0) (h1 : 0 ≤ n) (h2 : n ≤ 1099511627776) : demE l n = 0 := by unfold demE; rw [if_pos h, if_pos ⟨h1, h2⟩]
theorem demV_of {l : List Tk} {n : Int} (h : demE l n = 0) : demV l n = dem l n := by unfold demV; rw [if_pos h]
theorem demV_bd (l : List Tk) (n : Int) : 0 ≤ demV l n ∧ demV l n ≤ 17600000000000 := by
  unfold demV
  split
  · obtain ⟨k, n1, n2⟩ := demE_zero ‹_›
    obtain ⟨k1, k2⟩ := tchk_zero k
    have := dem_bd k2 k1 n1
    omega
  · omega
end TaskC
end Go.Proofs.Ytpnahhpkaegeeaa
