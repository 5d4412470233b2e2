/- Contracts of packages task and dutyref: Round, RoundOf. -/
import Derived.Test.YtpeapmefnabhfaaTskD
import Derived.Test.YtpeapmefnabhfaaNumL7
import Derived.Test.YtpeapmefnabhfaaSupI
import Derived.Deep.RegionHeld3
import Derived.Deep.AppendLies
set_option linter.unusedVariables false
namespace Go.Proofs.Ytpeapmefnabhfaa
open Go.RowKit hiding tok
open SpanM SpanC TaskM
open RowsO hiding Tk
namespace TaskC
def evs (l : List Tk) : List Int := l.map (·.2.1)
theorem evs_len (l : List Tk) : (evs l).length = l.length := by simp [evs]
theorem evs_snoc (l : List Tk) (x : Tk) : evs (l ++ [x]) = evs l ++ [x.2.1] := by simp [evs]
theorem evs_ok {l : List Tk} (h : ∀ x ∈ l, tok x) : ∀ x ∈ evs l, NumM.Ok1 x := by
  intro x hx
  simp only [evs, List.mem_map] at hx
  obtain ⟨y, hy, rfl⟩ := hx
  obtain ⟨e1, e2, _⟩ := h y hy
  exact ⟨e1, by omega⟩
theorem evs_ok' {l : List Tk} (h : ∀ x ∈ l, tok x) : ∀ i, i < (evs l).length → NumM.Ok1 ((evs l).getD i 0) := by
  intro i hi
  exact evs_ok h _ (by simp [List.getD, hi])
theorem evs_all {l : List Tk} (h : ∀ x ∈ l, tok x) : (evs l).all NumC.okB = true := (NumC.all_iff _).2 (evs_ok' h)
/-- what Round says of right tasks -/
def rnd (l : List Tk) : Int := NumC.lcmVal (NumM.lcmFrom 1 (evs l))
def rndE (l : List Tk) : Int := NumC.lcmErr (NumM.lcmFrom 1 (evs l))
theorem say_evs {l : List Tk} (hl : l.length ≤ 16) (h : ∀ x ∈ l, tok x) : NumC.lcmSay (evs l) = (rnd l, rndE l) := by
  unfold NumC.lcmSay rnd rndE
  rw [if_neg (by rw [evs_len]; omega), if_pos (evs_all h)]
theorem own_nil (w : World) (B : Nat) : OwnI w B (.slice none 0 0) [] := World.ownsRow_nil w B _ _
theorem own_row {w : World} {B : Nat} {v : Value} {l : List Int} (h : OwnI w B v l) : ∃ a cap, v = .slice a l.length cap ∧ NumC.Row w a l := by
  rcases h.form with ⟨rfl, rfl⟩ | ⟨g, cap, rfl, _⟩
  · exact ⟨none, 0, rfl, .inl rfl⟩
  · exact ⟨_, cap, rfl, .inr ⟨g, 0, rfl, fun i hi => by rw [Nat.zero_add]; exact h.cell i hi⟩⟩
set_option maxHeartbeats 800000 in
theorem rround_any (a : Option Addr) (cap : Nat) (l : List Tk) (w : World) (hr : Tks w a l) (hl : l.length ≤ 16) (hg : ∀ x ∈ l, tok x) :
    Calls Try.prog 17 #[.slice a l.length cap] w fun e w' => e = .returned (.int .i64 (rnd l)) ∧ Below w.heap.size w w' := by
  obtain ⟨i0, hi, hz0, hz1, hz2⟩ := info_parts infoInt
  have Hi := hid hi
  have Hz0 := hid hz0
  have Hz1 := hid hz1
  have Hz2 := hid hz2
  clear hi hz0 hz1 hz2
  have HR := hid hr
  have HG := hid hg
  clear hr hg
  go_enter Try.func17, Try.ntmps17
  go_wp2_with fail
  go_loopw [3, 8] (fun vA vI wr => ∃ k : Nat, k ≤ l.length ∧ vI = .int .i64 k ∧ OwnI wr w.heap.size vA (evs (l.take k)) ∧ Below w.heap.size w wr) (fun _ vI _ => l.length - (intOf vI).toNat)
  case atStart => exact ⟨0, by omega, rfl, by simpa [evs] using own_nil _ _, Below.refl _ _⟩
  case round =>
    obtain ⟨k, hk, rfl, ho, hb⟩ := hrel
    have HB := hid hb
    have hsz := hb.size
    have HO := hid ho
    obtain ⟨p5, n5, q5, hv5⟩ := ho.slice
    subst hv5
    have hln : (evs (l.take k)).length ≤ 16 := by rw [evs_len, List.length_take]; omega
    by_cases hlt : k < l.length
    · obtain ⟨b, off, rfl, hbw, d1, d2, d3⟩ := (HR.out.below hb (Nat.le_refl _)).at k hlt
      have hd := tk_snoc l k hlt
      clear hb ho
      generalize l.getD k zTk = z at d1 d2 d3 hd
      obtain ⟨m, e, d⟩ := z
      have HE := hid (show evs (l.take (k + 1)) = evs (l.take k) ++ [e] by rw [hd, evs_snoc])
      clear hd
      simp only at d1 d2 d3
      generalize evs (l.take k) = Z at *
      go_wp2_with (at_builtin; refine wpList_append_own _ rfl _ _ 43 rfl w.heap.size 3 i0 (.int .i64 0) 1 8 Try.underlying43 Hi.out Hz0.out Hz1.out Hz2.out rfl (by decide) _ Z.length (Z.map (Value.int .i64)) rfl ?qc0 ⟨wr.heap.size + 1, 0, none⟩ 1 1 [.int .i64 e] ?qcx ?qc1 ?qc2 ?qc3 ?qc4 ?qc5 ?qc6 ?_)
      case qc0 => exact World.ownsRow.alloc (World.ownsRow.alloc HO.out _) _
      case qcx => rfl
      case qc1 => simp
      case qc2 =>
        intro j u hj
        match j, hj with
        | 0, hj => simp at hj; subst hj; exact World.cell?_alloc_at _ _ _ _ (by simp)
        | j + 1, hj => simp at hj
      case qc3 => intro u hu; simp at hu; subst hu; rfl
      case qc4 => unfold maxLen; omega
      case qc5 => omega
      case qc6 => simp; omega
      intro v' w1 hown hgrow hnil
      have HO1 : Hid (OwnI w1 w.heap.size v' (Z ++ [e])) := by
        show w1.ownsRow _ _ _ _ _ _
        simpa using hown
      have HB1 := hid (HB.out.trans (Below.grown (Below.alloc (Below.alloc (Below.refl w.heap.size wr) hsz (.cells #[.int .i64 m, .int .i64 e, .int .i64 d] 34)) (by simp; omega) (.cells #[.int .i64 e] 3)) hgrow (by simp; omega) (fun k hk => (World.ownsRow.lt HO.out k hk).1)))
      obtain ⟨p6, n6, q6, hv6⟩ := HO1.out.slice
      subst hv6
      clear hown hgrow hnil
      go_wp2_with fail
      go_roundw
      case rel => exact ⟨k + 1, by omega, by go_num, by rw [HE.out]; exact HO1.out, HB1.out⟩
      case measure => simp [intOf]; omega
    · have he : l.take k = l := List.take_of_length_le (by omega)
      rw [he] at HO
      obtain ⟨p6, q6, hv6, hrow⟩ := own_row (show OwnI _ _ _ _ from HO.out)
      injection hv6 with e1 e2 e3
      subst e1 e2 e3
      have HW := hid hrow
      clear hb ho hrow hln HO
      have HC := hid (NumC.lcmOf_any p5 q5 (evs l) wr HW.out (by rw [evs_len]; omega) (evs_ok' HG.out))
      go_wp2_with (go_at_call 20; refine HC.out.mono ?_; rintro e w' ⟨rfl, hw⟩; replace hw := hw.symm; subst hw)
      go_ret
      exact ⟨rfl, HB.out⟩
theorem round_err (a : Option Addr) (cap : Nat) (l : List Tk) (w : World) (hr : Tks w a l) (h : tchk l ≠ 0) :
    Calls Try.prog 10 #[.slice a l.length cap] w fun e w' => e = .returned (.tuple #[.int .i64 0, .int .i64 (tchk l)]) ∧ Below w.heap.size w w' := by
  have HC := hid (tcheck_any a cap l w hr)
  have hne : (tchk l != 0) = true := by simp [h]
  clear hr h
  generalize tchk l = c at *
  go_enter Try.func10, Try.ntmps10
  go_wp2_with (go_at_call 14; refine HC.out.mono ?_; rintro e w' ⟨rfl, hb⟩)
  go_ret2
  exact ⟨rfl, hb⟩
set_option maxHeartbeats 800000 in
theorem round_ok (a : Option Addr) (cap : Nat) (l : List Tk) (w : World) (hr : Tks w a l) (h : tchk l = 0) :
    Calls Try.prog 10 #[.slice a l.length cap] w fun e w' => e = .returned (.tuple #[.int .i64 (rnd l), .int .i64 (rndE l)]) ∧ Below w.heap.size w w' := by
  obtain ⟨i0, hi, hz0, hz1, hz2⟩ := info_parts infoInt
  have Hi := hid hi
  have Hz0 := hid hz0
  have Hz1 := hid hz1
  have Hz2 := hid hz2
  clear hi hz0 hz1 hz2
  have HC0 := tcheck_any a cap l w hr
  rw [h] at HC0
  have HC := hid HC0
  obtain ⟨hl, hg⟩ := tchk_zero h
  have HR := hid hr
  have HG := hid hg
  clear hr hg h HC0
  go_enter Try.func10, Try.ntmps10
  go_wp2_with (go_at_call 14; refine HC.out.mono ?_; rintro e w0 ⟨rfl, hb⟩; have HB0 := hid hb; clear hb)
  go_loopw [5, 15] (fun vA vI wr => ∃ k : Nat, k ≤ l.length ∧ vI = .int .i64 k ∧ OwnI wr w.heap.size vA (evs (l.take k)) ∧ Below w.heap.size w wr) (fun _ vI _ => l.length - (intOf vI).toNat)
  case atStart => exact ⟨0, by omega, rfl, by simpa [evs] using own_nil _ _, HB0.out⟩
  case round =>
    obtain ⟨k, hk, rfl, ho, hb⟩ := hrel
    have HB := hid hb
    have hsz := hb.size
    have HO := hid ho
    obtain ⟨p5, n5, q5, hv5⟩ := ho.slice
    subst hv5
    have hln : (evs (l.take k)).length ≤ 16 := by rw [evs_len, List.length_take]; omega
    by_cases hlt : k < l.length
    · obtain ⟨b, off, rfl, hbw, d1, d2, d3⟩ := (HR.out.below hb (Nat.le_refl _)).at k hlt
      have hd := tk_snoc l k hlt
      clear hb ho
      generalize l.getD k zTk = z at d1 d2 d3 hd
      obtain ⟨m, e, d⟩ := z
      have HE := hid (show evs (l.take (k + 1)) = evs (l.take k) ++ [e] by rw [hd, evs_snoc])
      clear hd
      simp only at d1 d2 d3
      generalize evs (l.take k) = Z at *
      go_wp2_with (at_builtin; refine wpList_append_own _ rfl _ _ 43 rfl w.heap.size 3 i0 (.int .i64 0) 1 8 Try.underlying43 Hi.out Hz0.out Hz1.out Hz2.out rfl (by decide) _ Z.length (Z.map (Value.int .i64)) rfl ?qc0 ⟨wr.heap.size + 1, 0, none⟩ 1 1 [.int .i64 e] ?qcx ?qc1 ?qc2 ?qc3 ?qc4 ?qc5 ?qc6 ?_)
      case qc0 => exact World.ownsRow.alloc (World.ownsRow.alloc HO.out _) _
      case qcx => rfl
      case qc1 => simp
      case qc2 =>
        intro j u hj
        match j, hj with
        | 0, hj => simp at hj; subst hj; exact World.cell?_alloc_at _ _ _ _ (by simp)
        | j + 1, hj => simp at hj
      case qc3 => intro u hu; simp at hu; subst hu; rfl
      case qc4 => unfold maxLen; omega
      case qc5 => omega
      case qc6 => simp; omega
      intro v' w1 hown hgrow hnil
      have HO1 : Hid (OwnI w1 w.heap.size v' (Z ++ [e])) := by
        show w1.ownsRow _ _ _ _ _ _
        simpa using hown
      have HB1 := hid (HB.out.trans (Below.grown (Below.alloc (Below.alloc (Below.refl w.heap.size wr) hsz (.cells #[.int .i64 m, .int .i64 e, .int .i64 d] 34)) (by simp; omega) (.cells #[.int .i64 e] 3)) hgrow (by simp; omega) (fun k hk => (World.ownsRow.lt HO.out k hk).1)))
      obtain ⟨p6, n6, q6, hv6⟩ := HO1.out.slice
      subst hv6
      clear hown hgrow hnil
      go_wp2_with fail
      go_roundw
      case rel => exact ⟨k + 1, by omega, by go_num, by rw [HE.out]; exact HO1.out, HB1.out⟩
      case measure => simp [intOf]; omega
    · have he : l.take k = l := List.take_of_length_le (by omega)
      rw [he] at HO
      obtain ⟨p6, q6, hv6, hrow⟩ := own_row (show OwnI _ _ _ _ from HO.out)
      injection hv6 with e1 e2 e3
      subst e1 e2 e3
      have HW := hid hrow
      clear hb ho hrow hln HO
      have hs := NumC.lcm_any p5 q5 (evs l) wr HW.out
      rw [say_evs hl HG.out] at hs
      have HC := hid hs
      clear hs
      go_wp2_with (go_at_call 28; refine HC.out.mono ?_; rintro e w' ⟨rfl, nd, hw⟩; replace hw := hw.symm; subst hw)
      go_ret2
      exact ⟨rfl, below_drewN HB.out _⟩
end TaskC
end Go.Proofs.Ytpeapmefnabhfaa
