/- Package lock: Check. -/
import Derived.Test.YtllfpbngfkimlaaLkM
set_option linter.unusedVariables false
namespace Go.Proofs.Ytllfpbngfkimlaa
open Go.RowKit
open Go.Shelf Go.Sort
open SpanM SpanC IntsC
open RowsO hiding Wk
namespace LockC
open LockM
open NumC (Row)
def few (l : List LockM.Wk) : Bool := l.all fun w => decide (w.2.length ≤ 30)
def good1 (w : LockM.Wk) : Bool := decide (0 ≤ w.1 ∧ w.1 ≤ 1000) && decide (Form w.2)
def good (l : List LockM.Wk) : Bool := l.all good1
/-- what Check answers -/
def wchk (l : List LockM.Wk) : Int := if 8 < l.length then 2 else if few l = false then 2 else if good l = false then 4 else 0
theorem wchk_zero {l : List LockM.Wk} (h : wchk l = 0) : Oks l := by
  unfold wchk at h
  split at h
  · cases h
  · split at h
    · cases h
    · split at h
      · cases h
      · rename_i h1 h2 h3
        refine ⟨by omega, fun w hw => ?_⟩
        have f := List.all_eq_true.1 (by simpa [few] using h2 : (l.all fun w => decide (w.2.length ≤ 30)) = true) w hw
        have g := List.all_eq_true.1 (by simpa [good] using h3 : l.all good1 = true) w hw
        simp only [good1, Bool.and_eq_true, decide_eq_true_eq] at f g
        exact ⟨g.1, f, g.2.1, g.2.runs, g.2.behind⟩
theorem wchk_of {l : List LockM.Wk} (h : Oks l) : wchk l = 0 := by
  unfold wchk
  rw [if_neg (by have := h.1; omega), if_neg, if_neg]
  · have : good l = true := List.all_eq_true.2 fun w hw => by
      have q := h.2 w hw
      simp only [good1, Bool.and_eq_true, decide_eq_true_eq]
      exact ⟨q.come, Form.of q.all q.runs q.behind⟩
    simp [this]
  · have : few l = true := List.all_eq_true.2 fun w hw => by simpa using (h.2 w hw).many
    simp [this]
theorem wchk_cases (l : List LockM.Wk) : wchk l = 0 ∨ wchk l = 2 ∨ wchk l = 4 := by
  unfold wchk
  split
  · exact .inr (.inl rfl)
  · split
    · exact .inr (.inl rfl)
    · split
      · exact .inr (.inr rfl)
      · exact .inl rfl
theorem all_take {p : LockM.Wk → Bool} {l : List LockM.Wk} {k : Nat} (h : k < l.length) : (l.take (k + 1)).all p = ((l.take k).all p && p (l.getD k (0, []))) := by
  rw [List.take_succ_eq_append_getElem h, List.all_append]
  simp [List.getD, h]
theorem all_not {p : LockM.Wk → Bool} {l : List LockM.Wk} {k : Nat} (h : k < l.length) (hp : p (l.getD k (0, [])) = false) : l.all p = false := by
  cases e : l.all p with
  | false => rfl
  | true =>
    have := List.all_eq_true.1 e (l.getD k (0, [])) (by simp [List.getD, h])
    rw [hp] at this; cases this
set_option maxRecDepth 20000 in
set_option maxHeartbeats 400000 in
theorem Check_any (l : List LockM.Wk) (a : Option Addr) (c : Nat) (w : World) (hr : RowsO.Wks w a l) :
    Calls Try.prog 26 #[.slice a l.length c] w fun e w' => e = .returned (.int .i64 (wchk l)) ∧ Below w.heap.size w w' := by
  have HR := hid hr
  clear hr
  by_cases h8 : 8 < l.length
  · have e : wchk l = 2 := by unfold wchk; rw [if_pos h8]
    have i1 : (8 : Int) < (l.length : Int) := by omega
    rw [e]
    go_enter Try.func26, Try.ntmps26
    go_wp2_with fail
    go_ret
    exact ⟨rfl, by go_grown⟩
  · have e : wchk l = if few l = false then 2 else if good l = false then 4 else 0 := by unfold wchk; rw [if_neg h8]
    have HE := hid e
    have i1 : ¬ (8 : Int) < (l.length : Int) := by omega
    have HTK := hid (List.take_of_length_le (Nat.le_refl l.length))
    generalize wchk l = R at *
    clear e
    go_enter Try.func26, Try.ntmps26
    go_wp2_with fail
    go_loopw [12] (fun v12 wr => ∃ k : Nat, k ≤ l.length ∧ v12 = .int .i64 k ∧ Hid (few (l.take k) = true) ∧ Below w.heap.size w wr) (fun v12 _ => l.length - (intOf v12).toNat)
    case atStart => exact ⟨0, by omega, rfl, (rfl : few (l.take 0) = true), Below.refl _ _⟩
    case round =>
      obtain ⟨k, hk, rfl, hg, hb⟩ := hrel
      have HB := hid hb
      by_cases hlt : k < l.length
      · obtain ⟨b, off, rfl, _, d1, a1, c1, d2, d3, d4⟩ := (HR.out.below hb (Nat.le_refl _)).at k hlt
        have j1 : (k : Int) < (l.length : Int) := by omega
        have hz : l.getD k zWk = l.getD k (0, []) := rfl
        have HT := hid (all_take (p := fun w => decide (w.2.length ≤ 30)) hlt)
        have HN := hid (all_not (p := fun w => decide (w.2.length ≤ 30)) (l := l) (k := k) hlt)
        rw [hz] at d1 d2 d3
        generalize l.getD k (0, []) = x at *
        obtain ⟨cm, la⟩ := x
        simp only at d1 d2 d3
        clear hb d4
        by_cases hm : 30 < la.length
        · have j2 : (30 : Int) < (la.length : Int) := by omega
          have HX : Hid (few l = false) := HN.out (by simp; omega)
          clear hm
          go_wp2_with fail
          go_ret
          exact ⟨by rw [HE.out, if_pos HX.out]; rfl, HB.out.alloc HB.out.size _⟩
        · have j2 : ¬ (30 : Int) < (la.length : Int) := by omega
          have HX : Hid (few (l.take (k + 1)) = true) := by
            show few _ = true
            unfold few
            rw [HT.out]
            have := hg.out
            unfold few at this
            rw [this]
            simp; omega
          clear hm
          go_wp2_with fail
          go_roundw
          case rel => exact ⟨k + 1, by omega, by go_num, HX.out, HB.out.alloc HB.out.size _⟩
          case measure => simp [intOf]; omega
      · obtain rfl : k = l.length := by omega
        have hf := hg.out
        rw [HTK.out] at hf
        have HF := hid hf
        have HE2 : Hid (R = if good l = false then 4 else 0) := by
          show _ = _
          rw [HE.out, if_neg (by rw [HF.out]; decide)]
        clear hf hb
        go_wp2_with fail
        have HSZ := hid HB.out.size
        go_loopw [23] (fun v23 wr2 => ∃ k : Nat, k ≤ l.length ∧ v23 = .int .i64 k ∧ Hid (good (l.take k) = true) ∧ Below w.heap.size w wr2) (fun v23 _ => l.length - (intOf v23).toNat)
        case atStart => exact ⟨0, by omega, rfl, (rfl : good (l.take 0) = true), HB.out⟩
        case round =>
          obtain ⟨k, hk, rfl, hg2, hb2⟩ := hrel
          have HB2 := hid hb2
          by_cases hlt : k < l.length
          · obtain ⟨b, off, rfl, _, d1, a1, c1, d2, d3, d4⟩ := (HR.out.below hb2 (Nat.le_refl _)).at k hlt
            have j1 : (k : Int) < (l.length : Int) := by omega
            have hz : l.getD k zWk = l.getD k (0, []) := rfl
            have HT := hid (all_take (p := good1) hlt)
            have HN := hid (all_not (p := good1) (l := l) (k := k) hlt)
            have hmany : (l.getD k (0, [])).2.length ≤ 30 := by
              have := List.all_eq_true.1 HF.out (l.getD k (0, [])) (by simp [List.getD, hlt])
              simpa using this
            rw [hz] at d1 d2 d3 d4
            generalize l.getD k (0, []) = x at *
            obtain ⟨cm, la⟩ := x
            simp only at d1 d2 d3 d4 hmany
            have HIF := hid (fun wx (hb : Below wr.heap.size wr wx) => inForm_any la hmany a1 c1 wx (d4.below hb (Nat.le_refl _)))
            clear hb2 d4
            by_cases hcm : 0 ≤ cm ∧ cm ≤ 1000
            · by_cases hfm : Form la
              · have HX : Hid (good (l.take (k + 1)) = true) := by
                  show good _ = true
                  unfold good
                  rw [HT.out]
                  have := hg2.out
                  unfold good at this
                  rw [this]
                  simp only [good1, decide_eq_true hcm, decide_eq_true hfm]; rfl
                rw [decide_eq_true hfm] at HIF
                clear hfm
                go_wp2_with (first | (go_at_call 27; refine (within_yes _ _ _ _ (by omega)).mono ?_; rintro e w1 ⟨rfl, rfl⟩) | (go_at_call 46; refine (HIF.out _ (by go_grown)).mono ?_; rintro e w3 ⟨rfl, hb3⟩; have HB3 := hid hb3; clear hb3))
                go_roundw
                case rel => exact ⟨k + 1, by omega, by go_num, HX.out, (HB2.out.alloc HB2.out.size _).trans (HB3.out.mono (by rw [World.size_alloc]; have := HB2.out.size; omega))⟩
                case measure => simp [intOf]; omega
              · have HX : Hid (R = 4) := by
                  show _ = _
                  rw [HE2.out, if_pos]
                  exact HN.out (by simp only [good1, decide_eq_false hfm, Bool.and_false])
                rw [decide_eq_false hfm] at HIF
                clear hfm
                go_wp2_with (first | (go_at_call 27; refine (within_yes _ _ _ _ (by omega)).mono ?_; rintro e w1 ⟨rfl, rfl⟩) | (go_at_call 46; refine (HIF.out _ (by go_grown)).mono ?_; rintro e w3 ⟨rfl, hb3⟩; have HB3 := hid hb3; clear hb3))
                go_ret
                exact ⟨by rw [HX.out]; rfl, (HB2.out.alloc HB2.out.size _).trans (HB3.out.mono (by rw [World.size_alloc]; have := HB2.out.size; omega))⟩
            · have HX : Hid (R = 4) := by
                show _ = _
                rw [HE2.out, if_pos]
                exact HN.out (by simp only [good1, decide_eq_false hcm, Bool.false_and])
              go_wp2_with (first | (go_at_call 27; refine (within_no _ _ _ _ (by omega)).mono ?_; rintro e w1 ⟨rfl, rfl⟩) | (go_at_call 46; refine (HIF.out _ (by go_grown)).mono ?_; rintro e w3 ⟨rfl, hb3⟩; have HB3 := hid hb3; clear hb3))
              go_ret
              exact ⟨by rw [HX.out]; rfl, HB2.out.alloc HB2.out.size _⟩
          · obtain rfl : k = l.length := by omega
            have hf := hg2.out
            rw [HTK.out] at hf
            have HX : Hid (R = 0) := by
              show _ = _
              rw [HE2.out, if_neg (by rw [hf]; decide)]
            clear hf hb2
            go_wp2_with fail
            go_ret
            exact ⟨by rw [HX.out]; rfl, HB2.out⟩
end LockC
end Go.Proofs.Ytllfpbngfkimlaa
