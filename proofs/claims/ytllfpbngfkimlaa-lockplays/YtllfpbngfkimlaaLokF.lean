/- Contracts of the document's own answers about locks: WorksRight. -/
import Derived.Test.YtllfpbngfkimlaaLokE
import Derived.Test.YtllfpbngfkimlaaLkN
set_option linter.unusedVariables false
namespace Go.Proofs.Ytllfpbngfkimlaa
open Go.RowKit
open Go.Shelf Go.Sort
open SpanM SpanC IntsC
open RowsO hiding Wk
namespace LockC
open LockM
open NumC (Row)
/-- the last act of the first j that runs; -1, if none does -/
def lastR (l : List LockM.Ac) : Nat → Int
  | 0 => -1
  | j + 1 => if (l.getD j zAc).1 = 1 then (j : Int) else lastR l j
theorem lastR_spec (l : List LockM.Ac) : ∀ j, (lastR l j = -1 ∧ ∀ i, i < j → (l.getD i zAc).1 ≠ 1) ∨ ∃ m : Nat, m < j ∧ lastR l j = (m : Int) ∧ (l.getD m zAc).1 = 1 ∧ ∀ i, m < i → i < j → (l.getD i zAc).1 ≠ 1 := by
  intro j
  induction j with
  | zero => exact .inl ⟨rfl, fun i h => by omega⟩
  | succ j ih =>
    simp only [lastR]
    by_cases c : (l.getD j zAc).1 = 1
    · rw [if_pos c]
      exact .inr ⟨j, by omega, rfl, c, fun i h1 h2 => by omega⟩
    · rw [if_neg c]
      rcases ih with ⟨h1, h2⟩ | ⟨m, h1, h2, h3, h4⟩
      · refine .inl ⟨h1, fun i hi => ?_⟩
        rcases Nat.lt_or_ge i j with q | q
        · exact h2 i q
        · have : i = j := by omega
          subst this; exact c
      · refine .inr ⟨m, by omega, h2, h3, fun i q1 q2 => ?_⟩
        rcases Nat.lt_or_ge i j with q | q
        · exact h4 i q1 q
        · have : i = j := by omega
          subst this; exact c
theorem lastR_le (l : List LockM.Ac) (j : Nat) : -1 ≤ lastR l j ∧ lastR l j < j := by
  rcases lastR_spec l j with ⟨h, _⟩ | ⟨m, h1, h2, _⟩ <;> omega
theorem tk2_drop {l : List LockM.Ac} {m : Nat} : tk2 (l.drop m) = false ↔ ∀ i (h : i < l.length), m ≤ i → l[i].1 ≠ 2 := by
  unfold tk2
  rw [List.any_eq_false]
  constructor
  · intro h i hi hm e
    have := h l[i] (by
      rw [List.mem_iff_getElem]
      refine ⟨i - m, by rw [List.length_drop]; omega, ?_⟩
      rw [List.getElem_drop]; congr 1; omega)
    exact this (by simpa using e)
  · intro h a ha e
    obtain ⟨d, hd, rfl⟩ := List.getElem_of_mem ha
    rw [List.length_drop] at hd
    rw [List.getElem_drop] at e
    exact h (m + d) (by omega) (by omega) (by simpa using e)
theorem form_last {l : List LockM.Ac} (hs : hasAt l l.length = some []) : Form l ↔ (0 ≤ lastR l l.length ∧ tk2 (l.drop (lastR l l.length).toNat) = false) := by
  have hr := ranF_iff l
  unfold Form
  rw [hr]
  constructor
  · rintro ⟨_, j, hj, e, h3⟩
    have ej : (l.getD j zAc).1 = 1 := by rw [ac_at hj]; exact e
    rcases lastR_spec l l.length with ⟨_, h2⟩ | ⟨m, h1, h2, h4, h5⟩
    · exact absurd ej (h2 j hj)
    · rw [h2]
      refine ⟨by omega, ?_⟩
      rw [Int.toNat_natCast, tk2_drop]
      intro i hi hmi
      rcases Nat.lt_or_ge m j with q | q
      · exact absurd ej (h5 j q hj)
      · exact h3 i hi (by omega)
  · rintro ⟨h0, h1⟩
    refine ⟨hs, ?_⟩
    rcases lastR_spec l l.length with ⟨h2, _⟩ | ⟨m, h2, h3, h4, h5⟩
    · omega
    · rw [h3, Int.toNat_natCast, tk2_drop] at h1
      exact ⟨m, h2, by rw [← ac_at h2]; exact h4, h1⟩
theorem form_no {l : List LockM.Ac} (h : hasAt l l.length ≠ some []) : ¬ Form l := by
  intro f
  unfold Form at f
  rw [ranF_iff] at f
  exact h f.1
set_option maxRecDepth 20000 in
set_option maxHeartbeats 4000000 in
theorem WorksRight_any (HHA : HasAtC) (l : List LockM.Wk) (a : Option Addr) (c : Nat) (w : World) (hr : RowsO.Wks w a l) :
    Calls Try.prog 11 #[.slice a l.length c] w fun e w' => e = .returned (.int .i64 (wchk l)) ∧ Below w.heap.size w w' := by
  have HH := hid HHA
  have HR := hid hr
  clear hr HHA
  by_cases h8 : 8 < l.length
  · have e : wchk l = 2 := by unfold wchk; rw [if_pos h8]
    have i1 : (8 : Int) < (l.length : Int) := by omega
    rw [e]
    go_enter Try.func11, Try.ntmps11
    go_wp2_with fail
    go_ret
    exact ⟨rfl, by go_grown⟩
  · have e : wchk l = if few l = false then 2 else if good l = false then 4 else 0 := by unfold wchk; rw [if_neg h8]
    have HE := hid e
    have i1 : ¬ (8 : Int) < (l.length : Int) := by omega
    have HTK := hid (List.take_of_length_le (Nat.le_refl l.length))
    generalize wchk l = R at *
    clear e
    go_enter Try.func11, Try.ntmps11
    go_wp2_with fail
    go_loopw [17] (fun v12 wr => ∃ k : Nat, k ≤ l.length ∧ v12 = .int .i64 k ∧ Hid (few (l.take k) = true) ∧ Below w.heap.size w wr) (fun v12 _ => l.length - (intOf v12).toNat)
    case atStart => exact ⟨0, by omega, rfl, (rfl : few (l.take 0) = true), Below.refl _ _⟩
    case round =>
      obtain ⟨k, hk, rfl, hg, hb⟩ := hrel
      have HB := hid hb
      by_cases hlt : k < l.length
      · obtain ⟨b, off, rfl, _, d1, a1, c1, d2, d3, d4⟩ := (HR.out.below hb (Nat.le_refl _)).at k hlt
        have j1 : (k : Int) < (l.length : Int) := by omega
        have hz : l.getD k zWk = l.getD k (0, []) := rfl
        have HT := hid (all_take (p := fun w => decide (w.2.length ≤ 30)) hlt)
        have HN := hid (all_not (p := fun w => decide (w.2.length ≤ 30)) (l := l) (k := k) hlt)
        rw [hz] at d1 d2 d3
        generalize l.getD k (0, []) = x at *
        obtain ⟨cm, la⟩ := x
        simp only at d1 d2 d3
        clear hb d4
        by_cases hm : 30 < la.length
        · have j2 : (30 : Int) < (la.length : Int) := by omega
          have HX : Hid (few l = false) := HN.out (by simp; omega)
          clear hm
          go_wp2_with fail
          go_ret
          exact ⟨by rw [HE.out, if_pos HX.out]; rfl, HB.out.alloc HB.out.size _⟩
        · have j2 : ¬ (30 : Int) < (la.length : Int) := by omega
          have HX : Hid (few (l.take (k + 1)) = true) := by
            show few _ = true
            unfold few
            rw [HT.out]
            have := hg.out
            unfold few at this
            rw [this]
            simp; omega
          clear hm
          go_wp2_with fail
          go_roundw
          case rel => exact ⟨k + 1, by omega, by go_num, HX.out, HB.out.alloc HB.out.size _⟩
          case measure => simp [intOf]; omega
      · obtain rfl : k = l.length := by omega
        have hf := hg.out
        rw [HTK.out] at hf
        have HF := hid hf
        have HE2 : Hid (R = if good l = false then 4 else 0) := by
          show _ = _
          rw [HE.out, if_neg (by rw [HF.out]; decide)]
        clear hf hb
        go_wp2_with fail
        go_loopw [28] (fun v23 wr2 => ∃ k : Nat, k ≤ l.length ∧ v23 = .int .i64 k ∧ Hid (good (l.take k) = true) ∧ Below w.heap.size w wr2) (fun v23 _ => l.length - (intOf v23).toNat)
        case atStart => exact ⟨0, by omega, rfl, (rfl : good (l.take 0) = true), HB.out⟩
        case round =>
          obtain ⟨k, hk, rfl, hg2, hb2⟩ := hrel
          have HB2 := hid hb2
          by_cases hlt : k < l.length
          · obtain ⟨b, off, rfl, _, d1, a1, c1, d2, d3, d4⟩ := (HR.out.below hb2 (Nat.le_refl _)).at k hlt
            have j1 : (k : Int) < (l.length : Int) := by omega
            have hz : l.getD k zWk = l.getD k (0, []) := rfl
            have HT := hid (all_take (p := good1) hlt)
            have HN := hid (all_not (p := good1) (l := l) (k := k) hlt)
            have hmany : (l.getD k (0, [])).2.length ≤ 30 := by
              have := List.all_eq_true.1 HF.out (l.getD k (0, [])) (by simp [List.getD, hlt])
              simpa using this
            rw [hz] at d1 d2 d3 d4
            generalize l.getD k (0, []) = x at *
            obtain ⟨cm, la⟩ := x
            simp only at d1 d2 d3 d4 hmany
            have HD4 := hid (fun wx (hb : Below wr.heap.size wr wx) => d4.below hb (Nat.le_refl _))
            have HHC := hid (fun wx (hb : Below wr.heap.size wr wx) => HH.out cm la a1 c1 hmany la.length wx (d4.below hb (Nat.le_refl _)) (Nat.le_refl _))
            clear hb2 d4
            have HWB := hid ((Below.refl wr.heap.size wr).alloc (Nat.le_refl _) (.cells #[.int .i64 cm, .slice a1 la.length c1] 70))
            have HWX := hid (box_new wr #[.int .i64 cm, .slice a1 la.length c1] 70)
            go_wp2_with fail
            refine (HHC.out _ HWB.out).mono ?_
            rintro e w3 ⟨⟨v, o, rfl, ho, _, hh⟩, hb3⟩
            have HB3 := hid (HWB.out.trans (hb3.mono (by rw [World.size_alloc]; omega)))
            have HX3 := hid (box_below HWX.out hb3 (Nat.le_refl _))
            obtain ⟨a3, c3, rfl, _, _⟩ := owni_row ho
            have HO := hid ho
            have HHH := hid hh
            have x0 := box_cell HX3.out 0
            have x1 := box_cell HX3.out 1
            simp at x0 x1
            clear ho hh hb3
            go_wp2_with fail
            go_loopw [9, 43] (fun v9 v43 wr3 => ∃ j : Nat, j ≤ la.length ∧ v43 = .int .i64 j ∧ v9 = .int .i64 (lastR la j) ∧ Below w3.heap.size w3 wr3) (fun _ v43 _ => la.length - (intOf v43).toNat)
            case atStart => exact ⟨0, by omega, rfl, rfl, Below.refl _ _⟩
            case round =>
              obtain ⟨j, hj, rfl, rfl, hb4⟩ := hrel
              have HB4 := hid hb4
              have HBW := hid (HB3.out.trans (hb4.mono HB3.out.size))
              have HX4 := hid (box_below HX3.out hb4 (Nat.le_refl _))
              have y0 := box_cell HX4.out 0
              have y1 := box_cell HX4.out 1
              simp at y0 y1
              clear hb4 x0 x1
              by_cases hj2 : j < la.length
              · obtain ⟨b5, off5, hab, _, g1, g2⟩ := (HD4.out _ HBW.out).at j hj2
                subst hab
                have j5 : (j : Int) < (la.length : Int) := by omega
                have HL := hid (show lastR la (j + 1) = if (la.getD j zAc).1 = 1 then (j : Int) else lastR la j from rfl)
                generalize la.getD j zAc = x at *
                obtain ⟨x1, x2⟩ := x
                simp only at g1 g2 HL
                by_cases hq : x1 = 1
                · have HL2 := hid (show Value.int .i64 (j : Int) = Value.int .i64 (lastR la (j + 1)) by rw [HL.out, if_pos hq])
                  have q1 : (x1 == 1) = true := by simp [hq]
                  clear hq HL
                  go_wp2_with fail
                  go_roundw
                  case rel => exact ⟨j + 1, by omega, by go_num, HL2.out, HB4.out.alloc HB4.out.size _⟩
                  case measure => simp [intOf]; omega
                · have HL2 := hid (show lastR la (j + 1) = lastR la j by rw [HL.out, if_neg hq])
                  have q1 : (x1 == 1) = false := by simp [hq]
                  clear hq HL
                  go_wp2_with fail
                  go_roundw
                  case rel => exact ⟨j + 1, by omega, by go_num, by rw [HL2.out], HB4.out.alloc HB4.out.size _⟩
                  case measure => simp [intOf]; omega
              · obtain rfl : j = la.length := by omega
                have HBT := hid (fun W => btw_any cm 0 1000 W)
                have hlr := lastR_le la la.length
                have HLS := hid (show hasAt la la.length = some [] → (Form la ↔ (0 ≤ lastR la la.length ∧ tk2 (la.drop (lastR la la.length).toNat) = false)) from form_last)
                generalize lastR la la.length = L at *
                have HEND := hid (show good1 (cm, la) = false → R = 4 from fun q => by rw [HE2.out, if_pos]; exact HN.out q)
                have HFIN := hid (HB2.out.trans (HBW.out.mono HB2.out.size))
                cases hs : hasAt la la.length with
                | none =>
                  have HG := hid (HEND.out (by simp only [good1, decide_eq_false (fun f => form_no (l := la) (by rw [hs]; simp) f), Bool.and_false]))
                  simp only [Option.isSome_none]
                  clear hs
                  go_wp2_with fail
                  go_ret
                  exact ⟨by rw [HG.out]; rfl, HFIN.out⟩
                | some h =>
                  obtain rfl : o = h := HHH.out h hs
                  simp only [Option.isSome_some]
                  by_cases ho0 : o = []
                  · subst ho0
                    have HLT := hid (HLS.out hs)
                    clear hs
                    simp only [List.length_nil]
                    by_cases hcm : 0 ≤ cm ∧ cm ≤ 1000
                    · have HBT := hid (fun W => btw_true hcm W)
                      by_cases hL : L < 0
                      · have HG := hid (HEND.out (by simp only [good1, decide_eq_false (fun f => absurd (HLT.out.1 f).1 (by omega)), Bool.and_false]))
                        clear hcm
                        go_wp2_with (go_at_call 12; refine (HBT.out _).mono ?_; rintro e wb ⟨rfl, rfl⟩)
                        go_ret
                        exact ⟨by rw [HG.out]; rfl, HFIN.out⟩
                      · obtain ⟨m, rfl⟩ : ∃ m : Nat, L = (m : Int) := ⟨L.toNat, by omega⟩
                        have hml : m < la.length := by omega
                        obtain ⟨b5, off5, hab, _⟩ := (HD4.out _ HBW.out).at m hml
                        subst hab
                        have HAC := hid (acs_drop (HD4.out _ HBW.out) m)
                        have HCF := hid (wrHas_any (la.drop m) (by rw [List.length_drop]; omega) (some ⟨b5, off5 + m * 2, none⟩) (c1 - m) _ HAC.out)
                        rw [List.length_drop] at HCF
                        have s0 : ¬ ((m : Int) < 0) := by omega
                        have s1 : (m : Int) ≤ (la.length : Int) := by omega
                        have s2 : (la.length : Int) ≤ (c1 : Int) := by omega
                        have HIF : Hid (tk2 (la.drop m) = false ↔ Form la) := by
                          show _ ↔ _
                          have := HLT.out
                          rw [Int.toNat_natCast] at this
                          rw [this]
                          exact ⟨fun q => ⟨by omega, q⟩, fun q => q.2⟩
                        cases ht : tk2 (la.drop m) with
                        | true =>
                          have HG := hid (HEND.out (by simp only [good1, decide_eq_false (fun f => absurd (HIF.out.2 f) (by rw [ht]; decide)), Bool.and_false]))
                          rw [ht] at HCF
                          clear ht hcm
                          go_wp2_with (go_at_call 12; refine (HBT.out _).mono ?_; rintro e wb ⟨rfl, rfl⟩)
                          refine HCF.out.mono ?_
                          rintro e w5 ⟨rfl, hb5⟩
                          have HF5 := hid (HFIN.out.trans (hb5.mono HFIN.out.size))
                          clear hb5
                          go_wp2_with fail
                          go_ret
                          exact ⟨by rw [HG.out]; rfl, HF5.out⟩
                        | false =>
                          have HX : Hid (good (l.take (k + 1)) = true) := by
                            show good _ = true
                            unfold good
                            rw [HT.out]
                            have := hg2.out
                            unfold good at this
                            rw [this]
                            simp only [good1, decide_eq_true hcm, decide_eq_true (HIF.out.1 ht)]; rfl
                          rw [ht] at HCF
                          clear ht hcm
                          go_wp2_with (go_at_call 12; refine (HBT.out _).mono ?_; rintro e wb ⟨rfl, rfl⟩)
                          refine HCF.out.mono ?_
                          rintro e w5 ⟨rfl, hb5⟩
                          have HF5 := hid (HFIN.out.trans (hb5.mono HFIN.out.size))
                          clear hb5
                          go_wp2_with fail
                          go_roundw
                          case rel => exact ⟨k + 1, by omega, by go_num, HX.out, HF5.out⟩
                          case measure => simp [intOf]; omega
                    · have HBT := hid (fun W => btw_false hcm W)
                      have HG := hid (HEND.out (by simp only [good1, decide_eq_false hcm, Bool.false_and]))
                      clear hcm
                      go_wp2_with (go_at_call 12; refine (HBT.out _).mono ?_; rintro e wb ⟨rfl, rfl⟩)
                      go_ret
                      exact ⟨by rw [HG.out]; rfl, HFIN.out⟩
                  · have HG := hid (HEND.out (by simp only [good1, decide_eq_false (fun f => form_no (l := la) (by rw [hs]; simp [ho0]) f), Bool.and_false]))
                    obtain ⟨n, hn⟩ : ∃ n, o.length = n + 1 := ⟨o.length - 1, by have := List.length_pos_iff.2 ho0; omega⟩
                    rw [hn]
                    have hn0 : (0 : Int) < ((n + 1 : Nat) : Int) := by omega
                    generalize n + 1 = N at *
                    have hn1 : 0 < N := by omega
                    clear hs ho0 hn
                    go_wp2_with fail
                    go_ret
                    exact ⟨by rw [HG.out]; rfl, HFIN.out⟩
          · obtain rfl : k = l.length := by omega
            have hf := hg2.out
            rw [HTK.out] at hf
            have HX : Hid (R = 0) := by
              show _ = _
              rw [HE2.out, if_neg (by rw [hf]; decide)]
            clear hf hb2
            go_wp2_with fail
            go_ret
            exact ⟨by rw [HX.out]; rfl, HB2.out⟩
end LockC
end Go.Proofs.Ytllfpbngfkimlaa
