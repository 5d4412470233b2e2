/- LockFirst. -/
import Derived.Test.YteekbhnciapmjaaLkL2
set_option linter.unusedVariables false
namespace Go.Proofs.Yteekbhnciapmjaa
open Go.RowKit
open Go.Shelf Go.Sort
open SpanM SpanC IntsC
open RowsO hiding Wk
namespace LockC
open LockM
open NumC (Row)
theorem TP.drewN {w wr : World} {bx : Nat} {v1 v2 : Value} {R N : List Int} (h : TP w wr bx v1 v2 R N) (n : Nat) : TP w (wr.drewN n) bx v1 v2 R N := h.step (below_drewN (Below.refl _ _) n)
/-- all acts of the first k works run -/
def allRun (l : List LockM.Wk) (k : Nat) : Prop := ∀ i, i < k → ∀ a ∈ acts l i, a.1 = 1
theorem allRun_all {l : List LockM.Wk} (h : allRun l l.length) : ∀ w ∈ l, ∀ a ∈ w.2, a.1 = 1 := by
  intro w hw a ha
  obtain ⟨i, hi, rfl⟩ := List.getElem_of_mem hw
  refine h i hi a ?_
  unfold acts
  simpa [List.getD, hi] using ha
set_option maxRecDepth 20000 in
set_option maxHeartbeats 1000000 in
theorem lockFirst_skip (a0 : Option Addr) (cap0 : Nat) (l0 : List LockM.Wk) (n1 : Int) (w : World) (hr : RowsO.Wks w a0 l0) (q1 : Int) (e1 : plyE l0 n1 = q1) (he : (q1 != 0) = true) :
    Calls Try.prog 8 #[.slice a0 l0.length cap0, .int .i64 n1] w fun e w' => e = .returned (.bool true) ∧ Below w.heap.size w w' := by
  have HP1 := hid (fun wx hb => play_later l0 n1 a0 cap0 w hr wx hb)
  rw [e1] at HP1
  have HLV := hid (fun wx => lives wx)
  generalize plyR l0 n1 = R1 at *
  generalize plyN l0 n1 = N1 at *
  clear hr e1
  go_enter Try.func8, Try.ntmps8
  go_wp2_with (first | (go_at_call 17; refine (HP1.out _ (Below.refl _ _)).mono ?_; rintro e w1 ⟨⟨v1, v2, rfl, ho1, ho2⟩, hb1⟩; have T1 := hid (TP.start hb1 ho1 ho2); obtain ⟨a1, m1, c1, rfl⟩ := OwnI.slice ho1; obtain ⟨a2, m2, c2, rfl⟩ := OwnI.slice ho2; clear ho1 ho2 hb1) | (go_at_call 20; refine (HLV.out _).mono ?_; rintro e w3 ⟨rfl, hb3⟩; have T3 := hid (T1.out.step hb3); clear T1; have T1 := hid T3.out; clear T3 hb3))
  go_ret
  exact ⟨rfl, T1.out.bel⟩
set_option maxRecDepth 20000 in
set_option maxHeartbeats 1000000 in
theorem lockFirst_ok (a0 : Option Addr) (cap0 : Nat) (l0 : List LockM.Wk) (u : Nat) (w : World) (hr : RowsO.Wks w a0 l0) (e1 : plyE l0 u = 0) :
    Calls Try.prog 8 #[.slice a0 l0.length cap0, .int .i64 u] w fun e w' => e = .returned (.bool true) ∧ Below w.heap.size w w' := by
  have HP1 := hid (fun wx hb => play_later l0 u a0 cap0 w hr wx hb)
  obtain ⟨hk, _, hu2⟩ := plyE_ok e1
  have hl8 := hk.1
  rw [e1, plyR_ok e1, plyN_ok e1] at HP1
  have HLV := hid (fun wx => lives wx)
  have HR := hid hr
  have HR1 := hid (ranL_len (wks l0) u)
  have HN1 := hid (endL_len l0 u)
  have HALL := hid (fun (h : allRun l0 l0.length) t (ht : t < u) i (hi : i < l0.length) => (⟨whoI (wks l0) t, endV (wks l0) u i, ranL_at (wks l0) ht, endL_at l0 u hi, fun hc hn => by
    obtain ⟨b, hb, hbi⟩ := first_there hk (allRun_all h) hi ht (endV_spec hk hi u) (by show (l0.getD i (0, [])).1.toNat ≤ t; omega) hn
    exact ⟨b, whoI_eq.2 hb, hbi⟩, by rcases endV_spec hk hi u with ⟨h, _⟩ | ⟨_, h, _⟩ <;> omega⟩ : ∃ (x : Int) (y : Nat), (ranL (wks l0) u).getD t 0 = x ∧ (endL l0 u).getD i 0 = (y : Int) ∧ ((l0.getD i (0, [])).1 ≤ t → (y = 0 ∨ t < y) → ∃ b : Nat, x = (b : Int) ∧ b ≤ i) ∧ y ≤ 20000))
  have HM := hid (fun i (hi : i < l0.length) => (hk.at hi).many)
  have HA0 : Hid (allRun l0 0) := fun i hi => by omega
  generalize ranL (wks l0) u = R1 at *
  generalize endL l0 u = N1 at *
  clear hr e1 hk
  obtain ⟨n, hn⟩ : ∃ n, n = l0.length := ⟨_, rfl⟩
  have HNL := hid hn
  rw [← hn] at HP1 HN1 HALL HM hl8 ⊢
  clear hn
  go_enter Try.func8, Try.ntmps8
  go_wp2_with (first | (go_at_call 17; refine (HP1.out _ (Below.refl _ _)).mono ?_; rintro e w1 ⟨⟨v1, v2, rfl, ho1, ho2⟩, hb1⟩; have T1 := hid (TP.start hb1 ho1 ho2); obtain ⟨a1, c1, rfl, _⟩ := row_of ho1 HR1.out; obtain ⟨a2, c2, rfl, _⟩ := row_of ho2 HN1.out; clear ho1 ho2 hb1) | (go_at_call 20; refine (HLV.out _).mono ?_; rintro e w3 ⟨rfl, hb3⟩; have T3 := hid (T1.out.step hb3); clear T1; have T1 := hid T3.out; clear T3 hb3; have f0 := T1.out.c0; have f1 := T1.out.c1))
  clear f0 f1
  go_loopw [49] (fun v49 wr => ∃ (k : Nat), k ≤ n ∧ v49 = .int .i64 k ∧ Hid (TP w wr w1.heap.size (.slice a1 u c1) (.slice a2 n c2) R1 N1) ∧ Hid (allRun l0 k)) (fun v49 _ => n - (intOf v49).toNat)
  case atStart => exact ⟨0, by omega, rfl, T1.out, HA0.out⟩
  case round =>
    obtain ⟨k, hkn, rfl, hT, hA⟩ := hrel
    by_cases hlt : k < n
    · have i1 : (k : Int) < (n : Int) := by omega
      have hkl : k < l0.length := by have := HNL.out; omega
      obtain ⟨b, off, rfl, hbw, d1', av, cv, d2', d3, d4⟩ := HR.out.at k hkl
      have d1 := (hT.out.bel.cell (by simpa using hbw)).trans d1'
      have d2 := (hT.out.bel.cell (by simpa using hbw)).trans d2'
      have hz : l0.getD k zWk = l0.getD k (0, []) := rfl
      have hac : acts l0 k = (l0.getD k (0, [])).2 := rfl
      have hm30 := HM.out k hlt
      rw [hz] at d1 d2 d4
      have HAC := hid hac
      clear d1' d2' d3 hz hac
      generalize l0.getD k (0, []) = x at *
      obtain ⟨cm, la⟩ := x
      simp only at d1 d2 d4 hm30 HAC
      have HD4 := hid d4
      clear d4
      go_wp2_with fail
      have HT0 := hid (hT.out.alloc (.cells #[.int .i64 cm, .slice av la.length cv] 42))
      clear hT d1 d2
      go_loopw [56] (fun v56 wr => ∃ (j : Nat), j ≤ la.length ∧ v56 = .int .i64 j ∧ Hid (TP w wr w1.heap.size (.slice a1 u c1) (.slice a2 n c2) R1 N1) ∧ Hid (∀ i (h : i < la.length), i < j → la[i].1 = 1)) (fun v56 _ => la.length - (intOf v56).toNat)
      case atStart => exact ⟨0, by omega, rfl, HT0.out, fun i _ h => by omega⟩
      case round =>
        obtain ⟨j, hjl, rfl, hT2, hJ⟩ := hrel
        by_cases hlt2 : j < la.length
        · have i2 : (j : Int) < (la.length : Int) := by omega
          obtain ⟨b2, o2, rfl, _, g1, g2⟩ := (HD4.out.below hT2.out.bel (Nat.le_refl _)).at j hlt2
          rw [ac_at hlt2] at g1 g2
          by_cases hq : la[j].1 = 1
          · have HJ2 : Hid (∀ i (h : i < la.length), i < j + 1 → la[i].1 = 1) := by
              show ∀ i (h : i < la.length), i < j + 1 → la[i].1 = 1
              intro i hi hij
              rcases Nat.lt_or_ge i j with g | g
              · exact hJ.out i hi g
              · have : i = j := by omega
                subst this; exact hq
            rw [hq] at g1
            generalize la[j].2 = z2 at *
            clear hq
            go_wp2_with fail
            go_roundw
            case rel => exact ⟨j + 1, by omega, by go_num, hT2.out.alloc _, HJ2.out⟩
            case measure => simp [intOf]; omega
          · have q1 : (la[j].1 != 1) = true := by simpa using hq
            generalize la[j].1 = z1 at *
            generalize la[j].2 = z2 at *
            clear hq
            go_wp2_with fail
            go_ret
            exact ⟨rfl, (hT2.out.alloc _).bel⟩
        · have i2 : ¬ (j : Int) < (la.length : Int) := by omega
          have HA2 : Hid (allRun l0 (k + 1)) := by
            intro i hi a ha
            rcases Nat.lt_or_ge i k with g | g
            · exact hA.out i g a ha
            · have : i = k := by omega
              subst this
              rw [HAC.out] at ha
              obtain ⟨p, hp, rfl⟩ := List.getElem_of_mem ha
              exact hJ.out p hp (by omega)
          go_wp2_with fail
          go_roundw
          case rel => exact ⟨k + 1, by omega, by go_num, hT2.out, HA2.out⟩
          case measure => simp [intOf]; omega
    · have i1 : ¬ (k : Int) < (n : Int) := by omega
      have HAL := hid (HALL.out (by have := hA.out; have e : k = n := by omega
                                    rwa [e] at this))
      have f0 := hT.out.c0
      go_wp2_with fail
      clear f0
      go_loopw [68] (fun v68 wr => ∃ (t : Nat), t ≤ u ∧ v68 = .int .i64 t ∧ Hid (TP w wr w1.heap.size (.slice a1 u c1) (.slice a2 n c2) R1 N1)) (fun v68 _ => u - (intOf v68).toNat)
      case atStart => exact ⟨0, by omega, rfl, hT.out⟩
      case round =>
        obtain ⟨t, htu, rfl, hT3⟩ := hrel
        by_cases hlt3 : t < u
        · have i3 : (t : Int) < (u : Int) := by omega
          obtain ⟨_, _, ew1, hrow1⟩ := row_of hT3.out.r HR1.out
          simp only [Value.slice.injEq] at ew1
          obtain ⟨rfl, _, rfl⟩ := ew1
          obtain ⟨b1, o1, rfl, _, d1⟩ := Row.at hrow1 t (by rw [HR1.out]; exact hlt3)
          have HX := hid (HAL.out t hlt3)
          have HXR := hid (rfl : R1.getD t 0 = R1.getD t 0)
          obtain ⟨x, hx⟩ : ∃ x, x = R1.getD t 0 := ⟨_, rfl⟩
          rw [← hx] at d1
          have HXE := hid hx
          clear hrow1 hx
          go_wp2_with fail
          have HT4 := hid hT3.out
          clear d1 hT3 hT
          go_loopw [75] (fun v75 wr => ∃ (i : Nat), i ≤ n ∧ v75 = .int .i64 i ∧ Hid (TP w wr w1.heap.size (.slice (some ⟨b1, o1, none⟩) u c1) (.slice a2 n c2) R1 N1)) (fun v75 _ => n - (intOf v75).toNat)
          case atStart => exact ⟨0, by omega, rfl, HT4.out⟩
          case round =>
            obtain ⟨i, hin, rfl, hT5⟩ := hrel
            have f1 := hT5.out.c1
            by_cases hlt4 : i < n
            · have i4 : (i : Int) < (n : Int) := by omega
              have hil : i < l0.length := by have := HNL.out; omega
              obtain ⟨b, off, rfl, hbw, d1', av, cv, d2', d3, d4⟩ := HR.out.at i hil
              have d1 := (hT5.out.bel.cell (by simpa using hbw)).trans d1'
              have hz : l0.getD i zWk = l0.getD i (0, []) := rfl
              rw [hz] at d1
              clear d1' d2' d3 d4 hz
              obtain ⟨_, _, ew2, hrow2⟩ := row_of hT5.out.e HN1.out
              simp only [Value.slice.injEq] at ew2
              obtain ⟨rfl, _, rfl⟩ := ew2
              obtain ⟨b2, o2, rfl, _, d2⟩ := Row.at hrow2 i (by rw [HN1.out]; exact hlt4)
              obtain ⟨x', y, ex, ey, hth, hy2⟩ := HX.out i hlt4
              rw [← HXE.out] at ex
              subst ex
              rw [ey] at d2
              have HTH := hid hth
              generalize (l0.getD i (0, [])).1 = cm at *
              clear hrow2 ey hth
              by_cases hc : cm ≤ (t : Int)
              · by_cases hn : y = 0 ∨ t < y
                · obtain ⟨p, rfl, hpi⟩ := HTH.out hc hn
                  have j1 : ¬ (p : Int) < 0 := by omega
                  have j2 : ¬ (i : Int) < (p : Int) := by omega
                  by_cases hy0 : y = 0
                  · subst hy0
                    clear hn
                    go_wp2_with fail
                    go_roundw
                    case rel => exact ⟨i + 1, by omega, by go_num, hT5.out⟩
                    case measure => simp [intOf]; omega
                  · have j3 : ((y : Int) == 0) = false := by simp; omega
                    have j4 : (t : Int) < (y : Int) := by omega
                    clear hn hy0
                    go_wp2_with fail
                    go_roundw
                    case rel => exact ⟨i + 1, by omega, by go_num, hT5.out⟩
                    case measure => simp [intOf]; omega
                · have j3 : ((y : Int) == 0) = false := by simp; omega
                  have j4 : ¬ (t : Int) < (y : Int) := by omega
                  clear hn
                  go_wp2_with fail
                  go_roundw
                  case rel => exact ⟨i + 1, by omega, by go_num, hT5.out⟩
                  case measure => simp [intOf]; omega
              · go_wp2_with fail
                go_roundw
                case rel => exact ⟨i + 1, by omega, by go_num, hT5.out⟩
                case measure => simp [intOf]; omega
            · have i4 : ¬ (i : Int) < (n : Int) := by omega
              go_wp2_with fail
              go_roundw
              case rel => exact ⟨t + 1, by omega, by go_num, hT5.out⟩
              case measure => simp [intOf]; omega
        · have i3 : ¬ (t : Int) < (u : Int) := by omega
          go_wp2_with fail
          go_ret
          exact ⟨rfl, hT3.out.bel⟩
theorem lockFirst_walk (a0 : Option Addr) (len0 cap0 : Nat) (l0 : List RowsO.Wk) (n1 : Int) (w : World) (w0 : RowsO.IsWks w a0 len0 cap0 l0) (w1 : SpanC.wf64 n1) :
    Calls Try.prog 8 #[.slice a0 len0 cap0, .int .i64 n1] w fun e w' => e = .returned (.bool true) ∧ Below w.heap.size w w' := by
  obtain ⟨rfl, hc, _, hr, _⟩ := w0
  by_cases h1 : plyE l0 n1 = 0
  · obtain ⟨_, g1, _⟩ := plyE_ok h1
    obtain ⟨u, rfl⟩ : ∃ u : Nat, n1 = u := ⟨n1.toNat, by omega⟩
    exact lockFirst_ok a0 cap0 l0 u w hr h1
  · exact lockFirst_skip a0 cap0 l0 n1 w hr _ rfl (by simpa using h1)
end LockC
end Go.Proofs.Yteekbhnciapmjaa
