/- Contracts of the document's own answers about locks: HasNow. -/
import Derived.Test.YtllfpbngfkimlaaLokC
import Derived.Test.YtllfpbngfkimlaaLokA
set_option linter.unusedVariables false
namespace Go.Proofs.Ytllfpbngfkimlaa
open Go.RowKit
open Go.Shelf Go.Sort
open SpanM SpanC IntsC
open RowsO hiding Wk
namespace LockC
open LockM
open NumC (Row)
theorem units_lt {l : List LockM.Ac} {s : Nat} (h : s < (units 0 l).length) : (units 0 l).getD s 0 < l.length := by
  have hm : (units 0 l).getD s 0 ∈ units 0 l := by simp [List.getD, h]
  obtain ⟨_, h2, _⟩ := units_mem hm
  omega
theorem unitsI_at {l : List LockM.Ac} {s : Nat} (h : s < (units 0 l).length) : (unitsI l).getD s 0 = (((units 0 l).getD s 0 : Nat) : Int) := by
  unfold unitsI; simp [List.getD, h]
theorem past_same {l : List LockM.Ac} {m : Nat} (h : m < l.length) (e : (l.getD m zAc).1 = 3) : past l m = past l (m + 1) := by
  unfold past
  have e2 : l[m].1 = 3 := by rw [← e]; simp [List.getD, h]
  rw [List.drop_eq_getElem_cons h, List.takeWhile_cons, if_pos (by simpa using e2)]
  simp only [List.length_cons]; omega
theorem past_stop {l : List LockM.Ac} {m : Nat} (h : m < l.length) (e : (l.getD m zAc).1 ≠ 3) : past l m = m := by
  unfold past
  have e2 : l[m].1 ≠ 3 := by
    intro q; apply e; rw [← q]; simp [List.getD, h]
  rw [List.drop_eq_getElem_cons h, List.takeWhile_cons, if_neg (by simpa using e2)]
  simp
theorem past_len (l : List LockM.Ac) : past l l.length = l.length := by unfold past; simp
theorem HaP.now {l : List LockM.Ac} {j B : Nat} {e : Ending} {w' : World} {N : List Int} (h : HaP l j B e w') (hs : (hasAt l j).isSome) (hv : N = (hasAt l j).getD []) (hj : j ≤ 30) : ∃ v, e = .returned (.tuple #[v, .bool true]) ∧ OwnI w' B v N ∧ N.length ≤ 30 := by
  obtain ⟨v, o, h1, h2, h3, h4⟩ := h
  cases e0 : hasAt l j with
  | none => rw [e0] at hs; simp at hs
  | some q =>
    have := h4 q e0
    subst this
    rw [e0] at hv h1
    simp only [Option.getD_some] at hv
    subst hv
    exact ⟨v, h1, h2, by omega⟩
set_option maxRecDepth 20000 in
set_option maxHeartbeats 4000000 in
theorem HasNow_any (cm : Int) (l : List LockM.Ac) (a : Option Addr) (c : Nat) (hn : l.length ≤ 30) (he : hasAt l l.length = some []) (hfew : (unitsI l).length ≤ 3000) (b : Option Addr) (d : Nat) (r : Nat) (hr : r ≤ (unitsI l).length) (w : World) (hA : Acs w a l) (hU : Row w b (unitsI l)) :
    Calls Try.prog 35 #[.agg #[.int .i64 cm, .slice a l.length c], .slice b (unitsI l).length d, .int .i64 r] w fun e w' => (∃ v, e = .returned v ∧ OwnI w' w.heap.size v (hasNow l r) ∧ (hasNow l r).length ≤ 30) ∧ Below w.heap.size w w' := by
  have HR := hid hA
  have HU := hid hU
  have HS := hid (fun m (hm : m ≤ l.length) => hasAt_all he hm)
  clear hA hU he
  rcases r with _ | s
  · have e : hasNow l 0 = [] := rfl
    rw [e]
    clear e
    go_enter Try.func35, Try.ntmps35
    go_wp2_with fail
    go_ret
    exact ⟨⟨_, rfl, World.ownsRow_nil _ _ _ _, by simp⟩, (B1.start w _ _).bel⟩
  · have hs : s < (units 0 l).length := by rw [unitsI_len] at hr; omega
    have hj := units_lt hs
    have HN := hid (show hasNow l (s + 1) = if s + 1 = (units 0 l).length ∨ (units 0 l).getD (s + 1) 0 ≠ (units 0 l).getD s 0 then (hasAt l (past l ((units 0 l).getD s 0 + 1))).getD [] else (hasAt l ((units 0 l).getD s 0)).getD [] by
      unfold hasNow; rw [if_neg (by omega)]; simp only [Nat.add_sub_cancel])
    have HB := hid (B1.start w #[.int .i64 cm, .slice a l.length c] 70)
    have hU1 := Row.below HU.out HB.out.bel (Nat.le_refl _)
    obtain ⟨g, off, hab, _, dS⟩ := Row.at hU1 s (by rw [unitsI_len]; exact hs)
    rw [unitsI_at hs] at dS
    have HD := hid (fun (q : s + 1 < (units 0 l).length) => (Row.at hU1 (s + 1) (by rw [unitsI_len]; exact q)))
    have HUL := hid (unitsI_len l)
    have HUA := hid (fun (q : s + 1 < (units 0 l).length) => unitsI_at q)
    subst hab
    have hN := HUL.out
    generalize (units 0 l).getD s 0 = j at *
    generalize hn2 : (unitsI l).length = n at *
    have c0 := HB.out.c0 0
    have c1 := HB.out.c0 1
    simp at c0 c1
    rw [show (((s + 1 : Nat) : Int)) = (s : Int) + 1 by omega]
    have i0 : (((s : Int) + 1) == 0) = false := by simp; omega
    have i1 : (s : Int) < (n : Int) := by omega
    have hs3 : s < 3000 := by omega
    have hj30 : j < 30 := by omega
    have HL := hid hn
    have HJ := hid hj
    clear hU1 hn2
    by_cases hL : s + 1 = n
    · have HNN := hid (show hasNow l (s + 1) = (hasAt l (past l (j + 1))).getD [] by rw [HN.out, if_pos (.inl (by omega))])
      have i2 : ((s : Int) + 1 == (n : Int)) = true := by simp; omega
      clear hL hr hs hN hj hn
      go_enter Try.func35, Try.ntmps35
      go_wp2_with fail
      go_loopw [7] (fun v7 wr => ∃ m : Nat, j + 1 ≤ m ∧ m ≤ l.length ∧ v7 = .int .i64 m ∧ Hid (past l m = past l (j + 1)) ∧ Hid (B1 w wr #[.int .i64 cm, .slice a l.length c] 70)) (fun v7 _ => l.length - (intOf v7).toNat)
      case atStart => exact ⟨j + 1, by omega, by have := HJ.out; omega, by go_num, (rfl : past l (j + 1) = past l (j + 1)), HB.out⟩
      case round =>
        obtain ⟨m, hm1, hm2, rfl, hpa, hb⟩ := hrel
        have y0 := hb.out.c0 0
        have y1 := hb.out.c0 1
        simp at y0 y1
        by_cases hm : m < l.length
        · obtain ⟨ab, aoff, hab2, _, g1, g2⟩ := (HR.out.below hb.out.bel (Nat.le_refl _)).at m hm
          subst hab2
          have k1 : (m : Int) < (l.length : Int) := by omega
          have HPA := hid (fun q => past_same (l := l) (m := m) hm q)
          have HPB := hid (fun q => past_stop (l := l) (m := m) hm q)
          have hm30 : m < 30 := by have := HL.out; omega
          generalize l.getD m zAc = x at *
          obtain ⟨x1, x2⟩ := x
          simp only at g1 g2 HPA HPB
          by_cases hq3 : x1 = 3
          · have HP2 := hid ((HPA.out hq3).symm.trans hpa.out)
            have k2 : (x1 == 3) = true := by simp [hq3]
            clear hq3 HPA HPB
            go_wp2_with fail
            go_roundw
            case rel => exact ⟨m + 1, by omega, by omega, by go_num, HP2.out, hb.out⟩
            case measure => simp [intOf]; omega
          · have HPS := hid (HPB.out hq3)
            have k2 : (x1 == 3) = false := by simp [hq3]
            clear hq3 HPA HPB
            go_wp2_with fail
            refine (HasAt_any cm l _ c HL.out m _ (HR.out.below hb.out.bel (Nat.le_refl _)) (by omega)).mono ?_
            rintro e w5 ⟨hp, b5⟩
            obtain ⟨v, rfl, ho, hl⟩ := hp.now (N := hasNow l (s + 1)) (HS.out m (by omega)) (by rw [HNN.out, ← hpa.out, HPS.out]) (by have := HL.out; omega)
            have HF := hid (And.intro (OwnI.base' ho hb.out.bel.size) hl)
            have HB5 := hid (hb.out.bel.trans (b5.mono hb.out.bel.size))
            clear hp b5 ho hl
            go_wp2_with fail
            go_ret
            exact ⟨⟨v, rfl, HF.out.1, HF.out.2⟩, HB5.out⟩
        · obtain rfl : m = l.length := by omega
          have HPS := hid (past_len l)
          have k1 : ¬ (l.length : Int) < (l.length : Int) := by omega
          go_wp2_with fail
          refine (HasAt_any cm l _ c HL.out l.length _ (HR.out.below hb.out.bel (Nat.le_refl _)) (by omega)).mono ?_
          rintro e w5 ⟨hp, b5⟩
          obtain ⟨v, rfl, ho, hl⟩ := hp.now (N := hasNow l (s + 1)) (HS.out l.length (by omega)) (by rw [HNN.out, ← hpa.out, HPS.out]) (by have := HL.out; omega)
          have HF := hid (And.intro (OwnI.base' ho hb.out.bel.size) hl)
          have HB5 := hid (hb.out.bel.trans (b5.mono hb.out.bel.size))
          clear hp b5 ho hl
          go_wp2_with fail
          go_ret
          exact ⟨⟨v, rfl, HF.out.1, HF.out.2⟩, HB5.out⟩
    · have hlt : s + 1 < (units 0 l).length := by omega
      obtain ⟨g', off', hab, _, dT⟩ := HD.out hlt
      simp only [Option.some.injEq, Addr.mk.injEq, and_true] at hab
      obtain ⟨rfl, rfl⟩ := hab
      rw [HUA.out hlt] at dT
      have i2 : ((s : Int) + 1 == (n : Int)) = false := by simp; omega
      have i3 : (s : Int) + 1 < (n : Int) := by omega
      by_cases hq : (units 0 l).getD (s + 1) 0 = j
      · have HNN := hid (show hasNow l (s + 1) = (hasAt l j).getD [] by rw [HN.out, if_neg]; rintro (q | q); omega; exact q hq)
        rw [hq] at dT
        clear hL hr hs hN hj hn hq hlt
        go_enter Try.func35, Try.ntmps35
        go_wp2_with fail
        refine (HasAt_any cm l a c HL.out j _ (HR.out.below HB.out.bel (Nat.le_refl _)) (by have := HJ.out; omega)).mono ?_
        rintro e w5 ⟨hp, b5⟩
        obtain ⟨v, rfl, ho, hl⟩ := hp.now (N := hasNow l (s + 1)) (HS.out j (by have := HJ.out; omega)) HNN.out (by omega)
        have HF := hid (And.intro (OwnI.base' ho HB.out.bel.size) hl)
        have HB5 := hid (HB.out.bel.trans (b5.mono HB.out.bel.size))
        clear hp b5 ho hl
        go_wp2_with fail
        go_ret
        exact ⟨⟨v, rfl, HF.out.1, HF.out.2⟩, HB5.out⟩
      · have HNN := hid (show hasNow l (s + 1) = (hasAt l (past l (j + 1))).getD [] by rw [HN.out, if_pos (.inr hq)])
        have i4 : ((((units 0 l).getD (s + 1) 0 : Nat) : Int) != (j : Int)) = true := by simp only [bne_iff_ne, ne_eq]; intro q; apply hq; omega
        generalize (units 0 l).getD (s + 1) 0 = j2 at *
        clear hL hr hs hN hj hn hq hlt
        go_enter Try.func35, Try.ntmps35
        go_wp2_with fail
        go_loopw [7] (fun v7 wr => ∃ m : Nat, j + 1 ≤ m ∧ m ≤ l.length ∧ v7 = .int .i64 m ∧ Hid (past l m = past l (j + 1)) ∧ Hid (B1 w wr #[.int .i64 cm, .slice a l.length c] 70)) (fun v7 _ => l.length - (intOf v7).toNat)
        case atStart => exact ⟨j + 1, by omega, by have := HJ.out; omega, by go_num, (rfl : past l (j + 1) = past l (j + 1)), HB.out⟩
        case round =>
          obtain ⟨m, hm1, hm2, rfl, hpa, hb⟩ := hrel
          have y0 := hb.out.c0 0
          have y1 := hb.out.c0 1
          simp at y0 y1
          by_cases hm : m < l.length
          · obtain ⟨ab, aoff, hab2, _, g1, g2⟩ := (HR.out.below hb.out.bel (Nat.le_refl _)).at m hm
            subst hab2
            have k1 : (m : Int) < (l.length : Int) := by omega
            have HPA := hid (fun q => past_same (l := l) (m := m) hm q)
            have HPB := hid (fun q => past_stop (l := l) (m := m) hm q)
            have hm30 : m < 30 := by have := HL.out; omega
            generalize l.getD m zAc = x at *
            obtain ⟨x1, x2⟩ := x
            simp only at g1 g2 HPA HPB
            by_cases hq3 : x1 = 3
            · have HP2 := hid ((HPA.out hq3).symm.trans hpa.out)
              have k2 : (x1 == 3) = true := by simp [hq3]
              clear hq3 HPA HPB
              go_wp2_with fail
              go_roundw
              case rel => exact ⟨m + 1, by omega, by omega, by go_num, HP2.out, hb.out⟩
              case measure => simp [intOf]; omega
            · have HPS := hid (HPB.out hq3)
              have k2 : (x1 == 3) = false := by simp [hq3]
              clear hq3 HPA HPB
              go_wp2_with fail
              refine (HasAt_any cm l _ c HL.out m _ (HR.out.below hb.out.bel (Nat.le_refl _)) (by omega)).mono ?_
              rintro e w5 ⟨hp, b5⟩
              obtain ⟨v, rfl, ho, hl⟩ := hp.now (N := hasNow l (s + 1)) (HS.out m (by omega)) (by rw [HNN.out, ← hpa.out, HPS.out]) (by have := HL.out; omega)
              have HF := hid (And.intro (OwnI.base' ho hb.out.bel.size) hl)
              have HB5 := hid (hb.out.bel.trans (b5.mono hb.out.bel.size))
              clear hp b5 ho hl
              go_wp2_with fail
              go_ret
              exact ⟨⟨v, rfl, HF.out.1, HF.out.2⟩, HB5.out⟩
          · obtain rfl : m = l.length := by omega
            have HPS := hid (past_len l)
            have k1 : ¬ (l.length : Int) < (l.length : Int) := by omega
            go_wp2_with fail
            refine (HasAt_any cm l _ c HL.out l.length _ (HR.out.below hb.out.bel (Nat.le_refl _)) (by omega)).mono ?_
            rintro e w5 ⟨hp, b5⟩
            obtain ⟨v, rfl, ho, hl⟩ := hp.now (N := hasNow l (s + 1)) (HS.out l.length (by omega)) (by rw [HNN.out, ← hpa.out, HPS.out]) (by have := HL.out; omega)
            have HF := hid (And.intro (OwnI.base' ho hb.out.bel.size) hl)
            have HB5 := hid (hb.out.bel.trans (b5.mono hb.out.bel.size))
            clear hp b5 ho hl
            go_wp2_with fail
            go_ret
            exact ⟨⟨v, rfl, HF.out.1, HF.out.2⟩, HB5.out⟩
end LockC
end Go.Proofs.Ytllfpbngfkimlaa
