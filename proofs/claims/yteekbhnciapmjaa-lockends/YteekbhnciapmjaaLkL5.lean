/- LockEnds. -/
import Derived.Test.YteekbhnciapmjaaLkL2
set_option linter.unusedVariables false
namespace Go.Proofs.Yteekbhnciapmjaa
open Go.RowKit
open Go.Shelf Go.Sort
open SpanM SpanC IntsC
open RowsO hiding Wk
namespace LockC
open LockM
open NumC (Row)
/-- the last one that comes, of the first k -/
def lastK (w : Wks) : Nat → Nat
  | 0 => 0
  | k + 1 => max (lastK w k) (w.came k)
theorem lastK_ge (w : Wks) : ∀ n j, j < n → w.came j ≤ lastK w n := by
  intro n
  induction n with
  | zero => intro j h; omega
  | succ n ih =>
    intro j h
    simp only [lastK]
    rcases Nat.lt_or_ge j n with q | q
    · have := ih j q; omega
    · have : j = n := by omega
      subst this; omega
set_option maxRecDepth 20000 in
set_option maxHeartbeats 1000000 in
theorem lockEnds_skip (a0 : Option Addr) (cap0 : Nat) (l0 : List LockM.Wk) (n1 : Int) (w : World) (hr : RowsO.Wks w a0 l0) (q1 : Int) (e1 : plyE l0 n1 = q1) (he : (q1 != 0) = true) :
    Calls Try.prog 6 #[.slice a0 l0.length cap0, .int .i64 n1] w fun e w' => e = .returned (.bool true) ∧ Below w.heap.size w w' := by
  have HP1 := hid (fun wx hb => play_later l0 n1 a0 cap0 w hr wx hb)
  rw [e1] at HP1
  have HLV := hid (fun wx => lives wx)
  generalize plyR l0 n1 = R1 at *
  generalize plyN l0 n1 = N1 at *
  clear hr e1
  go_enter Try.func6, Try.ntmps6
  go_wp2_with (first | (go_at_call 17; refine (HP1.out _ (Below.refl _ _)).mono ?_; rintro e w1 ⟨⟨v1, v2, rfl, ho1, ho2⟩, hb1⟩; have T1 := hid (TP.start hb1 ho1 ho2); obtain ⟨a1, m1, c1, rfl⟩ := OwnI.slice ho1; obtain ⟨a2, m2, c2, rfl⟩ := OwnI.slice ho2; clear ho1 ho2 hb1) | (go_at_call 20; refine (HLV.out _).mono ?_; rintro e w3 ⟨rfl, hb3⟩; have T3 := hid (T1.out.step hb3); clear T1; have T1 := hid T3.out; clear T3 hb3))
  go_ret
  exact ⟨rfl, T1.out.bel⟩
/-- what LockEnds looks at, of one work: when it comes, when it ends, who runs -/
structure EndK (l : List LockM.Wk) (u i c E : Nat) : Prop where
  hc : (wks l).came i = c
  e : EndP (wks l) u i E
  lt : i < l.length
set_option maxRecDepth 20000 in
set_option maxHeartbeats 1000000 in
theorem lockEnds_ok (a0 : Option Addr) (cap0 : Nat) (l0 : List LockM.Wk) (u : Nat) (w : World) (hr : RowsO.Wks w a0 l0) (e1 : plyE l0 u = 0) :
    Calls Try.prog 6 #[.slice a0 l0.length cap0, .int .i64 u] w fun e w' => e = .returned (.bool true) ∧ Below w.heap.size w w' := by
  have HP1 := hid (fun wx hb => play_later l0 u a0 cap0 w hr wx hb)
  obtain ⟨hk, _, hu2⟩ := plyE_ok e1
  have HK := hid hk
  have hl8 := hk.1
  rw [e1, plyR_ok e1, plyN_ok e1] at HP1
  have HLV := hid (fun wx => lives wx)
  have HR := hid hr
  have HR1 := hid (ranL_len (wks l0) u)
  have HN1 := hid (endL_len l0 u)
  have HRA := hid (fun t (ht : t < u) => ranL_at (wks l0) ht)
  have HEA := hid (fun i (hi : i < l0.length) => (⟨_, endL_at l0 u hi, endV_spec hk hi u⟩ : ∃ E : Nat, (endL l0 u).getD i 0 = (E : Int) ∧ EndP (wks l0) u i E))
  generalize hgR : ranL (wks l0) u = R1 at *
  generalize hgN : endL l0 u = N1 at *
  clear hr e1 hk hgR hgN
  obtain ⟨n, hn⟩ : ∃ n, n = l0.length := ⟨_, rfl⟩
  have HNL := hid hn
  rw [← hn] at HP1 HN1 HEA hl8 ⊢
  clear hn
  go_enter Try.func6, Try.ntmps6
  go_wp2_with (first | (go_at_call 17; refine (HP1.out _ (Below.refl _ _)).mono ?_; rintro e w1 ⟨⟨v1, v2, rfl, ho1, ho2⟩, hb1⟩; have T1 := hid (TP.start hb1 ho1 ho2); obtain ⟨a1, c1, rfl, _⟩ := row_of ho1 HR1.out; obtain ⟨a2, c2, rfl, _⟩ := row_of ho2 HN1.out; clear ho1 ho2 hb1) | (go_at_call 20; refine (HLV.out _).mono ?_; rintro e w3 ⟨rfl, hb3⟩; have T3 := hid (T1.out.step hb3); clear T1; have T1 := hid T3.out; clear T3 hb3; have f0 := T1.out.c0; have f1 := T1.out.c1))
  clear f0 f1
  go_loopw [7, 8, 50] (fun v7 v8 v50 wr => ∃ (k : Nat), k ≤ n ∧ v50 = .int .i64 k ∧ v7 = .int .i64 (lastK (wks l0) k) ∧ v8 = .int .i64 (LockM.sum (wks l0).T k) ∧ Hid (TP w wr w1.heap.size (.slice a1 u c1) (.slice a2 n c2) R1 N1) ∧ lastK (wks l0) k ≤ 1000 ∧ LockM.sum (wks l0).T k ≤ 3000 * k) (fun _ _ v50 _ => n - (intOf v50).toNat)
  case atStart => exact ⟨0, by omega, rfl, rfl, rfl, T1.out, by simp [lastK], by simp [LockM.sum]⟩
  case round =>
    obtain ⟨k, hkn, rfl, rfl, rfl, hT, hb1, hb2⟩ := hrel
    by_cases hlt : k < n
    · have i1 : (k : Int) < (n : Int) := by omega
      have hkl : k < l0.length := by have := HNL.out; omega
      obtain ⟨b, off, rfl, hbw, d1', av, cv, d2', d3, d4⟩ := HR.out.at k hkl
      have d1 := (hT.out.bel.cell (by simpa using hbw)).trans d1'
      have d2 := (hT.out.bel.cell (by simpa using hbw)).trans d2'
      have hz : l0.getD k zWk = l0.getD k (0, []) := rfl
      have hok := HK.out.at hkl
      have hcome := hok.come
      have hm30 := hok.many
      have hrb := run_bd hok
      have hfew := unitsI_few (l := (l0.getD k (0, [])).2) (fun x hx e => (hrb x hx e).2)
      have HLK : Hid (lastK (wks l0) (k + 1) = max (lastK (wks l0) k) (l0.getD k (0, [])).1.toNat) := rfl
      have HSK : Hid (LockM.sum (wks l0).T (k + 1) = LockM.sum (wks l0).T k + (unitsI (l0.getD k (0, [])).2).length) := by
        show _ = _
        rw [unitsI_len]; rfl
      rw [hz] at d1 d2 d4
      clear d1' d2' d3 hz hok
      generalize l0.getD k (0, []) = x at *
      obtain ⟨cm, la⟩ := x
      simp only at d1 d2 d4 hm30 hcome hrb hfew HLK HSK
      obtain ⟨cn, rfl⟩ : ∃ cn : Nat, cm = cn := ⟨cm.toNat, by omega⟩
      rw [Int.toNat_natCast] at HLK
      have HUN := hid (fun wx (hb : Below w.heap.size w wx) => Units_any cn la av cv wx (d4.below hb (Nat.le_refl _)) hm30 hrb)
      generalize lastK (wks l0) k = LK at *
      generalize LockM.sum (wks l0).T k = SK at *
      have hmx : (max (LK : Int) (cn : Int)) = ((max LK cn : Nat) : Int) := by omega
      clear d4 hrb
      go_wp2_with (go_at_call 21; refine (HUN.out _ (hT.out.alloc _).bel).mono ?_; rintro e w4 ⟨⟨v4, rfl, ho4⟩, hb4⟩; obtain ⟨a4, c4, rfl, _⟩ := row_of ho4 rfl; have HT4 := hid ((hT.out.alloc _).step hb4); clear ho4 hb4)
      go_roundw
      case rel => exact ⟨k + 1, by omega, by go_num, by rw [HLK.out], by rw [HSK.out]; go_num, HT4.out, by rw [HLK.out]; omega, by rw [HSK.out]; omega⟩
      case measure => simp [intOf]; omega
    · obtain rfl : k = n := by omega
      have i1 : ¬ (k : Int) < (k : Int) := by omega
      have f1 := hT.out.c1
      have HDN := hid (fun i (hi : i < l0.length) E (e : EndP (wks l0) u i E) (hT : lastK (wks l0) k + LockM.sum (wks l0).T k ≤ u) => end_done HK.out hi (last := lastK (wks l0) k) (fun j hj => lastK_ge (wks l0) k j (by have := HNL.out; omega)) (by have e9 : k = l0.length := HNL.out; rw [← e9]; exact hT) e)
      generalize lastK (wks l0) k = LK at *
      generalize LockM.sum (wks l0).T k = SK at *
      have hSK : SK ≤ 24000 := by omega
      clear hb2
      go_wp2_with fail
      have HT0 := hid hT.out
      clear f1 hT
      go_loopw [67] (fun v67 wr => ∃ (i : Nat), i ≤ k ∧ v67 = .int .i64 i ∧ Hid (TP w wr w1.heap.size (.slice a1 u c1) (.slice a2 k c2) R1 N1)) (fun v67 _ => k - (intOf v67).toNat)
      case atStart => exact ⟨0, by omega, rfl, HT0.out⟩
      case round =>
        obtain ⟨i, hin, rfl, hT2⟩ := hrel
        by_cases hlt2 : i < k
        · have i2 : (i : Int) < (k : Int) := by omega
          have hil : i < l0.length := by have := HNL.out; omega
          obtain ⟨_, _, ew2, hrow2⟩ := row_of hT2.out.e HN1.out
          simp only [Value.slice.injEq] at ew2
          obtain ⟨rfl, _, rfl⟩ := ew2
          obtain ⟨b2, o2, rfl, _, d2⟩ := Row.at hrow2 i (by rw [HN1.out]; exact hlt2)
          obtain ⟨E, eE, hE⟩ := HEA.out i hlt2
          rw [eE] at d2
          have hEb : E ≤ u := by rcases hE with ⟨h, _⟩ | ⟨_, h, _⟩ <;> omega
          have HE := hid hE
          have hdn := HDN.out i hil E hE
          have f0 := hT2.out.c0
          obtain ⟨b, off, rfl, hbw, g1', av, cv, g2', g3, g4⟩ := HR.out.at i hil
          have hz : l0.getD i zWk = l0.getD i (0, []) := rfl
          have hok := HK.out.at hil
          have hcome := hok.come
          have hm30 := hok.many
          have hrb := run_bd hok
          have hfew := unitsI_few (l := (l0.getD i (0, [])).2) (fun x hx e => (hrb x hx e).2)
          have HTI : Hid ((wks l0).T i = (unitsI (l0.getD i (0, [])).2).length) := by
            show _ = _
            rw [unitsI_len]; rfl
          have HCI : Hid ((wks l0).came i = (l0.getD i (0, [])).1.toNat) := rfl
          rw [hz] at g1' g2' g4
          clear hrow2 eE hE hz hok g3
          generalize l0.getD i (0, []) = x at *
          obtain ⟨cm, la⟩ := x
          simp only at g1' g2' g4 hm30 hcome hrb hfew HTI HCI
          obtain ⟨cn, rfl⟩ : ∃ cn : Nat, cm = cn := ⟨cm.toNat, by omega⟩
          rw [Int.toNat_natCast] at HCI
          have HUN := hid (fun wx (hb : Below w.heap.size w wx) => Units_any cn la av cv wx (g4.below hb (Nat.le_refl _)) hm30 hrb)
          have HG1 := hid (fun wx (hb : Below w.heap.size w wx) => (hb.cell (by simpa using hbw)).trans g1')
          have HG2 := hid (fun wx (hb : Below w.heap.size w wx) => (hb.cell (by simpa using hbw)).trans g2')
          clear g4 hrb g1' g2'
          by_cases hE0 : 0 < E
          · have p1 : ((E : Int) == 0) = false := beq_eq_false_iff_ne.2 (by omega)
            go_wp2_with fail
            have HT3 := hid hT2.out
            clear d2 f0 hT2
            go_loopw [13, 84] (fun v13 v84 wr => ∃ (t : Nat), t ≤ u ∧ v84 = .int .i64 t ∧ v13 = .int .i64 (st (wks l0) t i) ∧ Hid (TP w wr w1.heap.size (.slice a1 u c1) (.slice (some ⟨b2, o2, none⟩) k c2) R1 N1)) (fun _ v84 _ => u - (intOf v84).toNat)
            case atStart => exact ⟨0, by omega, rfl, rfl, HT3.out⟩
            case round =>
              obtain ⟨t, htu, rfl, rfl, hT4⟩ := hrel
              have hst : st (wks l0) t i ≤ 3000 := by
                have h1 := most l0 HK.out t i hil
                rw [HTI.out] at h1
                omega
              have f0 := hT4.out.c0
              by_cases hlt3 : t < u
              · have i3 : (t : Int) < (u : Int) := by omega
                obtain ⟨_, _, ew1, hrow1⟩ := row_of hT4.out.r HR1.out
                simp only [Value.slice.injEq] at ew1
                obtain ⟨rfl, _, rfl⟩ := ew1
                obtain ⟨b1, o1, rfl, _, d1⟩ := Row.at hrow1 t (by rw [HR1.out]; exact hlt3)
                rw [HRA.out t hlt3] at d1
                have g1 := HG1.out _ hT4.out.bel
                have hstep := st_step (w := wks l0) (i := i) (t := t)
                clear hrow1
                by_cases hwi : who (wks l0) t = some i
                · rw [if_pos hwi] at hstep
                  have HSTP := hid hstep
                  have hcm := run_come hwi
                  rw [HCI.out] at hcm
                  have hre := run_end hwi HE.out
                  rw [whoI_eq.2 hwi] at d1
                  have q1 : ¬ (t : Int) < (cn : Int) := by omega
                  have q5 : ¬ (i : Int) < 0 := by omega
                  clear hstep hwi
                  generalize st (wks l0) t i = s at *
                  have q2 : ¬ (E : Int) ≤ (t : Int) := by have := hre hE0; omega
                  have q3 : (0 : Int) < (E : Int) := by omega
                  have q4 : ((E : Int) == 0) = false := beq_eq_false_iff_ne.2 (by omega)
                  go_wp2_with fail
                  go_roundw
                  case rel => exact ⟨t + 1, by omega, by go_num, by rw [HSTP.out]; go_num, hT4.out⟩
                  case measure => simp [intOf]; omega
                · rw [if_neg hwi] at hstep
                  have HSTP := hid hstep
                  have hne : whoI (wks l0) t ≠ (i : Int) := fun e => hwi (whoI_eq.1 e)
                  have q1 : (whoI (wks l0) t == (i : Int)) = false := beq_eq_false_iff_ne.2 hne
                  rcases whoI_cases (wks l0) t with hm | ⟨p, _, hm⟩
                  · have hid9 := idle HK.out hil hlt3 (whoI_neg.1 (by rw [hm]; decide)) HE.out
                    rw [HCI.out] at hid9
                    rw [hm] at d1 q1
                    clear hstep hwi hne hm
                    generalize st (wks l0) t i = s at *
                    by_cases hct : cn ≤ t
                    · have q6 : (cn : Int) ≤ (t : Int) := by omega
                      have q2 : ¬ (t : Int) < (E : Int) := by
                        intro h
                        exact hid9 ⟨hct, .inr (by omega)⟩
                      have q4 : ((E : Int) == 0) = false := beq_eq_false_iff_ne.2 (by omega)
                      go_wp2_with fail
                      go_roundw
                      case rel => exact ⟨t + 1, by omega, by go_num, by rw [HSTP.out]; go_num, hT4.out⟩
                      case measure => simp [intOf]; omega
                    · have q6 : ¬ (cn : Int) ≤ (t : Int) := by omega
                      go_wp2_with fail
                      go_roundw
                      case rel => exact ⟨t + 1, by omega, by go_num, by rw [HSTP.out]; go_num, hT4.out⟩
                      case measure => simp [intOf]; omega
                  · rw [hm] at d1 q1
                    have q5 : ¬ (p : Int) < 0 := by omega
                    clear hstep hwi hne hm
                    generalize st (wks l0) t i = s at *
                    go_wp2_with fail
                    go_roundw
                    case rel => exact ⟨t + 1, by omega, by go_num, by rw [HSTP.out]; go_num, hT4.out⟩
                    case measure => simp [intOf]; omega
              · have i3 : ¬ (t : Int) < (u : Int) := by omega
                obtain rfl : t = u := by omega
                have hall := end_all HK.out hil HE.out hE0
                rw [HTI.out] at hall
                have hlast := whoI_eq.2 (end_last HE.out hE0)
                have HR9 := hid (HRA.out (E - 1) (by omega))
                obtain ⟨_, _, ew1, hrow1⟩ := row_of hT4.out.r HR1.out
                simp only [Value.slice.injEq] at ew1
                obtain ⟨rfl, _, rfl⟩ := ew1
                obtain ⟨b1, o1, rfl, _, d1⟩ := Row.at hrow1 (E - 1) (by rw [HR1.out]; omega)
                rw [HR9.out, hlast] at d1
                obtain ⟨E', rfl⟩ : ∃ E', E = E' + 1 := ⟨E - 1, by omega⟩
                rw [Nat.add_sub_cancel] at d1
                have q3 : (0 : Int) < ((E' + 1 : Nat) : Int) := by omega
                have q7 : ((E' : Int) + 1 - 1) = (E' : Int) := by omega
                have q8 : (E' : Int) < (t : Int) := by omega
                have g1 := HG1.out _ hT4.out.bel
                have g2 := HG2.out _ hT4.out.bel
                have HALL := hid hall
                rw [hall]
                generalize hUL : (unitsI la).length = UL at *
                clear hrow1 hall hlast
                go_wp2_with (go_at_call 21; refine (HUN.out _ hT4.out.bel).mono ?_; rintro e w4 ⟨⟨v4, rfl, ho4⟩, hb4⟩; obtain ⟨a4, c4, rfl, _⟩ := row_of ho4 hUL; have HT5 := hid (hT4.out.step hb4); have f5 := HT5.out.c0; have d5 := (hb4.cell (by simpa using World.block_lt_of_cell? _ _ d1)).trans d1; clear ho4 hb4)
                go_roundw
                case rel => exact ⟨i + 1, by omega, by go_num, HT5.out⟩
                case measure => simp [intOf]; omega
          · obtain rfl : E = 0 := by omega
            have p2 : ¬ (LK : Int) + (SK : Int) ≤ (u : Int) := by
              intro h
              have := hdn (by omega)
              omega
            go_wp2_with fail
            have HT3 := hid hT2.out
            clear d2 f0 hT2
            go_loopw [13, 84] (fun v13 v84 wr => ∃ (t : Nat), t ≤ u ∧ v84 = .int .i64 t ∧ v13 = .int .i64 (st (wks l0) t i) ∧ Hid (TP w wr w1.heap.size (.slice a1 u c1) (.slice (some ⟨b2, o2, none⟩) k c2) R1 N1)) (fun _ v84 _ => u - (intOf v84).toNat)
            case atStart => exact ⟨0, by omega, rfl, rfl, HT3.out⟩
            case round =>
              obtain ⟨t, htu, rfl, rfl, hT4⟩ := hrel
              have hst : st (wks l0) t i ≤ 3000 := by
                have h1 := most l0 HK.out t i hil
                rw [HTI.out] at h1
                omega
              have f0 := hT4.out.c0
              by_cases hlt3 : t < u
              · have i3 : (t : Int) < (u : Int) := by omega
                obtain ⟨_, _, ew1, hrow1⟩ := row_of hT4.out.r HR1.out
                simp only [Value.slice.injEq] at ew1
                obtain ⟨rfl, _, rfl⟩ := ew1
                obtain ⟨b1, o1, rfl, _, d1⟩ := Row.at hrow1 t (by rw [HR1.out]; exact hlt3)
                rw [HRA.out t hlt3] at d1
                have g1 := HG1.out _ hT4.out.bel
                have hstep := st_step (w := wks l0) (i := i) (t := t)
                clear hrow1
                by_cases hwi : who (wks l0) t = some i
                · rw [if_pos hwi] at hstep
                  have HSTP := hid hstep
                  have hcm := run_come hwi
                  rw [HCI.out] at hcm
                  have hre := run_end hwi HE.out
                  rw [whoI_eq.2 hwi] at d1
                  have q1 : ¬ (t : Int) < (cn : Int) := by omega
                  have q5 : ¬ (i : Int) < 0 := by omega
                  clear hstep hwi
                  generalize st (wks l0) t i = s at *
                  have q2 : ¬ (0 : Int) < ((0 : Nat) : Int) := by omega
                  go_wp2_with fail
                  go_roundw
                  case rel => exact ⟨t + 1, by omega, by go_num, by rw [HSTP.out]; go_num, hT4.out⟩
                  case measure => simp [intOf]; omega
                · rw [if_neg hwi] at hstep
                  have HSTP := hid hstep
                  have hne : whoI (wks l0) t ≠ (i : Int) := fun e => hwi (whoI_eq.1 e)
                  have q1 : (whoI (wks l0) t == (i : Int)) = false := beq_eq_false_iff_ne.2 hne
                  rcases whoI_cases (wks l0) t with hm | ⟨p, _, hm⟩
                  · have hid9 := idle HK.out hil hlt3 (whoI_neg.1 (by rw [hm]; decide)) HE.out
                    rw [HCI.out] at hid9
                    rw [hm] at d1 q1
                    clear hstep hwi hne hm
                    generalize st (wks l0) t i = s at *
                    by_cases hct : cn ≤ t
                    · have q6 : (cn : Int) ≤ (t : Int) := by omega
                      exact absurd ⟨hct, .inl rfl⟩ hid9
                    · have q6 : ¬ (cn : Int) ≤ (t : Int) := by omega
                      go_wp2_with fail
                      go_roundw
                      case rel => exact ⟨t + 1, by omega, by go_num, by rw [HSTP.out]; go_num, hT4.out⟩
                      case measure => simp [intOf]; omega
                  · rw [hm] at d1 q1
                    have q5 : ¬ (p : Int) < 0 := by omega
                    clear hstep hwi hne hm
                    generalize st (wks l0) t i = s at *
                    go_wp2_with fail
                    go_roundw
                    case rel => exact ⟨t + 1, by omega, by go_num, by rw [HSTP.out]; go_num, hT4.out⟩
                    case measure => simp [intOf]; omega
              · have i3 : ¬ (t : Int) < (u : Int) := by omega
                obtain rfl : t = u := by omega
                go_wp2_with fail
                go_roundw
                case rel => exact ⟨i + 1, by omega, by go_num, hT4.out⟩
                case measure => simp [intOf]; omega
        · have i2 : ¬ (i : Int) < (k : Int) := by omega
          go_wp2_with fail
          go_ret
          exact ⟨rfl, hT2.out.bel⟩
theorem lockEnds_walk (a0 : Option Addr) (len0 cap0 : Nat) (l0 : List RowsO.Wk) (n1 : Int) (w : World) (w0 : RowsO.IsWks w a0 len0 cap0 l0) (w1 : SpanC.wf64 n1) :
    Calls Try.prog 6 #[.slice a0 len0 cap0, .int .i64 n1] w fun e w' => e = .returned (.bool true) ∧ Below w.heap.size w w' := by
  obtain ⟨rfl, hc, _, hr, _⟩ := w0
  by_cases h1 : plyE l0 n1 = 0
  · obtain ⟨_, g1, _⟩ := plyE_ok h1
    obtain ⟨u, rfl⟩ : ∃ u : Nat, n1 = u := ⟨n1.toNat, by omega⟩
    exact lockEnds_ok a0 cap0 l0 u w hr h1
  · exact lockEnds_skip a0 cap0 l0 n1 w hr _ rfl (by simpa using h1)
end LockC
end Go.Proofs.Yteekbhnciapmjaa
