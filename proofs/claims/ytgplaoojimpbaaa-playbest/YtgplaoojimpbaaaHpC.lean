/- Contracts: container/heap's down over the queue (written by gen_hp.py). -/
import Derived.Test.YtgplaoojimpbaaaHpB
set_option linter.unusedVariables false
namespace Go.Proofs.Ytgplaoojimpbaaa
open Go.RowKit hiding tok
open Go.Shelf Go.Sort
open SpanM SpanC PlayM
namespace PlayC
open RowG
set_option maxRecDepth 20000 in
set_option maxHeartbeats 3200000 in
theorem down_any (bx g n cap B m : Nat) (l : List Jb) (w : World) (hbox : w.heap[bx]? = some (oQ (vS g n cap))) (h : OwnJ w B (vS g n cap) l) (hn : n = l.length) (hm : m ≤ n) (hl : l.length ≤ 4000) (hu : DnI l m 0) :
    Calls Try.prog 69 #[vQ bx, .int .i64 0, .int .i64 m] w fun e w' => (∃ b, e = .returned (.bool b)) ∧ ∃ l', OwnJ w' B (vS g n cap) l' ∧ w.grownBy w' (some g) ∧ l'.Perm l ∧ (∀ k, m ≤ k → gt l' k = gt l k) ∧ Heap l' m := by
  have HX := hid hbox
  have HO := hid h
  have HN := hid hn
  have HU := hid hu
  have hnl : n ≤ 4000 := by omega
  clear hbox h hn hl hu
  go_enter Try.func69, Try.ntmps69
  go_wp2_with fail
  go_loopw [7] (fun vi wr => ∃ (i : Nat) (li : List Jb), (i = 0 ∨ i < m) ∧ vi = .int .i64 i ∧ OwnJ wr B (vS g n cap) li ∧ w.grownBy wr (some g) ∧ li.Perm l ∧ (∀ k, m ≤ k → gt li k = gt l k) ∧ DnI li m i) (fun vi _ => m - (intOf vi).toNat)
  case atStart => exact ⟨0, l, .inl rfl, rfl, HO.out, grown_refl _ _, .refl _, fun _ _ => rfl, HU.out⟩
  case round =>
    obtain ⟨i, li, hi, rfl, ho, hg, hp, hk, hu⟩ := hrel
    have HO1 := hid ho
    have HG1 := hid hg
    have HP1 := hid hp
    have HK1 := hid hk
    have HU1 := hid hu
    have hli := hp.length_eq
    have HLI := hid (show li.length = n by rw [hli, HN.out])
    have hc := box_cell (box_of_own HX.out HO.out hg) 0
    simp at hc
    have hm1 := meth_less bx (vS g n cap) wr hc
    have HI := hid hi
    have hi2 : i ≤ 4000 := by omega
    clear ho hg hp hk hu hli
    obtain ⟨p, hpe⟩ : ∃ p, p = 2 * i + 1 := ⟨_, rfl⟩
    have ep : 2 * (i : Int) + 1 = (p : Int) := by omega
    have HPE := hid hpe
    have hpi : i < p := by omega
    have hp3 : p ≤ 8001 := by omega
    obtain ⟨s, hse⟩ : ∃ s, s = p + 1 := ⟨_, rfl⟩
    have es : (p : Int) + 1 = (s : Int) := by omega
    have HSE := hid hse
    have hps : p < s := by omega
    have hs3 : s ≤ 8002 := by omega
    clear hi hpe hse
    have HCH := hid (fun c (h0 : 0 < c) (h1 : (c - 1) / 2 = i) => (show c = p ∨ c = s by have := HPE.out; have := HSE.out; omega))
    by_cases hpm : p < m
    · have hpm2 : ¬ (m : Int) ≤ (p : Int) := by omega
      by_cases hp2 : s < m
      · have hp4 : (s : Int) < (m : Int) := by omega
        have hL1 := hid (less_gt g n cap B s p li wr HO1.out HLI.out.symm (by have := HLI.out; omega) (by have := HLI.out; omega) (by have := HLI.out; omega))
        by_cases hlt1 : ltJ (gt li s) (gt li p)
        · have HMIN := hid (fun c (h0 : 0 < c) (h1 : c < m) (h2 : (c - 1) / 2 = i) => (show leJ (gt li s) (gt li c) by
            rcases HCH.out c h0 h2 with e | e
            · rw [e]; exact leJ_of_lt hlt1
            · rw [e]; exact leJ_refl _))
          rw [decide_eq_true hlt1] at hL1
          clear hlt1
          by_cases hlt : ltJ (gt li s) (gt li i)
          · have HL := hid hlt
            clear hlt
            go_wp2_with (first | (go_at_call 99; (with_reducible refine hL2.out.mono ?_); rintro e w2 ⟨rfl, hg2⟩; have HO3 := hid (own_none HO2.out hg2); have HG3 := hid (HG2.out.trans (grown_none hg2)); have hc3 := box_cell (box_of_own HX.out HO.out HG3.out) 0; simp at hc3; have hm3 := meth_swap bx (vS g n cap) w2 hc3; have hS := hid (Swap_any g n cap B i s li w2 HO3.out HLI.out.symm (by have := HLI.out; omega) (by have := HLI.out; omega) (by have := HLI.out; omega)); clear hg2) | (go_at_call 99; (with_reducible refine hL1.out.mono ?_); rintro e w1 ⟨rfl, hg1⟩; have HO2 := hid (own_none HO1.out hg1); have HG2 := hid (HG1.out.trans (grown_none hg1)); have hc2 := box_cell (box_of_own HX.out HO.out HG2.out) 0; simp at hc2; have hm2 := meth_less bx (vS g n cap) w1 hc2; have hL2 := hid (less_gt g n cap B s i li w1 HO2.out HLI.out.symm (by have := HLI.out; omega) (by have := HLI.out; omega) (by have := HLI.out; omega)); rw [decide_eq_true HL.out] at hL2; clear hg1) | (go_at_call 100; refine hS.out.mono ?_; rintro e w3 ⟨rfl, ho4, hg4⟩; have HO4 := hid ho4; have HG4 := hid hg4; clear ho4 hg4))
            go_roundw
            case rel =>
              have h5 := HLI.out
              have h6 := HPE.out
              have h7 := HSE.out
              refine ⟨s, sw li i s, by omega, by first | rfl | go_num, HO4.out, HG3.out.trans HG4.out, (sw_perm li i s (by omega) (by omega)).trans HP1.out, fun k hk => ?_, ?_⟩
              · rw [gt_sw li i s k (by omega) (by omega), if_neg (by omega), if_neg (by omega)]; exact HK1.out k hk
              · exact HU1.out.step (by omega) (by omega) (by omega) (by omega) HL.out HMIN.out
            case measure => have h6 := HPE.out; have h7 := HSE.out; simp [intOf]; omega
          · have HL := hid hlt
            clear hlt
            go_wp2_with (first | (go_at_call 99; (with_reducible refine hL2.out.mono ?_); rintro e w2 ⟨rfl, hg2⟩; have HO3 := hid (own_none HO2.out hg2); have HG3 := hid (HG2.out.trans (grown_none hg2)); clear hg2) | (go_at_call 99; (with_reducible refine hL1.out.mono ?_); rintro e w1 ⟨rfl, hg1⟩; have HO2 := hid (own_none HO1.out hg1); have HG2 := hid (HG1.out.trans (grown_none hg1)); have hc2 := box_cell (box_of_own HX.out HO.out HG2.out) 0; simp at hc2; have hm2 := meth_less bx (vS g n cap) w1 hc2; have hL2 := hid (less_gt g n cap B s i li w1 HO2.out HLI.out.symm (by have := HLI.out; omega) (by have := HLI.out; omega) (by have := HLI.out; omega)); rw [decide_eq_false HL.out] at hL2; clear hg1))
            go_ret
            exact ⟨⟨_, rfl⟩, li, HO3.out, HG3.out, HP1.out, HK1.out, HU1.out.done fun c h0 h1 h2 => leJ_trans HL.out (HMIN.out c h0 h1 h2)⟩
        · have HMIN := hid (fun c (h0 : 0 < c) (h1 : c < m) (h2 : (c - 1) / 2 = i) => (show leJ (gt li p) (gt li c) by
            rcases HCH.out c h0 h2 with e | e
            · rw [e]; exact leJ_refl _
            · rw [e]; exact hlt1))
          rw [decide_eq_false hlt1] at hL1
          clear hlt1
          by_cases hlt : ltJ (gt li p) (gt li i)
          · have HL := hid hlt
            clear hlt
            go_wp2_with (first | (go_at_call 99; (with_reducible refine hL2.out.mono ?_); rintro e w2 ⟨rfl, hg2⟩; have HO3 := hid (own_none HO2.out hg2); have HG3 := hid (HG2.out.trans (grown_none hg2)); have hc3 := box_cell (box_of_own HX.out HO.out HG3.out) 0; simp at hc3; have hm3 := meth_swap bx (vS g n cap) w2 hc3; have hS := hid (Swap_any g n cap B i p li w2 HO3.out HLI.out.symm (by have := HLI.out; omega) (by have := HLI.out; omega) (by have := HLI.out; omega)); clear hg2) | (go_at_call 99; (with_reducible refine hL1.out.mono ?_); rintro e w1 ⟨rfl, hg1⟩; have HO2 := hid (own_none HO1.out hg1); have HG2 := hid (HG1.out.trans (grown_none hg1)); have hc2 := box_cell (box_of_own HX.out HO.out HG2.out) 0; simp at hc2; have hm2 := meth_less bx (vS g n cap) w1 hc2; have hL2 := hid (less_gt g n cap B p i li w1 HO2.out HLI.out.symm (by have := HLI.out; omega) (by have := HLI.out; omega) (by have := HLI.out; omega)); rw [decide_eq_true HL.out] at hL2; clear hg1) | (go_at_call 100; refine hS.out.mono ?_; rintro e w3 ⟨rfl, ho4, hg4⟩; have HO4 := hid ho4; have HG4 := hid hg4; clear ho4 hg4))
            go_roundw
            case rel =>
              have h5 := HLI.out
              have h6 := HPE.out
              have h7 := HSE.out
              refine ⟨p, sw li i p, by omega, by first | rfl | go_num, HO4.out, HG3.out.trans HG4.out, (sw_perm li i p (by omega) (by omega)).trans HP1.out, fun k hk => ?_, ?_⟩
              · rw [gt_sw li i p k (by omega) (by omega), if_neg (by omega), if_neg (by omega)]; exact HK1.out k hk
              · exact HU1.out.step (by omega) (by omega) (by omega) (by omega) HL.out HMIN.out
            case measure => have h6 := HPE.out; have h7 := HSE.out; simp [intOf]; omega
          · have HL := hid hlt
            clear hlt
            go_wp2_with (first | (go_at_call 99; (with_reducible refine hL2.out.mono ?_); rintro e w2 ⟨rfl, hg2⟩; have HO3 := hid (own_none HO2.out hg2); have HG3 := hid (HG2.out.trans (grown_none hg2)); clear hg2) | (go_at_call 99; (with_reducible refine hL1.out.mono ?_); rintro e w1 ⟨rfl, hg1⟩; have HO2 := hid (own_none HO1.out hg1); have HG2 := hid (HG1.out.trans (grown_none hg1)); have hc2 := box_cell (box_of_own HX.out HO.out HG2.out) 0; simp at hc2; have hm2 := meth_less bx (vS g n cap) w1 hc2; have hL2 := hid (less_gt g n cap B p i li w1 HO2.out HLI.out.symm (by have := HLI.out; omega) (by have := HLI.out; omega) (by have := HLI.out; omega)); rw [decide_eq_false HL.out] at hL2; clear hg1))
            go_ret
            exact ⟨⟨_, rfl⟩, li, HO3.out, HG3.out, HP1.out, HK1.out, HU1.out.done fun c h0 h1 h2 => leJ_trans HL.out (HMIN.out c h0 h1 h2)⟩
      · have hp4 : ¬ (s : Int) < (m : Int) := by omega
        have HMIN := hid (fun c (h0 : 0 < c) (h1 : c < m) (h2 : (c - 1) / 2 = i) => (show leJ (gt li p) (gt li c) by
          rcases HCH.out c h0 h2 with e | e
          · rw [e]; exact leJ_refl _
          · omega))
        have hL2 := hid (less_gt g n cap B p i li wr HO1.out HLI.out.symm (by have := HLI.out; omega) (by have := HLI.out; omega) (by have := HLI.out; omega))
        by_cases hlt : ltJ (gt li p) (gt li i)
        · rw [decide_eq_true hlt] at hL2
          have HL := hid hlt
          clear hlt
          go_wp2_with (first | (go_at_call 99; (with_reducible refine hL2.out.mono ?_); rintro e w2 ⟨rfl, hg2⟩; have HO3 := hid (own_none HO1.out hg2); have HG3 := hid (HG1.out.trans (grown_none hg2)); have hc3 := box_cell (box_of_own HX.out HO.out HG3.out) 0; simp at hc3; have hm3 := meth_swap bx (vS g n cap) w2 hc3; have hS := hid (Swap_any g n cap B i p li w2 HO3.out HLI.out.symm (by have := HLI.out; omega) (by have := HLI.out; omega) (by have := HLI.out; omega)); clear hg2) | (go_at_call 100; refine hS.out.mono ?_; rintro e w3 ⟨rfl, ho4, hg4⟩; have HO4 := hid ho4; have HG4 := hid hg4; clear ho4 hg4))
          go_roundw
          case rel =>
            have h5 := HLI.out
            have h6 := HPE.out
            have h7 := HSE.out
            refine ⟨p, sw li i p, by omega, by first | rfl | go_num, HO4.out, HG3.out.trans HG4.out, (sw_perm li i p (by omega) (by omega)).trans HP1.out, fun k hk => ?_, ?_⟩
            · rw [gt_sw li i p k (by omega) (by omega), if_neg (by omega), if_neg (by omega)]; exact HK1.out k hk
            · exact HU1.out.step (by omega) (by omega) (by omega) (by omega) HL.out HMIN.out
          case measure => have h6 := HPE.out; have h7 := HSE.out; simp [intOf]; omega
        · rw [decide_eq_false hlt] at hL2
          have HL := hid hlt
          clear hlt
          go_wp2_with (first | (go_at_call 99; (with_reducible refine hL2.out.mono ?_); rintro e w2 ⟨rfl, hg2⟩; have HO3 := hid (own_none HO1.out hg2); have HG3 := hid (HG1.out.trans (grown_none hg2)); clear hg2))
          go_ret
          exact ⟨⟨_, rfl⟩, li, HO3.out, HG3.out, HP1.out, HK1.out, HU1.out.done fun c h0 h1 h2 => leJ_trans HL.out (HMIN.out c h0 h1 h2)⟩
    · have hpm2 : (m : Int) ≤ (p : Int) := by omega
      go_wp2_with fail
      go_ret
      exact ⟨⟨_, rfl⟩, li, HO1.out, HG1.out, HP1.out, HK1.out, HU1.out.done fun c h0 h1 h2 => by have := HCH.out c h0 h2; omega⟩
end PlayC
end Go.Proofs.Ytgplaoojimpbaaa
