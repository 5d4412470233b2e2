/- MadeTable: the walk of a list of wants. -/
import Derived.Test.YtgehdpohiphcpaaTabJ1
set_option linter.unusedVariables false
namespace Go.Proofs.Ytgehdpohiphcpaa
open Go.RowKit
open SpanM SpanC TabM
namespace TabC
set_option maxRecDepth 20000 in
set_option maxHeartbeats 25600000 in
theorem made_list (frame : Int) (a : Option Addr) (cap : Nat) (l : List Wnt) (w : World) (h1 : 1 ≤ frame) (h2 : frame ≤ 1000000) (h : ¬ 200 < l.length) (hr : Wts w a l) :
    Calls Try.prog 20 #[.int .i64 frame, .slice a l.length cap] w fun e w' => MadeTold frame l w.heap.size e w' ∧ Below w.heap.size w w' := by
  have hn : ¬ (200 : Int) < (l.length : Int) := by omega
  have HR := hid hr
  clear hr
  go_enter Try.func20, Try.ntmps20
  go_wp2_with (go_at_call 14; refine (btw_yes _ _ _ _ (by omega) (by omega)).mono ?_; rintro e w' ⟨rfl, hw⟩; replace hw := hw.symm; subst hw)
  go_loopw [6, 27] (fun v6 v27 wr => ∃ (k : Nat) (c : Int), k ≤ l.length ∧ v6 = .int .i64 c ∧ v27 = .int .i64 k ∧ Hid (c = cntW frame (l.take k)) ∧ Hid (fitAll frame (l.take k) = true) ∧ 0 ≤ c ∧ c ≤ 1000000 * k ∧ RBox w wr w.heap.size) (fun _ v27 _ => l.length - (intOf v27).toNat)
  case atStart => exact ⟨0, 0, by omega, rfl, rfl, by show _ = _; simp [cntW], by show _ = _; simp [fitAll], by omega, by omega, RBox.allocT w⟩
  case round =>
    obtain ⟨k, c, hk, rfl, rfl, hc, hA, c0, c1, rb⟩ := hrel
    have RB := hid rb
    have hsz := rb.sz
    by_cases hlt : k < l.length
    · obtain ⟨b, off, rfl, hbw, d1, d2, d3, d4⟩ := (HR.out.below rb.be (Nat.le_refl _)).at k hlt
      have hd := take_snoc z4 l k hlt
      have hmem : l.getD k z4 ∈ l := by simp [List.getD, hlt]
      clear rb
      generalize l.getD k z4 = z at d1 d2 d3 d4 hd hmem
      obtain ⟨o, f, n, e⟩ := z
      have Hd := hid hd
      have Hm := hid hmem
      clear hd hmem
      simp only at d1 d2 d3 d4
      have hfit := wantR_any frame o f n e (wr.alloc (.cells #[.int .i64 o, .int .i64 f, .int .i64 n, .int .i64 e] 66)) h1 h2
      by_cases hP : fitP frame (o, f, n, e)
      · rw [decide_eq_true hP] at hfit
        have HFI := hid hfit
        have HP := hid hP
        have e1 : 1 ≤ e := hP.1.1
        obtain ⟨q1, q2⟩ := quot_bd (frame := frame) (e := e) (by omega) e1
        have HC : Hid (c + frame / e = cntW frame (l.take (k + 1))) := by
          show _ = _
          rw [Hd.out, cntW_append, hc.out]; simp [cntW]
        have HA : Hid (fitAll frame (l.take (k + 1)) = true) := by
          show _ = _
          rw [fitAll_iff, Hd.out]
          intro x hx
          rcases List.mem_append.1 hx with hx | hx
          · exact fitAll_iff.1 hA.out x hx
          · simp at hx; subst hx; exact HP.out
        clear hfit hP
        go_wp2_with fail
        refine HFI.out.mono ?_
        rintro r w2 ⟨rfl, hb2⟩
        have RB2 := hid (RB.out.step (bel_al (Below.refl _ _) hsz hb2) (Nat.le_refl _))
        have e0 := (hb2.cell (p := ⟨wr.heap.size, 3, none⟩) (by simp)).trans (World.cell?_alloc_at _ _ _ _ rfl)
        clear hb2
        go_wp2_with fail
        go_roundw
        case rel => exact ⟨k + 1, _, by omega, rfl, by go_num, HC, HA, by omega, by omega, RB2.out⟩
        case measure => simp [intOf]; omega
      · rw [decide_eq_false hP] at hfit
        have HFI := hid hfit
        have HF : Hid (wchkG frame l = 4) := by
          show _ = _
          unfold wchkG
          rw [if_neg]
          intro h
          exact hP (fitAll_iff.1 h _ Hm.out)
        clear hfit hP
        go_wp2_with fail
        refine HFI.out.mono ?_
        rintro r w2 ⟨rfl, hb2⟩
        have RB2 := hid (RB.out.step (bel_al (Below.refl _ _) hsz hb2) (Nat.le_refl _))
        clear hb2
        obtain ⟨x1, x2, x3, x4, x5, x6⟩ := RB2.out
        have z0 := RB2.out.s0
        have z1 := RB2.out.s1
        go_wp2_with fail
        exact bodyPost_ret (v := .tuple #[.agg #[.int .i64 0, .slice none 0 0], .int .i64 4]) (by simp [results, Try.results20, go_sem, z0, z1]) rfl ⟨.inl ⟨by rw [HF.out]; decide, by rw [HF.out]⟩, by go_grown⟩
    · have he : l.take k = l := List.take_of_length_le (by omega)
      rw [he] at hc hA
      have hfa := fitAll_iff.1 hA.out
      clear rb
      by_cases hc2 : 200 < c
      · have HF : Hid (wchkG frame l = 2) := by
          show _ = _
          unfold wchkG
          rw [if_pos hA.out, if_pos (by rw [← hc.out]; exact hc2)]
        obtain ⟨x1, x2, x3, x4, x5, x6⟩ := RB.out
        have z0 := RB.out.s0
        have z1 := RB.out.s1
        clear hfa
        go_wp2_with fail
        exact bodyPost_ret (v := .tuple #[.agg #[.int .i64 0, .slice none 0 0], .int .i64 2]) (by simp [results, Try.results20, go_sem, z0, z1]) rfl ⟨.inl ⟨by rw [HF.out]; decide, by rw [HF.out]⟩, by go_grown⟩
      · have HF : Hid (wchkG frame l = 0) := by
          show _ = _
          unfold wchkG
          rw [if_pos hA.out, if_neg (by rw [← hc.out]; exact hc2)]
        have HFA := hid hfa
        have HT := hid (take_cnt (by omega) hfa (by rw [← hc.out]; omega))
        have HN : Hid (cntW frame l ≤ 200) := by show _ ≤ _; rw [← hc.out]; omega
        obtain ⟨w5, hw5⟩ : ∃ x, x = wr := ⟨_, rfl⟩
        subst hw5
        have MB0 : Hid (MBox w (w5.alloc (.cells #[.int .i64 frame, .slice none 0 0] 24)) w5.heap.size frame (.slice none 0 0)) := {
          rb := RB.out.step (Below.alloc (Below.refl _ _) hsz _) (Nat.le_refl _)
          tl := by simp
          rl := hsz
          t0 := World.cell?_alloc_at _ _ _ _ rfl
          t1 := World.cell?_alloc_at _ _ _ _ rfl
          tf := World.frozen?_alloc_at _ _ _ _ rfl }
        clear hfa he hc hA
        go_wp2_with fail
        go_loopw [50] (fun v50 wr => ∃ (k : Nat) (v : Value) (acc : List Win), k ≤ l.length ∧ v50 = .int .i64 k ∧ MBox w wr w5.heap.size frame v ∧ OwnW wr (w5.heap.size + 1) v acc ∧ Hid (acc.Perm (wins frame (l.take k))) ∧ Hid (wgood frame 0 acc = true)) (fun v50 _ => l.length - (intOf v50).toNat)
        case atStart => exact ⟨0, _, [], by omega, rfl, MB0.out, OwnW.nil _ _, by show List.Perm _ _; simp [wins], rfl⟩
        case round =>
          obtain ⟨k, v, acc, hk, rfl, mb, ho, hp, hg⟩ := hrel
          obtain ⟨w6, hw6⟩ : ∃ x, x = wr := ⟨_, rfl⟩
          subst hw6
          have MB := hid mb
          have HO := hid ho
          have hbt := mb.tl
          by_cases hlt : k < l.length
          · obtain ⟨b, off, rfl, hbw, d1, d2, d3, d4⟩ := (HR.out.below mb.rb.be (Nat.le_refl _)).at k hlt
            have hd := take_snoc z4 l k hlt
            have hd2 := drop_get z4 l k hlt
            have hfit := HFA.out (l.getD k z4) (by simp [List.getD, hlt])
            have htk := HT.out k hlt
            have hsp : wins frame l = wins frame (l.take k) ++ (winsOf frame (l.getD k z4) ++ wins frame (l.drop (k + 1))) := by
              have e : wins frame l = wins frame (l.take k ++ l.getD k z4 :: l.drop (k + 1)) := by rw [← hd2, List.take_append_drop]
              rw [e, wins_append]; simp [wins]
            have hfr : some w6.heap.size ≠ v.ownBlock := ho.fresh (Nat.le_refl _)
            clear ho mb hd2
            generalize l.getD k z4 = z at d1 d2 d3 d4 hd hfit htk hsp
            obtain ⟨o, f, n, e⟩ := z
            have Hd := hid hd
            have HSP := hid hsp
            have HFX := hid hfit
            clear hd hsp
            simp only at d1 d2 d3 d4 htk
            obtain ⟨⟨e1, e2, e3⟩, ⟨o1, o2⟩, ⟨n1, n2⟩, f1, f2⟩ := hfit
            simp only at e1 e2 e3 o1 o2 n1 n2 f1 f2
            obtain ⟨q, hq⟩ : ∃ q : Nat, frame / e = q := ⟨(frame / e).toNat, by have := (quot_bd (frame := frame) (e := e) (by omega) e1).1; omega⟩
            have HQ := hid hq
            have hmul : (q : Int) * e = frame := by have := quot_mul e3; rw [hq, Int.mul_comm] at this; exact this
            have HMUL := hid hmul
            rw [hq] at htk
            have hlq : (wins frame (l.take k)).length + q ≤ 200 := by omega
            clear e3 hmul htk
            generalize hZ : wins frame (l.take k) = Z at hp hlq HSP
            have HZ := hid hZ
            clear hZ
            have hqe := hq
            clear hq
            have HFR := hid hfr
            clear hfr
            obtain ⟨pv, nv, cv, hvv⟩ := HO.out.slice
            subst hvv
            go_wp2_with fail
            go_loopw [58] (fun v58 ws => ∃ (j : Nat) (v : Value) (acc : List Win), j ≤ q ∧ v58 = .int .i64 j ∧ MBox w ws w5.heap.size frame v ∧ OwnW ws (w5.heap.size + 1) v acc ∧ Hid (acc.Perm (Z ++ winsN (o, f, n, e) j)) ∧ Hid (wgood frame 0 acc = true) ∧ ws.cell? ⟨w6.heap.size, 0, none⟩ = some (.int .i64 o) ∧ ws.cell? ⟨w6.heap.size, 1, none⟩ = some (.int .i64 f) ∧ ws.cell? ⟨w6.heap.size, 2, none⟩ = some (.int .i64 n) ∧ ws.cell? ⟨w6.heap.size, 3, none⟩ = some (.int .i64 e) ∧ w6.heap.size < ws.heap.size ∧ some w6.heap.size ≠ v.ownBlock) (fun v58 _ => q - (intOf v58).toNat)
            case atStart => exact ⟨0, _, acc, by omega, rfl, MB.out.step (Below.alloc (Below.refl _ _) (by omega) _), World.ownsRow.alloc HO.out _, by show List.Perm _ _; simpa [winsN] using hp.out, hg, World.cell?_alloc_at _ _ _ _ rfl, World.cell?_alloc_at _ _ _ _ rfl, World.cell?_alloc_at _ _ _ _ rfl, World.cell?_alloc_at _ _ _ _ rfl, by simp, HFR.out⟩
            case round =>
              obtain ⟨j, v, acc, hj, rfl, mb, ho, hp, hg, X0, X1, X2, X3, hXs, hXne⟩ := hrel
              obtain ⟨w7, hw7⟩ : ∃ x, x = wr := ⟨_, rfl⟩
              subst hw7
              have HG := hid hg.out
              have HNE := hid hXne
              have hbt7 := mb.tl
              clear hXne
              by_cases hjq : j < q
              · have hmj0 : 0 ≤ (j : Int) * e := Int.mul_nonneg (by omega) (by omega)
                have hmj2 : ((j : Int) + 1) * e ≤ (q : Int) * e := Int.mul_le_mul_of_nonneg_right (by omega) (by omega)
                rw [HMUL.out, Int.add_mul] at hmj2
                have hmj1 : (j : Int) * e ≤ 1000000 := by omega
                obtain ⟨Yf, hYf⟩ : ∃ Yf, (j : Int) * e + f = Yf := ⟨_, rfl⟩
                have HXF : Hid (wfit frame 0 (Yf, n, o)) := by
                  have := win_fit HFX.out (j : Int) (by omega) (by simp only; rw [HQ.out]; omega)
                  simp only at this
                  rw [hYf] at this
                  exact this
                have HWN : Hid (Z ++ winsN (o, f, n, e) (j + 1) = (Z ++ winsN (o, f, n, e) j) ++ [(Yf, n, o)]) := by
                  show _ = _
                  rw [winsN_succ, ← List.append_assoc, ← hYf]
                have HWL : Hid (wins frame l = (Z ++ winsN (o, f, n, e) j) ++ ((Yf, n, o) :: ((winsOf frame (o, f, n, e)).drop (j + 1) ++ wins frame (l.drop (k + 1))))) := by
                  show _ = _
                  have e1 : winsOf frame (o, f, n, e) = winsN (o, f, n, e) j ++ ((Yf, n, o) :: (winsOf frame (o, f, n, e)).drop (j + 1)) := by
                    have e2 : (winsOf frame (o, f, n, e)).take (j + 1) = winsN (o, f, n, e) (j + 1) := by
                      unfold winsOf winsN
                      simp only
                      rw [HQ.out, ← List.map_take, List.take_range]
                      congr 2
                      simp; omega
                    have e3 := (List.take_append_drop (j + 1) (winsOf frame (o, f, n, e))).symm
                    rw [e2, winsN_succ] at e3
                    simp only at e3
                    rw [hYf] at e3
                    rw [List.append_assoc] at e3
                    exact e3
                  rw [HSP.out]
                  conv => lhs; rw [e1]
                  simp [List.append_assoc]
                have hal : acc.length ≤ 200 := by
                  have := hp.out.length_eq
                  rw [List.length_append, winsN_len] at this
                  omega
                have HPM := hid hp.out
                have HXB : Hid (∀ x ∈ acc, x.1 ≤ 9223372036854775807) := fun x hx => by
                  have := wgood_each HG.out x hx
                  unfold wfit at this
                  omega
                have X0 := hid X0
                have X1 := hid X1
                have X2 := hid X2
                have X3 := hid X3
                have xf := X1.out
                have xn := X2.out
                have xo := X0.out
                have xe := X3.out
                obtain ⟨p8, c8, hv8, _⟩ := ho.cells
                subst hv8
                have MB7 := hid mb
                have HO7 := hid ho
                clear mb ho hp hg
                go_wp2_with fail
                obtain ⟨w8, hw8⟩ : ∃ W, W = w7.alloc (.cells #[.int .i64 Yf, .int .i64 n, .int .i64 o] 50) := ⟨_, rfl⟩
                have Y8 : Hid (w8.cell? ⟨w7.heap.size, 0, none⟩ = some (.int .i64 Yf) ∧ w8.cell? ⟨w7.heap.size, 1, none⟩ = some (.int .i64 n) ∧ w8.cell? ⟨w7.heap.size, 2, none⟩ = some (.int .i64 o)) := by rw [hw8]; exact ⟨World.cell?_alloc_at _ _ _ _ rfl, World.cell?_alloc_at _ _ _ _ rfl, World.cell?_alloc_at _ _ _ _ rfl⟩
                have MB8 : Hid (MBox w w8 w5.heap.size frame (.slice p8 acc.length c8)) := by rw [hw8]; exact MB7.out.step (Below.alloc (Below.refl _ _) (by omega) _)
                have HO8 : Hid (OwnW w8 (w5.heap.size + 1) (.slice p8 acc.length c8) acc) := by rw [hw8]; exact World.ownsRow.alloc HO7.out _
                have X8 : Hid (w8.cell? ⟨w6.heap.size, 0, none⟩ = some (.int .i64 o) ∧ w8.cell? ⟨w6.heap.size, 1, none⟩ = some (.int .i64 f) ∧ w8.cell? ⟨w6.heap.size, 2, none⟩ = some (.int .i64 n) ∧ w8.cell? ⟨w6.heap.size, 3, none⟩ = some (.int .i64 e)) := by rw [hw8]; exact ⟨Lib.cell?_alloc_some _ X0.out, Lib.cell?_alloc_some _ X1.out, Lib.cell?_alloc_some _ X2.out, Lib.cell?_alloc_some _ X3.out⟩
                have hs8 : w7.heap.size + 1 ≤ w8.heap.size := by rw [hw8]; simp
                clear MB7 HO7 X0 X1 X2 X3 xf xn xo xe
                rw [← hw8]
                clear hw8
                go_loopw [14] (fun v14 ws => ∃ i : Nat, i ≤ acc.length ∧ v14 = .int .i64 i ∧ Hid (∀ y ∈ acc.take i, y.1 < Yf) ∧ Below w8.heap.size w8 ws) (fun v14 _ => acc.length - (intOf v14).toNat)
                case atStart => exact ⟨0, by omega, rfl, fun y hy => by simp at hy, Below.refl _ _⟩
                case round =>
                  obtain ⟨i, hi, rfl, HLO, hb8⟩ := hrel
                  obtain ⟨wq, hwq⟩ : ∃ x, x = wr := ⟨_, rfl⟩
                  subst hwq
                  have HB8 := hid hb8
                  have hsz8 := hb8.size
                  have v0 := (hb8.cell (p := ⟨w7.heap.size, 0, none⟩) (by simp; omega)).trans Y8.out.1
                  have t1 := (MB8.out.step (hb8.mono (by have := MB8.out.tl; omega))).t1
                  by_cases hil : i < acc.length
                  · obtain ⟨a9, c9, hv9, hw9', _⟩ := (HO8.out.below hb8 (Nat.le_refl _)).wns HXB.out
                    simp only [Value.slice.injEq] at hv9
                    obtain ⟨rfl, _, rfl⟩ := hv9
                    obtain ⟨gb, off, rfl, hgw, d1, d2, d3⟩ := hw9'.at i hil
                    have hd := take_snoc z3 acc i hil
                    have hge2 : acc.getD i z3 = acc[i] := by simp [List.getD, hil]
                    clear hb8 hw9'
                    generalize acc.getD i z3 = z at d1 d2 d3 hd hge2
                    obtain ⟨g1, g2, g3⟩ := z
                    have Hd := hid hd
                    have Hg := hid hge2
                    simp only at d1 d2 d3
                    have hilI : (i : Int) < (acc.length : Int) := by omega
                    clear hd hge2
                    by_cases hlt4 : g1 < Yf
                    · have hlt4b : decide (g1 < Yf) = true := by simpa using hlt4
                      have HLO2 : Hid (∀ y ∈ acc.take (i + 1), y.1 < Yf) := by
                        intro y hy
                        rw [Hd.out] at hy
                        rcases List.mem_append.1 hy with hy | hy
                        · exact HLO.out y hy
                        · simp at hy; subst hy; exact hlt4
                      go_wp2_with fail
                      go_quiet (fail)
                      go_wp2_with fail
                      go_roundw
                      case rel => exact ⟨i + 1, by omega, by go_num, HLO2, below_drewN HB8.out _⟩
                      case measure => simp [intOf]; omega
                    · have hlt4b : decide (g1 < Yf) = false := by simpa using hlt4
                      have HHI : Hid (∀ h : i < acc.length, Yf ≤ acc[i].1) := by
                        intro h
                        rw [← Hg.out]
                        show Yf ≤ g1
                        omega
                      go_wp2_with fail
                      go_quiet (fail)
                      have hb9 : Below w8.heap.size w8 (wq.drewN nq) := below_drewN HB8.out _
                      obtain ⟨w9, hw9⟩ : ∃ W, W = wq.drewN nq := ⟨_, rfl⟩
                      rw [← hw9] at hb9
                      rw [← hw9]
                      clear hw9
                      have hs9 : w7.heap.size + 1 ≤ w9.heap.size := Nat.le_trans hs8 hb9.size
                      have MB9 := hid (MB8.out.step (hb9.mono (by have := MB8.out.tl; omega)))
                      have HO9 := hid (HO8.out.below hb9 (Nat.le_refl _))
                      have Y9 : Hid (w9.cell? ⟨w7.heap.size, 0, none⟩ = some (.int .i64 Yf) ∧ w9.cell? ⟨w7.heap.size, 1, none⟩ = some (.int .i64 n) ∧ w9.cell? ⟨w7.heap.size, 2, none⟩ = some (.int .i64 o)) := ⟨(hb9.cell (by simp; omega)).trans Y8.out.1, (hb9.cell (by simp; omega)).trans Y8.out.2.1, (hb9.cell (by simp; omega)).trans Y8.out.2.2⟩
                      have X9 : Hid (w9.cell? ⟨w6.heap.size, 0, none⟩ = some (.int .i64 o) ∧ w9.cell? ⟨w6.heap.size, 1, none⟩ = some (.int .i64 f) ∧ w9.cell? ⟨w6.heap.size, 2, none⟩ = some (.int .i64 n) ∧ w9.cell? ⟨w6.heap.size, 3, none⟩ = some (.int .i64 e)) := ⟨(hb9.cell (by simp; omega)).trans X8.out.1, (hb9.cell (by simp; omega)).trans X8.out.2.1, (hb9.cell (by simp; omega)).trans X8.out.2.2.1, (hb9.cell (by simp; omega)).trans X8.out.2.2.2⟩
                      have u1 := MB9.out.t1
                      clear hb9 MB8 HO8 HB8 Y8 X8 v0 t1 d1 d2 d3
                      go_wp2_with fail
                      go_loopw [94] (fun v94 ws => ∃ m2 : Nat, m2 ≤ acc.length ∧ v94 = .int .i64 m2 ∧ Hid (∀ y ∈ acc.take m2, Yf + n ≤ y.1 ∨ y.1 + y.2.1 ≤ Yf) ∧ Below w9.heap.size w9 ws) (fun v94 _ => acc.length - (intOf v94).toNat)
                      case atStart => exact ⟨0, by omega, rfl, fun y hy => by simp at hy, Below.refl _ _⟩
                      case round =>
                        obtain ⟨m2, hm2, rfl, hdis, hb⟩ := hrel
                        have HB := hid hb
                        have hsz9 := hb.size
                        have v0 := (hb.cell (p := ⟨w7.heap.size, 0, none⟩) (by simp; omega)).trans Y9.out.1
                        have v1 := (hb.cell (p := ⟨w7.heap.size, 1, none⟩) (by simp; omega)).trans Y9.out.2.1
                        have v2 := (hb.cell (p := ⟨w7.heap.size, 2, none⟩) (by simp; omega)).trans Y9.out.2.2
                        have hyw : w7.heap.size < wr.heap.size := by omega
                        by_cases hm2l : m2 < acc.length
                        · obtain ⟨a9, c9, hv9, hw9', _⟩ := (HO9.out.below hb (Nat.le_refl _)).wns HXB.out
                          simp only [Value.slice.injEq] at hv9
                          obtain ⟨rfl, _, rfl⟩ := hv9
                          obtain ⟨gb5, off5, hpp, hgw, d1, d2, d3⟩ := hw9'.at m2 hm2l
                          cases hpp
                          have hge := wgood_each HG.out (acc.getD m2 z3) (by simp [List.getD, hm2l])
                          have hd := take_snoc z3 acc m2 hm2l
                          have hmem : acc.getD m2 z3 ∈ acc := by simp [List.getD, hm2l]
                          clear hb
                          generalize acc.getD m2 z3 = z at d1 d2 d3 hge hd hmem
                          obtain ⟨g1, g2, g3⟩ := z
                          have Hd := hid hd
                          have Hm := hid hmem
                          simp only [wfit] at d1 d2 d3 hge
                          clear hd hmem
                          by_cases hov1 : Yf < g1 + g2
                          · have hov1b : decide (Yf < g1 + g2) = true := by simpa using hov1
                            by_cases hov2 : g1 < Yf + n
                            · have hov2b : decide (g1 < Yf + n) = true := by simpa using hov2
                              have HNA : Hid (¬ Apart (wins frame l)) := by
                                intro hA
                                rw [HWL.out] at hA
                                have h3 := (List.pairwise_append.1 hA).2.2 (g1, g2, g3) (HPM.out.mem_iff.1 Hm.out) (Yf, n, o) (by simp)
                                simp only at h3
                                omega
                              have MBr := hid (MB9.out.step (HB.out.mono (by have := MB9.out.tl; omega)))
                              have RBr := hid (MBr.out.rb.step (Below.alloc (Below.refl _ _) (by have := MBr.out.rb.sz; omega) (.cells #[.int .i64 g1, .int .i64 g2, .int .i64 g3] 50)) (Nat.le_refl _))
                              obtain ⟨x1, x2, x3, x4, x5, x6⟩ := RBr.out
                              have z0 := RBr.out.s0
                              have z1 := RBr.out.s1
                              go_wp2_with fail
                              exact bodyPost_ret (v := .tuple #[.agg #[.int .i64 0, .slice none 0 0], .int .i64 8]) (by simp [results, Try.results20, go_sem, z0, z1]) rfl ⟨.inr ⟨HF.out, .inr ⟨HNA.out, rfl⟩⟩, by go_grown⟩
                            · have hov2b : decide (g1 < Yf + n) = false := by simpa using hov2
                              have HDI : Hid (∀ y ∈ acc.take (m2 + 1), Yf + n ≤ y.1 ∨ y.1 + y.2.1 ≤ Yf) := by
                                intro y hy
                                rw [Hd.out] at hy
                                rcases List.mem_append.1 hy with hy | hy
                                · exact hdis.out y hy
                                · simp at hy; subst hy; left; simp only; omega
                              go_wp2_with fail
                              go_roundw
                              case rel => exact ⟨m2 + 1, by omega, by go_num, HDI, HB.out.alloc hsz9 _⟩
                              case measure => simp [intOf]; omega
                          · have hov1b : decide (Yf < g1 + g2) = false := by simpa using hov1
                            have HDI : Hid (∀ y ∈ acc.take (m2 + 1), Yf + n ≤ y.1 ∨ y.1 + y.2.1 ≤ Yf) := by
                              intro y hy
                              rw [Hd.out] at hy
                              rcases List.mem_append.1 hy with hy | hy
                              · exact hdis.out y hy
                              · simp at hy; subst hy; right; simp only; omega
                            go_wp2_with fail
                            go_roundw
                            case rel => exact ⟨m2 + 1, by omega, by go_num, HDI, HB.out.alloc hsz9 _⟩
                            case measure => simp [intOf]; omega
                        · have hdis2 : ∀ y ∈ acc, Yf + n ≤ y.1 ∨ y.1 + y.2.1 ≤ Yf := by
                            have := hdis.out
                            rwa [List.take_of_length_le (by omega)] at this
                          have HGN := hid (ins_good (x := (Yf, n, o)) HG.out HXF.out hi HLO.out HHI.out hdis2)
                          have HPN := hid (ins_perm (x := (Yf, n, o)) (i := i) HPM.out)
                          have MBr := hid (MB9.out.step (HB.out.mono (by have := MB9.out.tl; omega)))
                          have HOr := hid (HO9.out.below hb (Nat.le_refl _))
                          have t1 := MBr.out.t1
                          have tf := MBr.out.tf
                          have hbt := MBr.out.tl
                          have xx0 := (hb.cell (p := ⟨w6.heap.size, 0, none⟩) (by simp; omega)).trans X9.out.1
                          have xx1 := (hb.cell (p := ⟨w6.heap.size, 1, none⟩) (by simp; omega)).trans X9.out.2.1
                          have xx2 := (hb.cell (p := ⟨w6.heap.size, 2, none⟩) (by simp; omega)).trans X9.out.2.2.1
                          have xx3 := (hb.cell (p := ⟨w6.heap.size, 3, none⟩) (by simp; omega)).trans X9.out.2.2.2
                          clear hb hdis2
                          go_wp2_with fail
                          refine (insert_any (w5.heap.size + 1) wr.heap.size i _ acc (Yf, n, o) _ (World.ownsRow.alloc HOr.out _) (by simp; omega) hi (by omega) (heap_alloc_new wr _) (HOr.out.fresh (Nat.le_refl _))).mono ?_
                          rintro e' w10 ⟨v10, rfl, ho10, hg10, hst10⟩
                          have hs10 := hg10.size
                          simp only [World.size_alloc] at hs10
                          have MB10 := hid ((MBr.out.step (Below.alloc (Below.refl _ _) (by omega) _)).step (OwnW.to_below (World.ownsRow.alloc HOr.out _) hg10 (Nat.le_refl _) (by simp; omega)))
                          have k0 := hg10.cell (a := ⟨w6.heap.size, 0, none⟩) (Lib.cell?_alloc_some _ xx0) HNE.out
                          have k1 := hg10.cell (a := ⟨w6.heap.size, 1, none⟩) (Lib.cell?_alloc_some _ xx1) HNE.out
                          have k2 := hg10.cell (a := ⟨w6.heap.size, 2, none⟩) (Lib.cell?_alloc_some _ xx2) HNE.out
                          have k3 := hg10.cell (a := ⟨w6.heap.size, 3, none⟩) (Lib.cell?_alloc_some _ xx3) HNE.out
                          have hne10 := hid (hst10 w6.heap.size (by simp; omega) HNE.out)
                          obtain ⟨p10, n10, c10, hv10⟩ := ho10.slice
                          subst hv10
                          have HO10 := hid (show OwnW (w10.setCell ⟨w5.heap.size, 1, none⟩ (.slice p10 n10 c10)) (w5.heap.size + 1) (.slice p10 n10 c10) _ from ownsRow_setCell_below ho10 (by simp) _)
                          have MB11 := hid (MB10.out.set (.slice p10 n10 c10))
                          have s1 := MB10.out.t1
                          have s2 := MB10.out.tf
                          have s3 := MB10.out.tl
                          have j0 := (World.cell?_setCell_other w10 ⟨w5.heap.size, 1, none⟩ ⟨w6.heap.size, 0, none⟩ (.slice p10 n10 c10) (by first | (simp; done) | (simp; omega))).trans k0
                          have j1 := (World.cell?_setCell_other w10 ⟨w5.heap.size, 1, none⟩ ⟨w6.heap.size, 1, none⟩ (.slice p10 n10 c10) (by first | (simp; done) | (simp; omega))).trans k1
                          have j2 := (World.cell?_setCell_other w10 ⟨w5.heap.size, 1, none⟩ ⟨w6.heap.size, 2, none⟩ (.slice p10 n10 c10) (by first | (simp; done) | (simp; omega))).trans k2
                          have j3 := (World.cell?_setCell_other w10 ⟨w5.heap.size, 1, none⟩ ⟨w6.heap.size, 3, none⟩ (.slice p10 n10 c10) (by first | (simp; done) | (simp; omega))).trans k3
                          have J := hid (And.intro j0 (And.intro j1 (And.intro j2 j3)))
                          clear ho10 hg10 hst10 xx0 xx1 xx2 xx3 t1 tf k0 k1 k2 k3 j0 j1 j2 j3 v0 v1 v2
                          go_wp2_with fail
                          go_roundw
                          case rel =>
                            first
                            | exact ⟨j + 1, _, _, by omega, by go_num, MB11.out, HO10.out, by rw [HWN.out]; exact HPN.out, HGN.out, J.out.1, J.out.2.1, J.out.2.2.1, J.out.2.2.2, by simp only [World.size_setCell]; omega, hne10.out⟩
                            | ((repeat apply Exists.intro); refine ⟨⟨j + 1, _, _, by omega, by go_num, MB11.out, HO10.out, by rw [HWN.out]; exact HPN.out, HGN.out, J.out.1, J.out.2.1, J.out.2.2.1, J.out.2.2.2, by simp only [World.size_setCell]; omega, hne10.out⟩, ?_⟩; first | rfl | (rw [hqe]; done) | (rw [hqe]; rfl) | (rw [hYf]; done) | (rw [← hYf]; done) | (rw [hYf, hqe]; done))
                          case measure => simp [intOf]; omega
                  · have hilI : ¬ (i : Int) < (acc.length : Int) := by omega
                    have HHI : Hid (∀ h : i < acc.length, Yf ≤ acc[i].1) := fun h => absurd h hil
                    go_wp2_with fail
                    go_quiet (fail)
                    have hb9 : Below w8.heap.size w8 (wq.drewN nq) := below_drewN HB8.out _
                    obtain ⟨w9, hw9⟩ : ∃ W, W = wq.drewN nq := ⟨_, rfl⟩
                    rw [← hw9] at hb9
                    rw [← hw9]
                    clear hw9
                    have hs9 : w7.heap.size + 1 ≤ w9.heap.size := Nat.le_trans hs8 hb9.size
                    have MB9 := hid (MB8.out.step (hb9.mono (by have := MB8.out.tl; omega)))
                    have HO9 := hid (HO8.out.below hb9 (Nat.le_refl _))
                    have Y9 : Hid (w9.cell? ⟨w7.heap.size, 0, none⟩ = some (.int .i64 Yf) ∧ w9.cell? ⟨w7.heap.size, 1, none⟩ = some (.int .i64 n) ∧ w9.cell? ⟨w7.heap.size, 2, none⟩ = some (.int .i64 o)) := ⟨(hb9.cell (by simp; omega)).trans Y8.out.1, (hb9.cell (by simp; omega)).trans Y8.out.2.1, (hb9.cell (by simp; omega)).trans Y8.out.2.2⟩
                    have X9 : Hid (w9.cell? ⟨w6.heap.size, 0, none⟩ = some (.int .i64 o) ∧ w9.cell? ⟨w6.heap.size, 1, none⟩ = some (.int .i64 f) ∧ w9.cell? ⟨w6.heap.size, 2, none⟩ = some (.int .i64 n) ∧ w9.cell? ⟨w6.heap.size, 3, none⟩ = some (.int .i64 e)) := ⟨(hb9.cell (by simp; omega)).trans X8.out.1, (hb9.cell (by simp; omega)).trans X8.out.2.1, (hb9.cell (by simp; omega)).trans X8.out.2.2.1, (hb9.cell (by simp; omega)).trans X8.out.2.2.2⟩
                    have u1 := MB9.out.t1
                    clear hb9 MB8 HO8 HB8 Y8 X8 v0 t1 hb8
                    go_wp2_with fail
                    go_loopw [94] (fun v94 ws => ∃ m2 : Nat, m2 ≤ acc.length ∧ v94 = .int .i64 m2 ∧ Hid (∀ y ∈ acc.take m2, Yf + n ≤ y.1 ∨ y.1 + y.2.1 ≤ Yf) ∧ Below w9.heap.size w9 ws) (fun v94 _ => acc.length - (intOf v94).toNat)
                    case atStart => exact ⟨0, by omega, rfl, fun y hy => by simp at hy, Below.refl _ _⟩
                    case round =>
                      obtain ⟨m2, hm2, rfl, hdis, hb⟩ := hrel
                      have HB := hid hb
                      have hsz9 := hb.size
                      have v0 := (hb.cell (p := ⟨w7.heap.size, 0, none⟩) (by simp; omega)).trans Y9.out.1
                      have v1 := (hb.cell (p := ⟨w7.heap.size, 1, none⟩) (by simp; omega)).trans Y9.out.2.1
                      have v2 := (hb.cell (p := ⟨w7.heap.size, 2, none⟩) (by simp; omega)).trans Y9.out.2.2
                      have hyw : w7.heap.size < wr.heap.size := by omega
                      by_cases hm2l : m2 < acc.length
                      · obtain ⟨a9, c9, hv9, hw9', _⟩ := (HO9.out.below hb (Nat.le_refl _)).wns HXB.out
                        simp only [Value.slice.injEq] at hv9
                        obtain ⟨rfl, _, rfl⟩ := hv9
                        obtain ⟨gb, off, rfl, hgw, d1, d2, d3⟩ := hw9'.at m2 hm2l
                        have hge := wgood_each HG.out (acc.getD m2 z3) (by simp [List.getD, hm2l])
                        have hd := take_snoc z3 acc m2 hm2l
                        have hmem : acc.getD m2 z3 ∈ acc := by simp [List.getD, hm2l]
                        clear hb
                        generalize acc.getD m2 z3 = z at d1 d2 d3 hge hd hmem
                        obtain ⟨g1, g2, g3⟩ := z
                        have Hd := hid hd
                        have Hm := hid hmem
                        simp only [wfit] at d1 d2 d3 hge
                        clear hd hmem
                        by_cases hov1 : Yf < g1 + g2
                        · have hov1b : decide (Yf < g1 + g2) = true := by simpa using hov1
                          by_cases hov2 : g1 < Yf + n
                          · have hov2b : decide (g1 < Yf + n) = true := by simpa using hov2
                            have HNA : Hid (¬ Apart (wins frame l)) := by
                              intro hA
                              rw [HWL.out] at hA
                              have h3 := (List.pairwise_append.1 hA).2.2 (g1, g2, g3) (HPM.out.mem_iff.1 Hm.out) (Yf, n, o) (by simp)
                              simp only at h3
                              omega
                            have MBr := hid (MB9.out.step (HB.out.mono (by have := MB9.out.tl; omega)))
                            have RBr := hid (MBr.out.rb.step (Below.alloc (Below.refl _ _) (by have := MBr.out.rb.sz; omega) (.cells #[.int .i64 g1, .int .i64 g2, .int .i64 g3] 50)) (Nat.le_refl _))
                            obtain ⟨x1, x2, x3, x4, x5, x6⟩ := RBr.out
                            have z0 := RBr.out.s0
                            have z1 := RBr.out.s1
                            go_wp2_with fail
                            exact bodyPost_ret (v := .tuple #[.agg #[.int .i64 0, .slice none 0 0], .int .i64 8]) (by simp [results, Try.results20, go_sem, z0, z1]) rfl ⟨.inr ⟨HF.out, .inr ⟨HNA.out, rfl⟩⟩, by go_grown⟩
                          · have hov2b : decide (g1 < Yf + n) = false := by simpa using hov2
                            have HDI : Hid (∀ y ∈ acc.take (m2 + 1), Yf + n ≤ y.1 ∨ y.1 + y.2.1 ≤ Yf) := by
                              intro y hy
                              rw [Hd.out] at hy
                              rcases List.mem_append.1 hy with hy | hy
                              · exact hdis.out y hy
                              · simp at hy; subst hy; left; simp only; omega
                            go_wp2_with fail
                            go_roundw
                            case rel => exact ⟨m2 + 1, by omega, by go_num, HDI, HB.out.alloc hsz9 _⟩
                            case measure => simp [intOf]; omega
                        · have hov1b : decide (Yf < g1 + g2) = false := by simpa using hov1
                          have HDI : Hid (∀ y ∈ acc.take (m2 + 1), Yf + n ≤ y.1 ∨ y.1 + y.2.1 ≤ Yf) := by
                            intro y hy
                            rw [Hd.out] at hy
                            rcases List.mem_append.1 hy with hy | hy
                            · exact hdis.out y hy
                            · simp at hy; subst hy; right; simp only; omega
                          go_wp2_with fail
                          go_roundw
                          case rel => exact ⟨m2 + 1, by omega, by go_num, HDI, HB.out.alloc hsz9 _⟩
                          case measure => simp [intOf]; omega
                      · have hdis2 : ∀ y ∈ acc, Yf + n ≤ y.1 ∨ y.1 + y.2.1 ≤ Yf := by
                          have := hdis.out
                          rwa [List.take_of_length_le (by omega)] at this
                        have HGN := hid (ins_good (x := (Yf, n, o)) HG.out HXF.out hi HLO.out HHI.out hdis2)
                        have HPN := hid (ins_perm (x := (Yf, n, o)) (i := i) HPM.out)
                        have MBr := hid (MB9.out.step (HB.out.mono (by have := MB9.out.tl; omega)))
                        have HOr := hid (HO9.out.below hb (Nat.le_refl _))
                        have t1 := MBr.out.t1
                        have tf := MBr.out.tf
                        have hbt := MBr.out.tl
                        have xx0 := (hb.cell (p := ⟨w6.heap.size, 0, none⟩) (by simp; omega)).trans X9.out.1
                        have xx1 := (hb.cell (p := ⟨w6.heap.size, 1, none⟩) (by simp; omega)).trans X9.out.2.1
                        have xx2 := (hb.cell (p := ⟨w6.heap.size, 2, none⟩) (by simp; omega)).trans X9.out.2.2.1
                        have xx3 := (hb.cell (p := ⟨w6.heap.size, 3, none⟩) (by simp; omega)).trans X9.out.2.2.2
                        clear hb hdis2
                        go_wp2_with fail
                        refine (insert_any (w5.heap.size + 1) wr.heap.size i _ acc (Yf, n, o) _ (World.ownsRow.alloc HOr.out _) (by simp; omega) hi (by omega) (heap_alloc_new wr _) (HOr.out.fresh (Nat.le_refl _))).mono ?_
                        rintro e' w10 ⟨v10, rfl, ho10, hg10, hst10⟩
                        have hs10 := hg10.size
                        simp only [World.size_alloc] at hs10
                        have MB10 := hid ((MBr.out.step (Below.alloc (Below.refl _ _) (by omega) _)).step (OwnW.to_below (World.ownsRow.alloc HOr.out _) hg10 (Nat.le_refl _) (by simp; omega)))
                        have k0 := hg10.cell (a := ⟨w6.heap.size, 0, none⟩) (Lib.cell?_alloc_some _ xx0) HNE.out
                        have k1 := hg10.cell (a := ⟨w6.heap.size, 1, none⟩) (Lib.cell?_alloc_some _ xx1) HNE.out
                        have k2 := hg10.cell (a := ⟨w6.heap.size, 2, none⟩) (Lib.cell?_alloc_some _ xx2) HNE.out
                        have k3 := hg10.cell (a := ⟨w6.heap.size, 3, none⟩) (Lib.cell?_alloc_some _ xx3) HNE.out
                        have hne10 := hid (hst10 w6.heap.size (by simp; omega) HNE.out)
                        obtain ⟨p10, n10, c10, hv10⟩ := ho10.slice
                        subst hv10
                        have HO10 := hid (show OwnW (w10.setCell ⟨w5.heap.size, 1, none⟩ (.slice p10 n10 c10)) (w5.heap.size + 1) (.slice p10 n10 c10) _ from ownsRow_setCell_below ho10 (by simp) _)
                        have MB11 := hid (MB10.out.set (.slice p10 n10 c10))
                        have s1 := MB10.out.t1
                        have s2 := MB10.out.tf
                        have s3 := MB10.out.tl
                        have j0 := (World.cell?_setCell_other w10 ⟨w5.heap.size, 1, none⟩ ⟨w6.heap.size, 0, none⟩ (.slice p10 n10 c10) (by first | (simp; done) | (simp; omega))).trans k0
                        have j1 := (World.cell?_setCell_other w10 ⟨w5.heap.size, 1, none⟩ ⟨w6.heap.size, 1, none⟩ (.slice p10 n10 c10) (by first | (simp; done) | (simp; omega))).trans k1
                        have j2 := (World.cell?_setCell_other w10 ⟨w5.heap.size, 1, none⟩ ⟨w6.heap.size, 2, none⟩ (.slice p10 n10 c10) (by first | (simp; done) | (simp; omega))).trans k2
                        have j3 := (World.cell?_setCell_other w10 ⟨w5.heap.size, 1, none⟩ ⟨w6.heap.size, 3, none⟩ (.slice p10 n10 c10) (by first | (simp; done) | (simp; omega))).trans k3
                        have J := hid (And.intro j0 (And.intro j1 (And.intro j2 j3)))
                        clear ho10 hg10 hst10 xx0 xx1 xx2 xx3 t1 tf k0 k1 k2 k3 j0 j1 j2 j3 v0 v1 v2
                        go_wp2_with fail
                        go_roundw
                        case rel =>
                          first
                          | exact ⟨j + 1, _, _, by omega, by go_num, MB11.out, HO10.out, by rw [HWN.out]; exact HPN.out, HGN.out, J.out.1, J.out.2.1, J.out.2.2.1, J.out.2.2.2, by simp only [World.size_setCell]; omega, hne10.out⟩
                          | ((repeat apply Exists.intro); refine ⟨⟨j + 1, _, _, by omega, by go_num, MB11.out, HO10.out, by rw [HWN.out]; exact HPN.out, HGN.out, J.out.1, J.out.2.1, J.out.2.2.1, J.out.2.2.2, by simp only [World.size_setCell]; omega, hne10.out⟩, ?_⟩; first | rfl | (rw [hqe]; done) | (rw [hqe]; rfl) | (rw [hYf]; done) | (rw [← hYf]; done) | (rw [hYf, hqe]; done))
                        case measure => simp [intOf]; omega
              · have hj2 : j = q := by omega
                have HW : Hid (wins frame (l.take (k + 1)) = Z ++ winsN (o, f, n, e) j) := by
                  show _ = _
                  rw [Hd.out, wins_append, wins_one, HZ.out, hj2]
                  unfold winsOf
                  simp only
                  rw [HQ.out]
                  simp
                have MB7 := hid mb
                have HO7 := hid ho
                clear mb ho X0 X1 X2 X3
                go_wp2_with fail
                go_roundw
                case rel => exact ⟨k + 1, v, acc, by omega, by go_num, MB7.out, HO7.out, by rw [HW.out]; exact hp.out, HG.out⟩
                case measure => simp [intOf]; omega
          · have he : l.take k = l := List.take_of_length_le (by omega)
            rw [he] at hp
            have hAp : Apart (wins frame l) := (wgood_apart hg.out).perm hp.out
            have hlen : acc.length ≤ 200 := by rw [hp.out.length_eq]; have := wins_len (frame := frame) (by omega) HFA.out; have := HN.out; omega
            have HT0 := hid (tchk_of h1 h2 hlen hg.out)
            have HAP := hid hAp
            have HPP := hid hp.out
            obtain ⟨pv, nv, cv, hvv⟩ := ho.slice
            subst hvv
            have z0 := MB.out.rb.s0
            have z1 := MB.out.rb.s1
            obtain ⟨⟨x1, x2, x3, x4, x5, x6⟩, y2, y3, y4, y5, y6⟩ := MB.out
            clear ho mb hAp
            go_wp2_with fail
            refine bodyPost_ret (v := .tuple #[.agg #[.int .i64 frame, .slice pv nv cv], .int .i64 0]) (by simp [results, Try.results20, go_sem, z0, z1]) rfl ⟨.inr ⟨HF.out, .inl ⟨HAP.out, _, acc, rfl, OwnW.base (ownsRow_setCell_below (ownsRow_setCell_below HO.out (by simp; omega) _) (by simp; omega) _) (by omega), HPP.out, HT0.out⟩⟩, by go_grown⟩
end TabC
end Go.Proofs.Ytgehdpohiphcpaa
