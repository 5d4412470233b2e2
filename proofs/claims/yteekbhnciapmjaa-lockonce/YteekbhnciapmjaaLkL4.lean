/- LockOnce. -/
import Derived.Test.YteekbhnciapmjaaLkL2
set_option linter.unusedVariables false
namespace Go.Proofs.Yteekbhnciapmjaa
open Go.RowKit
open Go.Shelf Go.Sort
open SpanM SpanC IntsC
open RowsO hiding Wk
namespace LockC
open LockM
open NumC (Row)
theorem bndE_ok {l : List LockM.Wk} {i : Int} (h : bndE l i = 0) : 0 ≤ i ∧ i < l.length ∧ bndV l i = bnd l i.toNat := by
  have hv : bndV l i = bnd l i.toNat := by unfold bndV; rw [if_pos h]
  unfold bndE at h
  split at h
  · rename_i g; exact absurd h g
  · split at h
    · cases h
    · exact ⟨by omega, by omega, hv⟩
theorem bound_later (l : List LockM.Wk) (i : Int) (a : Option Addr) (c : Nat) (hc : l.length ≤ c) (w : World) (hr : RowsO.Wks w a l) (wx : World) (hb : Below w.heap.size w wx) :
    Calls Try.prog 11 #[.slice a l.length c, .int .i64 i] wx fun e w' => e = .returned (.tuple #[.int .i64 (bndV l i), .int .i64 (bndE l i)]) ∧ Below wx.heap.size wx w' :=
  Bound_any l i a c hc wx (hr.below hb (Nat.le_refl _))
theorem there_of {l : List LockM.Wk} (hk : Oks l) {U i t E : Nat} (hi : i < l.length) (e : EndP (wks l) U i E) (hc : (wks l).came i ≤ t) (ht : t < U) (hE : E = 0 ∨ t < E) : (wks l).There t (st (wks l) t) i := by
  refine ⟨hi, hc, ?_⟩
  have mo := fun t => most l hk t i hi
  have rise := fun {s r : Nat} (q : s ≤ r) => st_rise (w := wks l) (i := i) q
  rcases e with ⟨e1, e2⟩ | ⟨e1, e2, e3, e4⟩
  · have := rise (show t ≤ U by omega); have := mo U; omega
  · rcases hE with h | h
    · omega
    · have := rise (show t ≤ E - 1 by omega); have := mo (E - 1); omega
theorem lessN_le (w : Wks) (i c : Nat) : ∀ d, lessN w i c d ≤ d := by
  intro d
  induction d with
  | zero => simp [lessN]
  | succ d ih => simp only [lessN]; split <;> omega
/-- what the loop of LockOnce keeps -/
structure OnceK (l : List LockM.Wk) (i c d : Nat) (wh : Int) (bg : Bool) : Prop where
  th : ∀ s, c ≤ s → s < c + d → (wks l).There s (st (wks l) s) i
  who_ : wh = -1 ∨ ∃ s x : Nat, c ≤ s ∧ s < c + d ∧ whoI (wks l) s = (x : Int) ∧ wh = (x : Int) ∧ i < x
  bg_ : bg = true → ∃ s, c ≤ s ∧ s < c + d ∧ whoI (wks l) s = (i : Int)
theorem OnceK.start (l : List LockM.Wk) (i c : Nat) : OnceK l i c 0 (-1) false := ⟨fun s h1 h2 => by omega, .inl rfl, fun h => by cases h⟩
theorem OnceK.next {l : List LockM.Wk} {i c d : Nat} {wh : Int} {bg : Bool} (h : OnceK l i c d wh bg) (ht : (wks l).There (c + d) (st (wks l) (c + d)) i) : OnceK l i c (d + 1) wh (bg || (whoI (wks l) (c + d) == (i : Int))) := by
  refine ⟨fun s h1 h2 => ?_, ?_, fun hb => ?_⟩
  · rcases Nat.lt_or_ge s (c + d) with q | q
    · exact h.th s h1 q
    · have : s = c + d := by omega
      subst this; exact ht
  · rcases h.who_ with e | ⟨s, x, h1, h2, h3, h4, h5⟩
    · exact .inl e
    · exact .inr ⟨s, x, h1, by omega, h3, h4, h5⟩
  · rcases Bool.or_eq_true _ _ ▸ hb with e | e
    · obtain ⟨s, h1, h2, h3⟩ := h.bg_ e
      exact ⟨s, h1, by omega, h3⟩
    · exact ⟨c + d, by omega, by omega, by simpa using e⟩
theorem OnceK.less {l : List LockM.Wk} (hk : Oks l) {i c d x : Nat} {wh : Int} {bg : Bool} (h : OnceK l i c d wh bg) (ht : (wks l).There (c + d) (st (wks l) (c + d)) i) (hx : whoI (wks l) (c + d) = (x : Int)) (hix : i < x) : bg = false ∧ (wh = -1 ∨ wh = (x : Int)) ∧ OnceK l i c (d + 1) (x : Int) bg := by
  have hw := whoI_eq.1 hx
  have hz := (((st_plays (wks l)).inv hk.ok (c + d)).waits hk.ok ht (pick_best hw) hix).1
  have hbg : bg = false := by
    cases e : bg with
    | false => rfl
    | true =>
      exfalso
      obtain ⟨s, h1, h2, h3⟩ := h.bg_ e
      have hs := st_step (w := wks l) (i := i) (t := s)
      rw [if_pos (whoI_eq.1 h3)] at hs
      have := st_rise (w := wks l) (i := i) (show s + 1 ≤ c + d by omega)
      omega
  have hwh : wh = -1 ∨ wh = (x : Int) := by
    rcases h.who_ with e | ⟨s, y, h1, h2, h3, h4, h5⟩
    · exact .inl e
    · right
      have := (st_plays (wks l)).one hk.ok (Nat.le_of_lt h2) (h.th s h1 h2) ht h5 hix (pick_best (whoI_eq.1 h3)) (pick_best hw)
      rw [h4, this]
  refine ⟨hbg, hwh, ?_⟩
  have n := h.next ht
  have e : (whoI (wks l) (c + d) == (i : Int)) = false := by rw [hx]; simp; omega
  rw [e, Bool.or_false] at n
  exact ⟨n.th, .inr ⟨c + d, x, by omega, by omega, hx, rfl, hix⟩, n.bg_⟩
set_option maxRecDepth 20000 in
set_option maxHeartbeats 1000000 in
theorem lockOnce_skip (a0 : Option Addr) (cap0 : Nat) (l0 : List LockM.Wk) (hcp : l0.length ≤ cap0) (n1 n2 : Int) (w : World) (hr : RowsO.Wks w a0 l0) (q1 q2 : Int) (e1 : bndE l0 n1 = q1) (e2 : plyE l0 n2 = q2) (hbad : (q1 != 0) = true ∨ (q1 = 0 ∧ (q2 != 0) = true)) :
    Calls Try.prog 7 #[.slice a0 l0.length cap0, .int .i64 n1, .int .i64 n2] w fun e w' => e = .returned (.bool true) ∧ Below w.heap.size w w' := by
  have HB := hid (fun wx hb => bound_later l0 n1 a0 cap0 hcp w hr wx hb)
  have HP := hid (fun wx hb => play_later l0 n2 a0 cap0 w hr wx hb)
  rw [e1] at HB
  rw [e2] at HP
  have HLV := hid (fun wx => lives wx)
  generalize plyR l0 n2 = R1 at *
  generalize plyN l0 n2 = N1 at *
  generalize bndV l0 n1 = B1 at *
  clear hr e1 e2
  rcases hbad with he | ⟨rfl, hf⟩
  all_goals
    go_enter Try.func7, Try.ntmps7
    go_wp2_with (first | (go_at_call 11; refine (HB.out _ (Below.refl _ _)).mono ?_; rintro e w0 ⟨rfl, hb0⟩; have HB0 := hid hb0; clear hb0) | (go_at_call 17; refine (HP.out _ HB0.out).mono ?_; rintro e w1 ⟨⟨v1, v2, rfl, ho1, ho2⟩, hb1⟩; have T1 := hid (TP.start (HB0.out.trans (hb1.mono HB0.out.size)) ho1 ho2); obtain ⟨a1, m1, c1, rfl⟩ := OwnI.slice ho1; obtain ⟨a2, m2, c2, rfl⟩ := OwnI.slice ho2; clear ho1 ho2 hb1) | (go_at_call 20; refine (HLV.out _).mono ?_; rintro e w3 ⟨rfl, hb3⟩; have T3 := hid (T1.out.step hb3); clear T1; have T1 := hid T3.out; clear T3 hb3))
    go_ret
    exact ⟨rfl, T1.out.bel⟩
set_option maxRecDepth 20000 in
set_option maxHeartbeats 1000000 in
theorem lockOnce_ok (a0 : Option Addr) (cap0 : Nat) (l0 : List LockM.Wk) (hcp : l0.length ≤ cap0) (i u : Nat) (hi : i < l0.length) (w : World) (hr : RowsO.Wks w a0 l0) (e1 : bndE l0 i = 0) (e2 : plyE l0 u = 0) :
    Calls Try.prog 7 #[.slice a0 l0.length cap0, .int .i64 i, .int .i64 u] w fun e w' => e = .returned (.bool true) ∧ Below w.heap.size w w' := by
  have HB := hid (fun wx hb => bound_later l0 i a0 cap0 hcp w hr wx hb)
  have HP := hid (fun wx hb => play_later l0 u a0 cap0 w hr wx hb)
  obtain ⟨hk, _, hu2⟩ := plyE_ok e2
  have hl8 := hk.1
  have hbv := (bndE_ok e1).2.2
  rw [Int.toNat_natCast] at hbv
  rw [e1, hbv] at HB
  rw [e2, plyR_ok e2, plyN_ok e2] at HP
  have HLV := hid (fun wx => lives wx)
  have HR1 := hid (ranL_len (wks l0) u)
  have HN1 := hid (endL_len l0 u)
  have hcome := (hk.at hi).come
  obtain ⟨c, hc⟩ : ∃ c : Nat, (l0.getD i (0, [])).1 = (c : Int) := ⟨(l0.getD i (0, [])).1.toNat, by omega⟩
  have hc1000 : (c : Int) ≤ 1000 := by omega
  clear hcome
  have hcc : (wks l0).came i = c := by show (l0.getD i (0, [])).1.toNat = c; omega
  have HLE := hid (fun d hth => less_bound hk hi d (by rw [hcc]; exact hth))
  rw [hcc] at HLE
  have HTH := hid (fun t E (e : EndP (wks l0) u i E) (h1 : c ≤ t) => there_of hk hi e (by rw [hcc]; exact h1))
  have HLS := hid (fun d x wh bg (h : OnceK l0 i c d wh bg) => OnceK.less hk (x := x) h)
  have hS := endV_spec hk hi u
  have hE := endL_at l0 u hi
  have hEb : endV (wks l0) u i ≤ 20000 := by rcases hS with ⟨h, _⟩ | ⟨_, h, _⟩ <;> omega
  generalize endV (wks l0) u i = E at *
  have HS := hid hS
  have HRA := hid (fun t (ht : t < u) => ranL_at (wks l0) ht)
  have HWI := hid (fun t => whoI_cases (wks l0) t)
  have HLN : Hid (∀ d, lessN (wks l0) i c (d + 1) = lessN (wks l0) i c d + (if (i : Int) < whoI (wks l0) (c + d) then 1 else 0)) := fun d => rfl
  have HLD := hid (fun d => lessN_le (wks l0) i c d)
  obtain ⟨b, off, rfl, hbw, hwk, _⟩ := hr.at i hi
  have hz : (l0.getD i zWk).1 = (c : Int) := hc
  rw [hz] at hwk
  have HN : Hid ((wks l0).n = l0.length) := rfl
  generalize hR1 : ranL (wks l0) u = R1 at *
  generalize hN1 : endL l0 u = N1 at *
  have HOS := hid (OnceK.start l0 i c)
  have HON := hid (fun d wh bg (h : OnceK l0 i c d wh bg) => h.next)
  clear hr e1 e2 hk hS hbv hcc hc hz
  obtain ⟨n, hn⟩ : ∃ n, n = l0.length := ⟨_, rfl⟩
  rw [← hn] at HB HP HN1 hl8 hi HN ⊢
  clear hn
  have i1 : (i : Int) < (n : Int) := by omega
  go_enter Try.func7, Try.ntmps7
  go_wp2_with (first | (go_at_call 11; refine (HB.out _ (Below.refl _ _)).mono ?_; rintro e w0 ⟨rfl, hb0⟩; have HB0 := hid hb0; clear hb0) | (go_at_call 17; refine (HP.out _ HB0.out).mono ?_; rintro e w1 ⟨⟨v1, v2, rfl, ho1, ho2⟩, hb1⟩; have T1 := hid (TP.start (HB0.out.trans (hb1.mono HB0.out.size)) ho1 ho2); obtain ⟨a1, c1, rfl, _⟩ := row_of ho1 HR1.out; obtain ⟨a2, c2, rfl, _⟩ := row_of ho2 HN1.out; clear ho1 ho2 hb1) | (go_at_call 20; refine (HLV.out _).mono ?_; rintro e w3 ⟨rfl, hb3⟩; have T3 := hid (T1.out.step hb3); clear T1; have T1 := hid T3.out; clear T3; have f0 := T1.out.c0; have f1 := T1.out.c1; have d1 := (T1.out.bel.cell (by simpa using hbw)).trans hwk; clear hb3))
  clear f0 f1 d1
  go_loopw [11, 12, 13, 14] (fun v11 v12 v13 v14 wr => ∃ (d : Nat) (wh : Int) (bg : Bool), v14 = .int .i64 ((c + d : Nat) : Int) ∧ v11 = .int .i64 (lessN (wks l0) i c d) ∧ v12 = .int .i64 wh ∧ v13 = .bool bg ∧ Hid (TP w wr w1.heap.size (.slice a1 u c1) (.slice a2 n c2) R1 N1) ∧ Hid (OnceK l0 i c d wh bg) ∧ (c + d ≤ u ∨ d = 0)) (fun _ _ _ v14 _ => u - (intOf v14).toNat)
  case atStart => exact ⟨0, -1, false, by simp, by simp [lessN], rfl, rfl, T1.out, HOS.out, .inr rfl⟩
  case round =>
    obtain ⟨d, wh, bg, rfl, rfl, rfl, rfl, hT, hO, hd⟩ := hrel
    have f0 := hT.out.c0
    have f1 := hT.out.c1
    obtain ⟨_, _, ew1, hrow1⟩ := row_of hT.out.r HR1.out
    obtain ⟨_, _, ew2, hrow2⟩ := row_of hT.out.e HN1.out
    simp only [Value.slice.injEq] at ew1 ew2
    obtain ⟨rfl, _, rfl⟩ := ew1
    obtain ⟨rfl, _, rfl⟩ := ew2
    obtain ⟨b2, o2, rfl, _, d2⟩ := Row.at hrow2 i (by rw [HN1.out]; exact hi)
    rw [hE] at d2
    have hld := HLD.out d
    have HBD := hid (HLE.out d hO.out.th)
    obtain ⟨t, ht⟩ : ∃ t, c + d = t := ⟨_, rfl⟩
    rw [ht] at hd ⊢
    have hlb : lessN (wks l0) i c d ≤ 40000 := by
      rcases hd with h | h
      · omega
      · omega
    by_cases htu : t < u
    · have j1 : (t : Int) < (u : Int) := by omega
      by_cases hE0 : E = 0
      · have hcond : E = 0 ∨ t < E := .inl hE0
        have hth := HTH.out t E HS.out (by omega) htu hcond
        clear hcond
        subst hE0
        obtain ⟨b1, o1, rfl, _, d3⟩ := Row.at hrow1 t (by rw [HR1.out]; exact htu)
        have hx := HRA.out t htu
        rw [hx] at d3
        have HNX := hid (HON.out d wh bg hO.out (by rw [ht]; exact hth))
        rw [ht] at HNX
        have HLX := hid (HLN.out d)
        rw [ht] at HLX
        have HLW := hid (fun x hxx hix => HLS.out d x wh bg hO.out (by rw [ht]; exact hth) (by rw [ht]; exact hxx) hix)
        have hwi := HWI.out t
        clear hth hx hrow1 hrow2
        rcases hwi with hm | ⟨x, _, hm⟩
        · rw [hm] at d3 HNX HLX
          have q1 : ((-1 : Int) == (i : Int)) = false := beq_eq_false_iff_ne.2 (by omega)
          rw [q1, Bool.or_false] at HNX
          have q2 : ¬ (i : Int) < -1 := by omega
          have HLY : Hid (lessN (wks l0) i c (d + 1) = lessN (wks l0) i c d) := by
            show _ = _
            rw [HLX.out, if_neg q2, Nat.add_zero]
          clear hm
          cases bg with
          | false =>
            go_wp2_with fail
            go_roundw
            case rel => exact ⟨d + 1, wh, false, by go_num, by rw [HLY.out], rfl, rfl, hT.out, HNX.out, .inl (by omega)⟩
            case measure => simp [intOf]; omega
          | true =>
            go_wp2_with fail
            go_roundw
            case rel => exact ⟨d + 1, wh, true, by go_num, by rw [HLY.out], rfl, rfl, hT.out, HNX.out, .inl (by omega)⟩
            case measure => simp [intOf]; omega
        · rw [hm] at d3 HNX HLX
          by_cases hix : i < x
          · obtain ⟨hbg, hwh, hok⟩ := HLW.out x hm hix
            have HOK := hid hok
            subst hbg
            have q1 : ((x : Int) == (i : Int)) = false := by simp; omega
            have q2 : (i : Int) < (x : Int) := by omega
            have HLY : Hid (lessN (wks l0) i c (d + 1) = lessN (wks l0) i c d + 1) := by
              show _ = _
              rw [HLX.out, if_pos q2]
            clear hm hix hok
            rcases hwh with rfl | rfl
            · go_wp2_with fail
              go_roundw
              case rel => exact ⟨d + 1, x, false, by go_num, by rw [HLY.out]; go_num, rfl, rfl, hT.out, HOK.out, .inl (by omega)⟩
              case measure => simp [intOf]; omega
            · have q3 : (0 : Int) ≤ (x : Int) := by omega
              go_wp2_with fail
              go_roundw
              case rel => exact ⟨d + 1, x, false, by go_num, by rw [HLY.out]; go_num, rfl, rfl, hT.out, HOK.out, .inl (by omega)⟩
              case measure => simp [intOf]; omega
          · have q2 : ¬ (i : Int) < (x : Int) := by omega
            have HLY : Hid (lessN (wks l0) i c (d + 1) = lessN (wks l0) i c d) := by
              show _ = _
              rw [HLX.out, if_neg q2, Nat.add_zero]
            clear hm hix
            generalize hqb : ((x : Int) == (i : Int)) = qb at *
            cases bg with
            | false =>
              rw [Bool.false_or] at HNX
              go_wp2_with fail
              go_roundw
              case rel => exact ⟨d + 1, wh, qb, by go_num, by rw [HLY.out], rfl, rfl, hT.out, HNX.out, .inl (by omega)⟩
              case measure => simp [intOf]; omega
            | true =>
              rw [Bool.true_or] at HNX
              go_wp2_with fail
              go_roundw
              case rel => exact ⟨d + 1, wh, true, by go_num, by rw [HLY.out], rfl, rfl, hT.out, HNX.out, .inl (by omega)⟩
              case measure => simp [intOf]; omega
      · have j2 : ((E : Int) == 0) = false := by simp; omega
        by_cases htE : t < E
        · have hcond : E = 0 ∨ t < E := .inr htE
          have j3 : (t : Int) < (E : Int) := by omega
          have hth := HTH.out t E HS.out (by omega) htu hcond
          obtain ⟨b1, o1, rfl, _, d3⟩ := Row.at hrow1 t (by rw [HR1.out]; exact htu)
          have hx := HRA.out t htu
          rw [hx] at d3
          have HNX := hid (HON.out d wh bg hO.out (by rw [ht]; exact hth))
          rw [ht] at HNX
          have HLX := hid (HLN.out d)
          rw [ht] at HLX
          have HLW := hid (fun x hxx hix => HLS.out d x wh bg hO.out (by rw [ht]; exact hth) (by rw [ht]; exact hxx) hix)
          have hwi := HWI.out t
          clear hth hx hrow1 hrow2
          rcases hwi with hm | ⟨x, _, hm⟩
          · rw [hm] at d3 HNX HLX
            have q1 : ((-1 : Int) == (i : Int)) = false := beq_eq_false_iff_ne.2 (by omega)
            rw [q1, Bool.or_false] at HNX
            have q2 : ¬ (i : Int) < -1 := by omega
            have HLY : Hid (lessN (wks l0) i c (d + 1) = lessN (wks l0) i c d) := by
              show _ = _
              rw [HLX.out, if_neg q2, Nat.add_zero]
            clear hm
            cases bg with
            | false =>
              go_wp2_with fail
              go_roundw
              case rel => exact ⟨d + 1, wh, false, by go_num, by rw [HLY.out], rfl, rfl, hT.out, HNX.out, .inl (by omega)⟩
              case measure => simp [intOf]; omega
            | true =>
              go_wp2_with fail
              go_roundw
              case rel => exact ⟨d + 1, wh, true, by go_num, by rw [HLY.out], rfl, rfl, hT.out, HNX.out, .inl (by omega)⟩
              case measure => simp [intOf]; omega
          · rw [hm] at d3 HNX HLX
            by_cases hix : i < x
            · obtain ⟨hbg, hwh, hok⟩ := HLW.out x hm hix
              have HOK := hid hok
              subst hbg
              have q1 : ((x : Int) == (i : Int)) = false := by simp; omega
              have q2 : (i : Int) < (x : Int) := by omega
              have HLY : Hid (lessN (wks l0) i c (d + 1) = lessN (wks l0) i c d + 1) := by
                show _ = _
                rw [HLX.out, if_pos q2]
              clear hm hix hok
              rcases hwh with rfl | rfl
              · go_wp2_with fail
                go_roundw
                case rel => exact ⟨d + 1, x, false, by go_num, by rw [HLY.out]; go_num, rfl, rfl, hT.out, HOK.out, .inl (by omega)⟩
                case measure => simp [intOf]; omega
              · have q3 : (0 : Int) ≤ (x : Int) := by omega
                go_wp2_with fail
                go_roundw
                case rel => exact ⟨d + 1, x, false, by go_num, by rw [HLY.out]; go_num, rfl, rfl, hT.out, HOK.out, .inl (by omega)⟩
                case measure => simp [intOf]; omega
            · have q2 : ¬ (i : Int) < (x : Int) := by omega
              have HLY : Hid (lessN (wks l0) i c (d + 1) = lessN (wks l0) i c d) := by
                show _ = _
                rw [HLX.out, if_neg q2, Nat.add_zero]
              clear hm hix
              generalize hqb : ((x : Int) == (i : Int)) = qb at *
              cases bg with
              | false =>
                rw [Bool.false_or] at HNX
                go_wp2_with fail
                go_roundw
                case rel => exact ⟨d + 1, wh, qb, by go_num, by rw [HLY.out], rfl, rfl, hT.out, HNX.out, .inl (by omega)⟩
                case measure => simp [intOf]; omega
              | true =>
                rw [Bool.true_or] at HNX
                go_wp2_with fail
                go_roundw
                case rel => exact ⟨d + 1, wh, true, by go_num, by rw [HLY.out], rfl, rfl, hT.out, HNX.out, .inl (by omega)⟩
                case measure => simp [intOf]; omega
        · have j3 : ¬ (t : Int) < (E : Int) := by omega
          clear hrow1 hrow2 ht
          go_wp2_with fail
          go_ret
          exact ⟨by rw [decide_eq_true HBD.out]; rfl, hT.out.bel⟩
    · have j1 : ¬ (t : Int) < (u : Int) := by omega
      clear hrow1 hrow2 ht
      go_wp2_with fail
      go_ret
      exact ⟨by rw [decide_eq_true HBD.out]; rfl, hT.out.bel⟩
theorem lockOnce_walk (a0 : Option Addr) (len0 cap0 : Nat) (l0 : List RowsO.Wk) (n1 n2 : Int) (w : World) (w0 : RowsO.IsWks w a0 len0 cap0 l0) (w1 : SpanC.wf64 n1) (w2 : SpanC.wf64 n2) :
    Calls Try.prog 7 #[.slice a0 len0 cap0, .int .i64 n1, .int .i64 n2] w fun e w' => e = .returned (.bool true) ∧ Below w.heap.size w w' := by
  obtain ⟨rfl, hcp, _, hr, _⟩ := w0
  by_cases h1 : bndE l0 n1 = 0
  · by_cases h2 : plyE l0 n2 = 0
    · obtain ⟨g0, g1, _⟩ := bndE_ok h1
      obtain ⟨_, g2, _⟩ := plyE_ok h2
      obtain ⟨i, rfl⟩ : ∃ i : Nat, n1 = i := ⟨n1.toNat, by omega⟩
      obtain ⟨u, rfl⟩ : ∃ u : Nat, n2 = u := ⟨n2.toNat, by omega⟩
      exact lockOnce_ok a0 cap0 l0 hcp i u (by omega) w hr h1 h2
    · exact lockOnce_skip a0 cap0 l0 hcp n1 n2 w hr _ _ rfl rfl (.inr ⟨h1, by simpa using h2⟩)
  · exact lockOnce_skip a0 cap0 l0 hcp n1 n2 w hr _ _ rfl rfl (.inl (by simpa using h1))
end LockC
end Go.Proofs.Yteekbhnciapmjaa
