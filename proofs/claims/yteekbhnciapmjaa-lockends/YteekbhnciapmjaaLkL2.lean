/- LockOn. -/
import Derived.Test.YteekbhnciapmjaaLkL1
set_option linter.unusedVariables false
namespace Go.Proofs.Yteekbhnciapmjaa
open Go.RowKit
open Go.Shelf Go.Sort
open SpanM SpanC IntsC
open RowsO hiding Wk
namespace LockC
open LockM
open NumC (Row)
/-- Play in any later world -/
theorem play_later (l : List LockM.Wk) (u : Int) (a : Option Addr) (c : Nat) (w : World) (hr : RowsO.Wks w a l) (wx : World) (hb : Below w.heap.size w wx) :
    Calls Try.prog 17 #[.slice a l.length c, .int .i64 u] wx fun e w' => (∃ v1 v2, e = .returned (.tuple #[.agg #[v1, v2, .int .i64 0], .int .i64 (plyE l u)]) ∧ OwnI w' w.heap.size v1 (plyR l u) ∧ OwnI w' w.heap.size v2 (plyN l u)) ∧ Below wx.heap.size wx w' := by
  refine (Play_any l u a c wx (hr.below hb (Nat.le_refl _))).mono ?_
  rintro e w' ⟨⟨v1, v2, rfl, h1, h2⟩, h3⟩
  have := hb.size
  exact ⟨⟨v1, v2, rfl, OwnI.base' h1 (by omega), OwnI.base' h2 (by omega)⟩, h3⟩
theorem plyR_ok {l : List LockM.Wk} {u : Nat} (h : plyE l u = 0) : plyR l u = ranL (wks l) u := by unfold plyR; rw [if_pos h, Int.toNat_natCast]
theorem plyN_ok {l : List LockM.Wk} {u : Nat} (h : plyE l u = 0) : plyN l u = endL l u := by unfold plyN; rw [if_pos h, Int.toNat_natCast]
/-- two told plays -/
structure TP2 (w wr : World) (bx by_ : Nat) (v1 v2 v3 v4 : Value) (R1 N1 R2 N2 : List Int) : Prop where
  p : TP w wr bx v1 v2 R1 N1
  q : TP w wr by_ v3 v4 R2 N2
theorem TP2.step {w wr w' : World} {bx by_ : Nat} {v1 v2 v3 v4 : Value} {R1 N1 R2 N2 : List Int} (h : TP2 w wr bx by_ v1 v2 v3 v4 R1 N1 R2 N2) (hb : Below wr.heap.size wr w') : TP2 w w' bx by_ v1 v2 v3 v4 R1 N1 R2 N2 := ⟨h.p.step hb, h.q.step hb⟩
theorem TP2.drewN {w wr : World} {bx by_ : Nat} {v1 v2 v3 v4 : Value} {R1 N1 R2 N2 : List Int} (h : TP2 w wr bx by_ v1 v2 v3 v4 R1 N1 R2 N2) (n : Nat) : TP2 w (wr.drewN n) bx by_ v1 v2 v3 v4 R1 N1 R2 N2 := h.step (below_drewN (Below.refl _ _) n)
theorem TP2.start {w wa w2 : World} {bx : Nat} {v1 v2 v3 v4 : Value} {R1 N1 R2 N2 : List Int} (h : TP w wa bx v1 v2 R1 N1) (hb : Below wa.heap.size wa w2) (h3 : OwnI w2 w.heap.size v3 R2) (h4 : OwnI w2 w.heap.size v4 N2) : TP2 w (w2.alloc (.cells #[v3, v4, .int .i64 0] 34)) bx w2.heap.size v1 v2 v3 v4 R1 N1 R2 N2 :=
  ⟨(h.step hb).alloc _, TP.start (h.step hb).bel h3 h4⟩
set_option maxRecDepth 20000 in
set_option maxHeartbeats 1000000 in
theorem lockOn_skip (a0 : Option Addr) (cap0 : Nat) (l0 : List LockM.Wk) (n1 n2 : Int) (w : World) (hr : RowsO.Wks w a0 l0) (q1 q2 : Int) (e1 : plyE l0 n1 = q1) (e2 : plyE l0 n2 = q2) (hbad : (q1 != 0) = true ∨ (q1 = 0 ∧ (q2 != 0) = true) ∨ (q1 = 0 ∧ q2 = 0 ∧ n2 < n1)) :
    Calls Try.prog 9 #[.slice a0 l0.length cap0, .int .i64 n1, .int .i64 n2] w fun e w' => e = .returned (.bool true) ∧ Below w.heap.size w w' := by
  have HP1 := hid (fun wx hb => play_later l0 n1 a0 cap0 w hr wx hb)
  have HP2 := hid (fun wx hb => play_later l0 n2 a0 cap0 w hr wx hb)
  rw [e1] at HP1
  rw [e2] at HP2
  have HLV := hid (fun wx => lives wx)
  generalize plyR l0 n1 = R1 at *
  generalize plyN l0 n1 = N1 at *
  generalize plyR l0 n2 = R2 at *
  generalize plyN l0 n2 = N2 at *
  clear hr e1 e2
  rcases hbad with he | ⟨rfl, hf⟩ | ⟨rfl, rfl, hlt⟩
  all_goals
    go_enter Try.func9, Try.ntmps9
    go_wp2_with (first | (go_at_call_of 17 (Value.int .i64 n1); refine (HP1.out _ (Below.refl _ _)).mono ?_; rintro e w1 ⟨⟨v1, v2, rfl, ho1, ho2⟩, hb1⟩; have T1 := hid (TP.start hb1 ho1 ho2); obtain ⟨a1, m1, c1, rfl⟩ := OwnI.slice ho1; obtain ⟨a2, m2, c2, rfl⟩ := OwnI.slice ho2; clear ho1 ho2 hb1) | (go_at_call_of 17 (Value.int .i64 n2); refine (HP2.out _ T1.out.bel).mono ?_; rintro e w2 ⟨⟨v3, v4, rfl, ho3, ho4⟩, hb2⟩; have T2 := hid (TP2.start T1.out hb2 ho3 ho4); obtain ⟨a3, m3, c3, rfl⟩ := OwnI.slice ho3; obtain ⟨a4, m4, c4, rfl⟩ := OwnI.slice ho4; clear ho3 ho4 hb2) | (go_at_call 20; refine (HLV.out _).mono ?_; rintro e w3 ⟨rfl, hb3⟩; have T3 := hid (T2.out.step hb3); clear T2; have T2 := hid T3.out; clear T3 hb3))
    go_ret
    exact ⟨rfl, T2.out.p.bel⟩
theorem row_of {w : World} {B : Nat} {v : Value} {l : List Int} (h : OwnI w B v l) {n : Nat} (hn : l.length = n) : ∃ a cap, v = .slice a n cap ∧ Row w a l := by
  obtain ⟨a, cap, e, hr, _⟩ := owni_row h
  exact ⟨a, cap, by rw [← hn]; exact e, hr⟩
set_option maxRecDepth 20000 in
set_option maxHeartbeats 1000000 in
theorem lockOn_ok (a0 : Option Addr) (cap0 : Nat) (l0 : List LockM.Wk) (u m : Nat) (hum : u ≤ m) (w : World) (hr : RowsO.Wks w a0 l0) (e1 : plyE l0 u = 0) (e2 : plyE l0 m = 0) :
    Calls Try.prog 9 #[.slice a0 l0.length cap0, .int .i64 u, .int .i64 m] w fun e w' => e = .returned (.bool true) ∧ Below w.heap.size w w' := by
  have HP1 := hid (fun wx hb => play_later l0 u a0 cap0 w hr wx hb)
  have HP2 := hid (fun wx hb => play_later l0 m a0 cap0 w hr wx hb)
  obtain ⟨hk, _, hu2⟩ := plyE_ok e1
  obtain ⟨_, _, hm2⟩ := plyE_ok e2
  have hl8 := hk.1
  rw [e1, plyR_ok e1, plyN_ok e1] at HP1
  rw [e2, plyR_ok e2, plyN_ok e2] at HP2
  have HLV := hid (fun wx => lives wx)
  have hR1 := ranL_len (wks l0) u
  have hR2 := ranL_len (wks l0) m
  have hN1 := endL_len l0 u
  have hN2 := endL_len l0 m
  have HRR := hid (fun t (ht : t < u) => (ranL_at (wks l0) ht).trans (ranL_at (wks l0) (show t < m by omega)).symm)
  have HNN : Hid (∀ i, i < l0.length → ∃ x y : Nat, (endL l0 u).getD i 0 = (x : Int) ∧ (endL l0 m).getD i 0 = (y : Int) ∧ (0 < x → y = x) ∧ (x = 0 → 0 < y → u < y) ∧ x ≤ 20000 ∧ y ≤ 20000) := fun i hi => by
    have s1 := endV_spec hk hi u
    have s2 := endV_spec hk hi m
    have s3 := s1.later hk hi hum s2
    refine ⟨_, _, endL_at l0 u hi, endL_at l0 m hi, s3.1, s3.2, ?_, ?_⟩
    · rcases s1 with ⟨h, _⟩ | ⟨_, h, _⟩ <;> omega
    · rcases s2 with ⟨h, _⟩ | ⟨_, h, _⟩ <;> omega
  generalize ranL (wks l0) u = R1 at *
  generalize ranL (wks l0) m = R2 at *
  generalize endL l0 u = N1 at *
  generalize endL l0 m = N2 at *
  have HR1 := hid hR1
  have HR2 := hid hR2
  have HN1 := hid hN1
  have HN2 := hid hN2
  clear hr e1 e2 hk hR1 hR2 hN1 hN2
  generalize l0.length = n at *
  have i0 : ¬ (m : Int) < (u : Int) := by omega
  go_enter Try.func9, Try.ntmps9
  go_wp2_with (first | (go_at_call_of 17 (Value.int .i64 u); refine (HP1.out _ (Below.refl _ _)).mono ?_; rintro e w1 ⟨⟨v1, v2, rfl, ho1, ho2⟩, hb1⟩; have T1 := hid (TP.start hb1 ho1 ho2); obtain ⟨a1, c1, rfl, _⟩ := row_of ho1 HR1.out; obtain ⟨a2, c2, rfl, _⟩ := row_of ho2 HN1.out; clear ho1 ho2 hb1) | (go_at_call_of 17 (Value.int .i64 m); refine (HP2.out _ T1.out.bel).mono ?_; rintro e w2 ⟨⟨v3, v4, rfl, ho3, ho4⟩, hb2⟩; have T2 := hid (TP2.start T1.out hb2 ho3 ho4); obtain ⟨a3, c3, rfl, _⟩ := row_of ho3 HR2.out; obtain ⟨a4, c4, rfl, _⟩ := row_of ho4 HN2.out; clear ho3 ho4 hb2) | (go_at_call 20; refine (HLV.out _).mono ?_; rintro e w3 ⟨rfl, hb3⟩; have T3 := hid (T2.out.step hb3); clear T2; have T2 := hid T3.out; clear T3 hb3; have f0 := T2.out.p.c0; have f1 := T2.out.p.c1; have f2 := T2.out.q.c0; have f3 := T2.out.q.c1))
  clear f0 f1 f2 f3
  go_loopw [71] (fun v71 wr => ∃ (t : Nat), t ≤ u ∧ v71 = .int .i64 t ∧ Hid (TP2 w wr w1.heap.size w2.heap.size (.slice a1 u c1) (.slice a2 n c2) (.slice a3 m c3) (.slice a4 n c4) R1 N1 R2 N2)) (fun v71 _ => u - (intOf v71).toNat)
  case atStart => exact ⟨0, by omega, rfl, T2.out⟩
  case round =>
    obtain ⟨t, htu, rfl, ht2⟩ := hrel
    have f0 := ht2.out.p.c0
    have f1 := ht2.out.p.c1
    have f2 := ht2.out.q.c0
    have f3 := ht2.out.q.c1
    by_cases hlt : t < u
    · have i1 : (t : Int) < (u : Int) := by omega
      have i2 : (t : Int) < (m : Int) := by omega
      obtain ⟨_, _, ew1, hrow1⟩ := row_of ht2.out.p.r HR1.out
      obtain ⟨_, _, ew3, hrow3⟩ := row_of ht2.out.q.r HR2.out
      simp only [Value.slice.injEq] at ew1 ew3
      obtain ⟨rfl, _, rfl⟩ := ew1
      obtain ⟨rfl, _, rfl⟩ := ew3
      obtain ⟨b1, o1, rfl, _, d1⟩ := Row.at hrow1 t (by rw [HR1.out]; exact hlt)
      obtain ⟨b3, o3, rfl, _, d3⟩ := Row.at hrow3 t (by rw [HR2.out]; omega)
      have heq := HRR.out t hlt
      rw [← heq] at d3
      generalize R1.getD t 0 = z at *
      clear heq hrow1 hrow3
      go_wp2_with fail
      go_quiet (fail)
      go_wp2_with fail
      go_roundw
      case rel => exact ⟨t + 1, by omega, by go_num, ht2.out.drewN _⟩
      case measure => simp [intOf]; omega
    · have i1 : ¬ (t : Int) < (u : Int) := by omega
      go_wp2_with fail
      obtain ⟨wz, hwz⟩ : ∃ y, y = wr := ⟨_, rfl⟩
      go_loopw [89] (fun v89 wr => ∃ (i : Nat), i ≤ n ∧ v89 = .int .i64 i ∧ Hid (TP2 w wr w1.heap.size w2.heap.size (.slice a1 u c1) (.slice a2 n c2) (.slice a3 m c3) (.slice a4 n c4) R1 N1 R2 N2)) (fun v89 _ => n - (intOf v89).toNat)
      case atStart => exact ⟨0, by omega, rfl, ht2.out⟩
      case round =>
        obtain ⟨i, hin, rfl, ht3⟩ := hrel
        clear f0 f1 f2 f3 hwz
        have f0 := ht3.out.p.c0
        have f1 := ht3.out.p.c1
        have f2 := ht3.out.q.c0
        have f3 := ht3.out.q.c1
        by_cases hlt2 : i < n
        · have i2 : (i : Int) < (n : Int) := by omega
          obtain ⟨_, _, ew2, hrow2⟩ := row_of ht3.out.p.e HN1.out
          obtain ⟨_, _, ew4, hrow4⟩ := row_of ht3.out.q.e HN2.out
          simp only [Value.slice.injEq] at ew2 ew4
          obtain ⟨rfl, _, rfl⟩ := ew2
          obtain ⟨rfl, _, rfl⟩ := ew4
          obtain ⟨b2, o2, rfl, _, d2⟩ := Row.at hrow2 i (by rw [HN1.out]; exact hlt2)
          obtain ⟨b4, o4, rfl, _, d4⟩ := Row.at hrow4 i (by rw [HN2.out]; exact hlt2)
          obtain ⟨x, y, ex, ey, q1, q2, q3, q4⟩ := HNN.out i hlt2
          rw [ex] at d2
          rw [ey] at d4
          clear hrow2 hrow4 ex ey
          by_cases hx : 0 < x
          · have hy := q1 hx
            subst hy
            have j1 : (0 : Int) < (y : Int) := by omega
            have j2 : ((y : Int) == 0) = false := by simp; omega
            clear hx q1 q2
            go_wp2_with fail
            go_roundw
            case rel => exact ⟨i + 1, by omega, by go_num, ht3.out⟩
            case measure => simp [intOf]; omega
          · have hx0 : x = 0 := by omega
            subst hx0
            clear q1 hx
            by_cases hy : 0 < y
            · have j1 : (0 : Int) < (y : Int) := by omega
              have j2 : ¬ (y : Int) ≤ (u : Int) := by have := q2 rfl hy; omega
              clear hy q2
              go_wp2_with fail
              go_roundw
              case rel => exact ⟨i + 1, by omega, by go_num, ht3.out⟩
              case measure => simp [intOf]; omega
            · have hy0 : y = 0 := by omega
              subst hy0
              clear hy q2
              go_wp2_with fail
              go_roundw
              case rel => exact ⟨i + 1, by omega, by go_num, ht3.out⟩
              case measure => simp [intOf]; omega
        · have i2 : ¬ (i : Int) < (n : Int) := by omega
          go_wp2_with fail
          go_ret
          exact ⟨rfl, ht3.out.p.bel⟩
theorem lockOn_walk (a0 : Option Addr) (len0 cap0 : Nat) (l0 : List RowsO.Wk) (n1 n2 : Int) (w : World) (w0 : RowsO.IsWks w a0 len0 cap0 l0) (w1 : SpanC.wf64 n1) (w2 : SpanC.wf64 n2) :
    Calls Try.prog 9 #[.slice a0 len0 cap0, .int .i64 n1, .int .i64 n2] w fun e w' => e = .returned (.bool true) ∧ Below w.heap.size w w' := by
  obtain ⟨rfl, hc, _, hr, _⟩ := w0
  by_cases h1 : plyE l0 n1 = 0
  · by_cases h2 : plyE l0 n2 = 0
    · by_cases h3 : n2 < n1
      · exact lockOn_skip a0 cap0 l0 n1 n2 w hr _ _ rfl rfl (.inr (.inr ⟨h1, h2, h3⟩))
      · obtain ⟨_, g1, _⟩ := plyE_ok h1
        obtain ⟨_, g2, _⟩ := plyE_ok h2
        obtain ⟨u, rfl⟩ : ∃ u : Nat, n1 = u := ⟨n1.toNat, by omega⟩
        obtain ⟨m, rfl⟩ : ∃ m : Nat, n2 = m := ⟨n2.toNat, by omega⟩
        exact lockOn_ok a0 cap0 l0 u m (by omega) w hr h1 h2
    · exact lockOn_skip a0 cap0 l0 n1 n2 w hr _ _ rfl rfl (.inr (.inl ⟨h1, by simpa using h2⟩))
  · exact lockOn_skip a0 cap0 l0 n1 n2 w hr _ _ rfl rfl (.inl (by simpa using h1))
end LockC
end Go.Proofs.Yteekbhnciapmjaa
