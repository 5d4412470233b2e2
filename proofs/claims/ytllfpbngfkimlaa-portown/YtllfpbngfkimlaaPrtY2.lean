/- Write, spare cells of its row too (gen_prty.py writes this text). -/
import Derived.Test.YtllfpbngfkimlaaPrtY
import Derived.Test.YtllfpbngfkimlaaPrtE
set_option linter.unusedVariables false
namespace Go.Proofs.Ytllfpbngfkimlaa
open Go.RowKit
open Go.Shelf Go.Sort
open SpanM SpanC IntsC
namespace PortT
open PrtM PortC
set_option maxRecDepth 20000 in
set_option maxHeartbeats 1600000 in
theorem Write_sam (sz rm fr tm : Int) (a : Option Addr) (n c : Nat) (s : ByteArray) (now : Int) (w : World) (hs : ¬ sz < (s.size : Int))
    (HC : ∀ wx, Below w.heap.size w wx → Calls Try.prog 40 #[.agg #[.int .i64 1, .int .i64 sz, .int .i64 rm, .int .i64 fr, .slice a n c, .int .i64 tm], .int .i64 now] wx fun e w' => e = .returned (.int .i64 0) ∧ Below wx.heap.size wx w')
    (HW : ∀ wx, Below w.heap.size w wx → Calls Try.prog 80 #[.agg #[], .agg #[.int .i64 1, .int .i64 sz, .int .i64 rm, .int .i64 fr, .slice a n c, .int .i64 tm], .string s, .int .i64 now] wx fun e w' => (∃ u, e = .returned (.tuple #[.agg #[.int .i64 1, .int .i64 sz, .int .i64 rm, .int .i64 fr, u, .int .i64 now], .int .i64 0]) ∧ OwnT w' wx.heap.size u [s]) ∧ Below wx.heap.size wx w') :
    Calls Try.prog 15 #[.agg #[.int .i64 1, .int .i64 sz, .int .i64 rm, .int .i64 fr, .slice a n c, .int .i64 tm], .string s, .int .i64 now] w fun e w' => (∃ u, e = .returned (.tuple #[.agg #[.int .i64 1, .int .i64 sz, .int .i64 rm, .int .i64 fr, u, .int .i64 now], .int .i64 0]) ∧ OwnT w' w.heap.size u [s]) ∧ Below w.heap.size w w' := by
  have HC1 := hid HC
  have HM := hid HW
  clear HC HW
  have hm := m_wr1
  go_enter Try.func15, Try.ntmps15
  go_wp2_with (go_at_call 40; refine (HC1.out _ (by go_grown)).mono ?_; rintro e w2 ⟨rfl, hb2⟩; obtain ⟨q1, q2, hb, hs⟩ := two_ports hb2; have Q1 := hid q1; have Q2 := hid q2; have HB := hid hb; have HS := hid hs; obtain ⟨d0, d1, d2, d3, d4, d5⟩ := six_of q1; obtain ⟨y0, y1, y2, y3, y4, y5⟩ := six_of q2; have y6 := froz_of q2 0; have y7 := froz_of q2 1; have y8 := froz_of q2 2; have y9 := froz_of q2 3; have y10 := froz_of q2 4; have y11 := froz_of q2 5; clear hb2 q1 q2 hb hs)
  go_region_with (first | (go_at_call 41; refine (carrier_1 _).mono ?_; rintro e wa ⟨rfl, rfl⟩) | (go_at_call 80; refine (HM.out _ (Below.drew HB.out)).mono ?_; rintro e w3 ⟨⟨u, rfl, ho3⟩, hb3⟩; have hv3 : ∃ au nu cu, u = .slice au nu cu := (by obtain ⟨a9, c9, e9⟩ := RowG.Own.slice ho3.o; exact ⟨_, _, _, e9⟩); obtain ⟨au, nu, cu, hu⟩ := hv3; subst hu; have HO3 := hid (OwnT.base ho3 (show w.heap.size ≤ _ from HB.out.size)); clear ho3; have HB3 := hid hb3; have q2 := box_below (heap_dr Q2.out) hb3 (Nat.le_refl _); have Q4 := hid q2; obtain ⟨x0, x1, x2, x3, x4, x5⟩ := six_of q2; have x6 := froz_of q2 0; have x7 := froz_of q2 1; have x8 := froz_of q2 2; have x9 := froz_of q2 3; have x10 := froz_of q2 4; have x11 := froz_of q2 5; clear hb3 q2))
  all_goals (go_wp2_with fail)
  all_goals (
    obtain ⟨w7, hw7⟩ : ∃ y, y = st6 w3 (w.heap.size + 1) (.int .i64 1) (.int .i64 sz) (.int .i64 rm) (.int .i64 fr) (.slice au nu cu) (.int .i64 now) := ⟨_, rfl⟩
    have hw8 := hw7
    simp only [st6] at hw8
    rw [← hw8]
    clear hw8
    have HB7 : Hid (Below w.heap.size w w7) := by rw [hw7]; exact st6_below (bel_dr HB.out HB3.out) (by omega)
    have HO7 : Hid (OwnT w7 w.heap.size (.slice au nu cu) [s]) := by rw [hw7]; exact st6_ownT HO3.out (orow_ne_box HO3.out.o Q4.out (by decide))
    have HRES : Hid (Sem.run Try.prog (loadVar 36 ⟨w.heap.size + 1, 0, none⟩) w7 = .ok (.agg #[.int .i64 1, .int .i64 sz, .int .i64 rm, .int .i64 fr, .slice au nu cu, .int .i64 now]) w7) := by
      refine load_port ?_
      rw [hw7]
      exact st6_heap Q4.out
    (try simp only [Exit.inBlock, Exit.then])
    refine bodyPost_ret (by simp [results, Try.results15, Act.put]; rw [as_addr, Result.andThen_ok, HRES.out, Result.andThen_ok]) rfl ?_
    exact ⟨⟨_, rfl, HO7.out⟩, HB7.out⟩)
set_option maxRecDepth 20000 in
set_option maxHeartbeats 1600000 in
theorem Write_que (sz rm fr tm : Int) (a : Option Addr) (n c : Nat) (s : ByteArray) (now : Int) (w : World) (hs : ¬ sz < (s.size : Int))
    (HC : ∀ wx, Below w.heap.size w wx → Calls Try.prog 40 #[.agg #[.int .i64 2, .int .i64 sz, .int .i64 rm, .int .i64 fr, .slice a n c, .int .i64 tm], .int .i64 now] wx fun e w' => e = .returned (.int .i64 0) ∧ Below wx.heap.size wx w')
    (li : List ByteArray) (HW : ∀ wx, Below w.heap.size w wx → Calls Try.prog 85 #[.agg #[], .agg #[.int .i64 2, .int .i64 sz, .int .i64 rm, .int .i64 fr, .slice a n c, .int .i64 tm], .string s, .int .i64 now] wx fun e w' => (∃ u, e = .returned (.tuple #[.agg #[.int .i64 2, .int .i64 sz, .int .i64 rm, .int .i64 fr, u, .int .i64 tm], .int .i64 0]) ∧ OwnT w' wx.heap.size u li) ∧ Below wx.heap.size wx w') :
    Calls Try.prog 15 #[.agg #[.int .i64 2, .int .i64 sz, .int .i64 rm, .int .i64 fr, .slice a n c, .int .i64 tm], .string s, .int .i64 now] w fun e w' => (∃ u, e = .returned (.tuple #[.agg #[.int .i64 2, .int .i64 sz, .int .i64 rm, .int .i64 fr, u, .int .i64 tm], .int .i64 0]) ∧ OwnT w' w.heap.size u li) ∧ Below w.heap.size w w' := by
  have HC1 := hid HC
  have HM := hid HW
  clear HC HW
  have hm := m_wr2
  go_enter Try.func15, Try.ntmps15
  go_wp2_with (go_at_call 40; refine (HC1.out _ (by go_grown)).mono ?_; rintro e w2 ⟨rfl, hb2⟩; obtain ⟨q1, q2, hb, hs⟩ := two_ports hb2; have Q1 := hid q1; have Q2 := hid q2; have HB := hid hb; have HS := hid hs; obtain ⟨d0, d1, d2, d3, d4, d5⟩ := six_of q1; obtain ⟨y0, y1, y2, y3, y4, y5⟩ := six_of q2; have y6 := froz_of q2 0; have y7 := froz_of q2 1; have y8 := froz_of q2 2; have y9 := froz_of q2 3; have y10 := froz_of q2 4; have y11 := froz_of q2 5; clear hb2 q1 q2 hb hs)
  go_region_with (first | (go_at_call 41; refine (carrier_2 _).mono ?_; rintro e wa ⟨rfl, rfl⟩) | (go_at_call 85; refine (HM.out _ (Below.drew HB.out)).mono ?_; rintro e w3 ⟨⟨u, rfl, ho3⟩, hb3⟩; have hv3 : ∃ au nu cu, u = .slice au nu cu := (by obtain ⟨a9, c9, e9⟩ := RowG.Own.slice ho3.o; exact ⟨_, _, _, e9⟩); obtain ⟨au, nu, cu, hu⟩ := hv3; subst hu; have HO3 := hid (OwnT.base ho3 (show w.heap.size ≤ _ from HB.out.size)); clear ho3; have HB3 := hid hb3; have q2 := box_below (heap_dr Q2.out) hb3 (Nat.le_refl _); have Q4 := hid q2; obtain ⟨x0, x1, x2, x3, x4, x5⟩ := six_of q2; have x6 := froz_of q2 0; have x7 := froz_of q2 1; have x8 := froz_of q2 2; have x9 := froz_of q2 3; have x10 := froz_of q2 4; have x11 := froz_of q2 5; clear hb3 q2))
  all_goals (go_wp2_with fail)
  all_goals (
    obtain ⟨w7, hw7⟩ : ∃ y, y = st6 w3 (w.heap.size + 1) (.int .i64 2) (.int .i64 sz) (.int .i64 rm) (.int .i64 fr) (.slice au nu cu) (.int .i64 tm) := ⟨_, rfl⟩
    have hw8 := hw7
    simp only [st6] at hw8
    rw [← hw8]
    clear hw8
    have HB7 : Hid (Below w.heap.size w w7) := by rw [hw7]; exact st6_below (bel_dr HB.out HB3.out) (by omega)
    have HO7 : Hid (OwnT w7 w.heap.size (.slice au nu cu) li) := by rw [hw7]; exact st6_ownT HO3.out (orow_ne_box HO3.out.o Q4.out (by decide))
    have HRES : Hid (Sem.run Try.prog (loadVar 36 ⟨w.heap.size + 1, 0, none⟩) w7 = .ok (.agg #[.int .i64 2, .int .i64 sz, .int .i64 rm, .int .i64 fr, .slice au nu cu, .int .i64 tm]) w7) := by
      refine load_port ?_
      rw [hw7]
      exact st6_heap Q4.out
    (try simp only [Exit.inBlock, Exit.then])
    refine bodyPost_ret (by simp [results, Try.results15, Act.put]; rw [as_addr, Result.andThen_ok, HRES.out, Result.andThen_ok]) rfl ?_
    exact ⟨⟨_, rfl, HO7.out⟩, HB7.out⟩)
theorem Write_any (p : Pt) (a : Option Addr) (c : Nat) (s : ByteArray) (now : Int) (w : World) (hr : RdS w a p.texts) (hn : a = none → p.texts.length = 0 ∧ c = 0) :
    Calls Try.prog 15 #[vP p (.slice a p.texts.length c), .string s, .int .i64 now] w fun e w' => (∃ u, e = .returned (.tuple #[vP (wrQ p s now) u, .int .i64 (wrE p s now)]) ∧ OwnT w' w.heap.size u (wrQ p s now).texts) ∧ Below w.heap.size w w' := by
  have HC := fun wx (hb : Below w.heap.size w wx) => checkNow_any p a c now wx (hr.below hb (Nat.le_refl _))
  have fail : ∀ {e : Ending} {w' : World}, wrE p s now ≠ 0 → e = .returned (.tuple #[.agg z6, .int .i64 (wrE p s now)]) ∧ Below w.heap.size w w' → (∃ u, e = .returned (.tuple #[vP (wrQ p s now) u, .int .i64 (wrE p s now)]) ∧ OwnT w' w.heap.size u (wrQ p s now).texts) ∧ Below w.heap.size w w' := by
    intro e w' h0 h
    have hq : wrQ p s now = zPt := by unfold wrQ; rw [if_neg h0]
    rw [hq]
    exact ⟨⟨.slice none 0 0, h.1, OwnT.nil _ _⟩, h.2⟩
  rcases nowE_cases p now with ⟨h0, h1, _⟩ | ⟨h0, h1, h2⟩
  · have e1 := h1 s
    refine (Write_now p.kind p.size p.room p.fresh p.tm (nowE p now) a p.texts.length c s now w (by simp [h0]) HC).mono fun e w' h => fail (by rw [e1]; exact h0) ?_
    rw [e1]; exact h
  · rw [h0] at HC
    have e1 := wrE_of (s := s) h1 h2
    by_cases h3 : p.size < (s.size : Int)
    · rw [if_pos h3] at e1
      refine (Write_large p.kind p.size p.room p.fresh p.tm a p.texts.length c s now w h3 HC).mono fun e w' h => fail (by rw [e1]; decide) ?_
      rw [e1]; exact h
    · rw [if_neg h3] at e1
      obtain ⟨⟨k12, hs, hk1, hk2⟩, ⟨f1, f2⟩, f3, f4⟩ := chk_zero h1
      have hl : p.texts.length ≤ 1000 := by
        rcases k12 with k | k
        · have := (hk1 k).1; omega
        · have := (hk2 k).2.1; omega
      have hz : ∀ x ∈ p.texts, x.size ≤ 5000 := fun x hx => by have := f2 x hx; omega
      have hzs : s.size ≤ 5000 := by omega
      rcases k12 with k | k
      · rw [if_neg (by intro q; omega)] at e1
        have hq : wrQ p s now = { p with texts := [s], tm := now } := by unfold wrQ; rw [if_pos e1]; unfold wrP; rw [if_pos k]
        rw [hq, e1]
        obtain ⟨kd, sz, rm, fr, l, tm⟩ := p
        simp only at k
        subst k
        exact Write_sam sz rm fr tm a l.length c s now w h3 HC (fun wx hb => swr_any 1 sz rm fr tm (.slice a l.length c) s now wx hzs)
      · by_cases h4 : (p.texts.length : Int) = p.room
        · rw [if_pos ⟨k, h4⟩] at e1
          obtain ⟨kd, sz, rm, fr, l, tm⟩ := p
          simp only at k
          subst k
          refine (Write_full sz rm fr tm a l.length c s now w h3 HC (fun wx hb => qwr_full 2 sz rm fr tm a l.length c s now wx (by simpa using h4))).mono fun e w' h => fail (by rw [e1]; decide) ?_
          rw [e1]; exact h
        · rw [if_neg (fun q => h4 q.2)] at e1
          have hq : wrQ p s now = { p with texts := p.texts ++ [s] } := by unfold wrQ; rw [if_pos e1]; unfold wrP; rw [if_neg (by omega)]
          rw [hq, e1]
          obtain ⟨kd, sz, rm, fr, l, tm⟩ := p
          simp only at k
          subst k
          exact Write_que sz rm fr tm a l.length c s now w h3 HC (l ++ [s]) (fun wx hb => qwr_any 2 sz rm fr tm a c l s now wx (by simpa using h4) (hr.below hb (Nat.le_refl _)) hn hl hz hzs)
end PortT
end Go.Proofs.Ytllfpbngfkimlaa
