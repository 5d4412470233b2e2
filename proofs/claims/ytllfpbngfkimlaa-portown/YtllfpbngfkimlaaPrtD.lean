/- Package port: what a queue does. -/
import Derived.Test.YtllfpbngfkimlaaPrtC
set_option linter.unusedVariables false
namespace Go.Proofs.Ytllfpbngfkimlaa
open Go.RowKit
open Go.Shelf Go.Sort
open SpanM SpanC IntsC
namespace PortC
open PrtM
theorem orow_ne_box {w : World} {B e size n bx T : Nat} {v : Value} {xs : List Value} {cs : Array Value} (h : w.ownsRow B e size v n xs) (hb : w.heap[bx]? = some (.cells cs T)) (hT : T ≠ e) : v.ownBlock ≠ some bx := by
  intro q
  rcases h.2 with ⟨rfl, _⟩ | ⟨g', cap', cur, rfl, _, hg, _⟩
  · simp [Value.ownBlock] at q
  · simp only [Value.ownBlock, Option.some.injEq] at q
    subst q
    rw [hg] at hb
    injection hb with hb
    injection hb with _ h2 _
    exact hT h2.symm
theorem rd_one (w : World) (s : ByteArray) : RdS (w.alloc (.cells #[.string s] 9)) (some ⟨w.heap.size, 0, none⟩) [s] := by
  obtain ⟨a, cap, e, h, _⟩ := RowG.Own.rd (own_one w 0 (Nat.zero_le _) s)
  simp only [Value.slice.injEq] at e
  obtain ⟨rfl, _⟩ := e
  exact h
set_option maxRecDepth 20000 in
set_option maxHeartbeats 400000 in
theorem qwr_full (kd sz rm fr tm : Int) (a : Option Addr) (n c : Nat) (s : ByteArray) (now : Int) (w : World) (h : ((n : Int) == rm) = true) :
    Calls Try.prog 85 #[.agg #[], .agg #[.int .i64 kd, .int .i64 sz, .int .i64 rm, .int .i64 fr, .slice a n c, .int .i64 tm], .string s, .int .i64 now] w fun e w' => e = .returned (.tuple #[.agg z6, .int .i64 6]) ∧ Below w.heap.size w w' := by
  go_enter Try.func85, Try.ntmps85
  go_wp2_with fail
  go_returns
  exact ⟨rfl, by go_grown⟩
set_option maxRecDepth 20000 in
set_option maxHeartbeats 1600000 in
theorem qwr_any (kd sz rm fr tm : Int) (a : Option Addr) (c : Nat) (l : List ByteArray) (s : ByteArray) (now : Int) (w : World) (h : ((l.length : Int) == rm) = false) (hr : RdS w a l) (hn : a = none → l.length = 0 ∧ c = 0) (hl : l.length ≤ 1000) :
    Calls Try.prog 85 #[.agg #[], .agg #[.int .i64 kd, .int .i64 sz, .int .i64 rm, .int .i64 fr, .slice a l.length c, .int .i64 tm], .string s, .int .i64 now] w fun e w' => (∃ u, e = .returned (.tuple #[.agg #[.int .i64 kd, .int .i64 sz, .int .i64 rm, .int .i64 fr, u, .int .i64 tm], .int .i64 0]) ∧ OwnS w' w.heap.size u (l ++ [s])) ∧ Below w.heap.size w w' := by
  have HCP := hid (fun wx (hb : Below w.heap.size w wx) => copyOf_any a c l wx (hr.below hb (Nat.le_refl _)) hn hl)
  have HL := hid hl
  obtain ⟨n, hnn⟩ : ∃ n, n = l.length := ⟨_, rfl⟩
  rw [← hnn] at HCP h ⊢
  have HN := hid hnn
  clear hr hl hn hnn
  go_enter Try.func85, Try.ntmps85
  go_wp2_with (first | (go_at_call 81; refine (HCP.out _ (by go_grown)).mono ?_; rintro e w2 ⟨⟨v2, rfl, ho2⟩, hb2⟩; have HO2 := hid ho2; have HB2 := hid hb2; obtain ⟨q1, q2⟩ := al3 w (.cells #[] 111) (.cells #[.int .i64 kd, .int .i64 sz, .int .i64 rm, .int .i64 fr, .slice a n c, .int .i64 tm] 36) (.cells z6 36); have Q1 := hid ((hb2.block _ (by simp only [World.size_alloc]; omega)).trans q1); have Q2 := hid ((hb2.block _ (by simp only [World.size_alloc]; omega)).trans q2); clear ho2 hb2 q1 q2) | (at_builtin; refine wpList_appS rfl _ _ rfl (w.heap.size) v2 l [s] (some ⟨w2.heap.size, 0, none⟩) 1 rfl (World.ownsRow.alloc (RowG.Own.base HO2.out (by simp only [World.size_alloc]; omega)) _) rfl (rd_one w2 s) (by simp) (by have := HL.out; simp; omega) (by have := HB2.out.size; simp only [World.size_alloc] at this ⊢; omega) ?_; intro v6 w6 ho6 hg6; obtain ⟨g, cap, hv6, hg1, hg2, hg3, hg4⟩ := RowG.Own.pos ho6 (by simp); subst hv6; have HO6 := hid ho6; have HG6 := hid hg6; have Q3 := hid (box_grown (box_alloc Q1.out _) hg6 (fun e => orow_ne_box HO2.out Q1.out (by decide) e.symm)); have Q4 := hid (box_grown (box_alloc Q2.out _) hg6 (fun e => orow_ne_box HO2.out Q2.out (by decide) e.symm)); obtain ⟨d0, d1, d2, d3, d4, d5⟩ := six_of Q3.out; have df := froz_of Q3.out 4; obtain ⟨y0, y1, y2, y3, y4, y5⟩ := six_of Q4.out; have y6 := froz_of Q4.out 0; have y7 := froz_of Q4.out 1; have y8 := froz_of Q4.out 2; have y9 := froz_of Q4.out 3; have y10 := froz_of Q4.out 4; have y11 := froz_of Q4.out 5; clear ho6 hg6))
  have hs2 := HB2.out.size
  simp only [World.size_alloc] at hs2
  obtain ⟨w7, hw7⟩ : ∃ y, y = st6 (w6.setCell ⟨w.heap.size + 1, 4, none⟩ (.slice (some ⟨g, 0, none⟩) (l.length + 1) cap)) (w.heap.size + 1 + 1) (.int .i64 kd) (.int .i64 sz) (.int .i64 rm) (.int .i64 fr) (.slice (some ⟨g, 0, none⟩) (l.length + 1) cap) (.int .i64 tm) := ⟨_, rfl⟩
  have hw8 := hw7
  simp only [st6] at hw8
  rw [← hw8]
  clear hw8
  have HO7 : Hid (OwnS w7 w.heap.size (.slice (some ⟨g, 0, none⟩) (l.length + 1) cap) (l ++ [s])) := by
    rw [hw7]
    have HO6' : OwnS w6 w.heap.size (.slice (some ⟨g, 0, none⟩) (l.length + 1) cap) (l ++ [s]) := by have := HO6.out; rw [List.length_append, List.length_singleton] at this; exact this
    exact st6_own (own_set HO6' _ _ _ (orow_ne_box HO6' Q3.out (by decide))) (orow_ne_box HO6' Q4.out (by decide))
  have HB7 : Hid (Below w.heap.size w w7) := by
    rw [hw7]
    refine st6_below (bel_set (Below.trans (b := w2) ?_ ?_) _ _ _ (by omega)) (by omega)
    · exact Below.trans (by go_grown) (HB2.out.mono (by simp only [World.size_alloc]; omega))
    · refine Below.grown (Below.alloc (Below.refl _ w2) (by omega) _) HG6.out (by simp only [World.size_alloc]; omega) ?_
      intro k hk
      have := (RowG.Own.lt HO2.out k hk).1
      simp only [World.size_alloc] at this
      omega
  have HRES : Hid (Sem.run Try.prog (loadVar 36 ⟨w.heap.size + 1 + 1, 0, none⟩) w7 = .ok (.agg #[.int .i64 kd, .int .i64 sz, .int .i64 rm, .int .i64 fr, .slice (some ⟨g, 0, none⟩) (l.length + 1) cap, .int .i64 tm]) w7) := by
    refine load_port ?_
    rw [hw7]
    exact st6_heap ((heap_setCell_other _ _ _ _ (by simp)).trans Q4.out)
  (try simp only [Exit.inBlock, Exit.then])
  refine bodyPost_ret (by simp [results, Try.results85]; rw [as_addr, Result.andThen_ok, HRES.out, Result.andThen_ok]) rfl ?_
  exact ⟨⟨_, rfl, HO7.out⟩, HB7.out⟩
/-- the texts behind the first one -/
theorem rd_tail {w : World} {b off c : Nat} {l : List ByteArray} (h : RdS w (some ⟨b, off, none⟩) l) (hl : l.length ≤ c) : RdS w (if c = 1 then some ⟨b, off, none⟩ else some ⟨b, off + 1, none⟩) (l.drop 1) := by
  by_cases hc : c = 1
  · left
    rw [List.drop_eq_nil_iff]; omega
  · rw [if_neg hc]
    rcases h with rfl | ⟨b', off', e, h⟩
    · left; rfl
    · simp only [Option.some.injEq, Addr.mk.injEq, and_true] at e
      obtain ⟨rfl, rfl⟩ := e
      refine .inr ⟨b, off + 1, rfl, fun i j hi hj => ?_⟩
      rw [List.length_drop] at hi
      have h1 := h (i + 1) j (by omega) hj
      have e1 : off + (i + 1) * ES.k + j = off + 1 + i * ES.k + j := by show off + (i + 1) * 1 + j = off + 1 + i * 1 + j; omega
      rw [e1] at h1
      rw [h1, List.getElem_drop]
      simp [Nat.add_comm]
set_option maxRecDepth 20000 in
set_option maxHeartbeats 1600000 in
theorem qrd_any (kd sz rm fr tm : Int) (a : Option Addr) (c : Nat) (l : List ByteArray) (now : Int) (w : World) (hr : RdS w a l) (h0 : 0 < l.length) (hc : l.length ≤ c) (hl : l.length ≤ 1000) :
    Calls Try.prog 84 #[.agg #[], .agg #[.int .i64 kd, .int .i64 sz, .int .i64 rm, .int .i64 fr, .slice a l.length c, .int .i64 tm], .int .i64 now] w fun e w' => (∃ u, e = .returned (.tuple #[.agg #[.int .i64 kd, .int .i64 sz, .int .i64 rm, .int .i64 fr, u, .int .i64 tm], .string (l.getD 0 e0), .bool true]) ∧ OwnS w' w.heap.size u (l.drop 1)) ∧ Below w.heap.size w w' := by
  obtain ⟨b, off, rfl, hx⟩ := RdS.get hr 0 h0
  rw [Nat.add_zero] at hx
  have HR := hid hr
  generalize hX : l.getD 0 e0 = X at hx
  have HX := hid hX
  obtain ⟨n, hnn⟩ : ∃ n, n = l.length := ⟨_, rfl⟩
  have HC0 := hid hc
  rw [← hnn] at hc h0 hl ⊢
  have HN := hid hnn
  have i1 : (0 : Int) < (n : Int) := by omega
  have i2 : (1 : Int) ≤ (n : Int) := by omega
  have i3 : (n : Int) ≤ (c : Int) := by omega
  have hx3 := Lib.cell?_alloc_some (.cells z6 36) (Lib.cell?_alloc_some (.cells #[.int .i64 kd, .int .i64 sz, .int .i64 rm, .int .i64 fr, .slice (some ⟨b, off, none⟩) n c, .int .i64 tm] 36) (Lib.cell?_alloc_some (.cells #[] 111) hx))
  clear hr hX hnn hx
  by_cases hc1 : c = 1
  · subst hc1
    have HCP := hid (fun wx (hb : Below w.heap.size w wx) => copyOf_any (some ⟨b, off, none⟩) 0 (l.drop 1) wx (by have := rd_tail (HR.out.below hb (Nat.le_refl _)) HC0.out; rwa [if_pos rfl] at this) (fun e => by cases e) (by rw [List.length_drop, ← HN.out]; omega))
    rw [List.length_drop, ← HN.out, show n - 1 = 0 by omega] at HCP
    go_enter Try.func84, Try.ntmps84
    go_wp2_with (first | (go_at_call 81; refine (HCP.out _ (by go_grown)).mono ?_; rintro e w2 ⟨⟨v2, rfl, ho2⟩, hb2⟩; obtain ⟨a2, c2, hv2⟩ := RowG.Own.slice ho2; subst hv2; have HO2 := hid ho2; have HB2 := hid hb2; obtain ⟨q1, q2⟩ := al3 w (.cells #[] 111) (.cells #[.int .i64 kd, .int .i64 sz, .int .i64 rm, .int .i64 fr, .slice (some ⟨b, off, none⟩) n 1, .int .i64 tm] 36) (.cells z6 36); have Q3 := hid ((hb2.block _ (by simp only [World.size_alloc]; omega)).trans q1); have Q4 := hid ((hb2.block _ (by simp only [World.size_alloc]; omega)).trans q2); obtain ⟨d0, d1, d2, d3, d4, d5⟩ := six_of Q3.out; have df := froz_of Q3.out 4; obtain ⟨y0, y1, y2, y3, y4, y5⟩ := six_of Q4.out; have y6 := froz_of Q4.out 0; have y7 := froz_of Q4.out 1; have y8 := froz_of Q4.out 2; have y9 := froz_of Q4.out 3; have y10 := froz_of Q4.out 4; have y11 := froz_of Q4.out 5; clear ho2 hb2 q1 q2))
    have hs2 := HB2.out.size
    simp only [World.size_alloc] at hs2
    obtain ⟨w7, hw7⟩ : ∃ y, y = st6 (w2.setCell ⟨w.heap.size + 1, 4, none⟩ (.slice a2 (l.drop 1).length c2)) (w.heap.size + 1 + 1) (.int .i64 kd) (.int .i64 sz) (.int .i64 rm) (.int .i64 fr) (.slice a2 (l.drop 1).length c2) (.int .i64 tm) := ⟨_, rfl⟩
    have hw8 := hw7
    simp only [st6, List.length_drop] at hw8
    try rw [← hw8]
    clear hw8
    have HO7 : Hid (OwnS w7 w.heap.size (.slice a2 (l.drop 1).length c2) (l.drop 1)) := by
      rw [hw7]
      have HO6' := RowG.Own.base HO2.out (show w.heap.size ≤ _ by simp only [World.size_alloc]; omega)
      exact st6_own (own_set HO6' _ _ _ (orow_ne_box HO6' Q3.out (by decide))) (orow_ne_box HO6' Q4.out (by decide))
    have HB7 : Hid (Below w.heap.size w w7) := by
      rw [hw7]
      refine st6_below (bel_set ?_ _ _ _ (by omega)) (by omega)
      exact Below.trans (by go_grown) (HB2.out.mono (by simp only [World.size_alloc]; omega))
    have HRES : Hid (Sem.run Try.prog (loadVar 36 ⟨w.heap.size + 1 + 1, 0, none⟩) w7 = .ok (.agg #[.int .i64 kd, .int .i64 sz, .int .i64 rm, .int .i64 fr, .slice a2 (l.drop 1).length c2, .int .i64 tm]) w7) := by
      refine load_port ?_
      rw [hw7]
      exact st6_heap ((heap_setCell_other _ _ _ _ (by simp)).trans Q4.out)
    (try simp only [Exit.inBlock, Exit.then])
    refine bodyPost_ret (by simp [results, Try.results84]; rw [as_addr, Result.andThen_ok, HRES.out, Result.andThen_ok]) rfl ?_
    exact ⟨⟨_, by first | rfl | rw [HX.out], HO7.out⟩, HB7.out⟩
  · have HCP := hid (fun wx (hb : Below w.heap.size w wx) => copyOf_any (some ⟨b, off + 1, none⟩) (c - 1) (l.drop 1) wx (by have := rd_tail (HR.out.below hb (Nat.le_refl _)) HC0.out; rwa [if_neg hc1] at this) (fun e => by cases e) (by rw [List.length_drop, ← HN.out]; omega))
    rw [List.length_drop, ← HN.out] at HCP
    go_enter Try.func84, Try.ntmps84
    go_wp2_with (first | (go_at_call 81; refine (HCP.out _ (by go_grown)).mono ?_; rintro e w2 ⟨⟨v2, rfl, ho2⟩, hb2⟩; obtain ⟨a2, c2, hv2⟩ := RowG.Own.slice ho2; subst hv2; have HO2 := hid ho2; have HB2 := hid hb2; obtain ⟨q1, q2⟩ := al3 w (.cells #[] 111) (.cells #[.int .i64 kd, .int .i64 sz, .int .i64 rm, .int .i64 fr, .slice (some ⟨b, off, none⟩) n c, .int .i64 tm] 36) (.cells z6 36); have Q3 := hid ((hb2.block _ (by simp only [World.size_alloc]; omega)).trans q1); have Q4 := hid ((hb2.block _ (by simp only [World.size_alloc]; omega)).trans q2); obtain ⟨d0, d1, d2, d3, d4, d5⟩ := six_of Q3.out; have df := froz_of Q3.out 4; obtain ⟨y0, y1, y2, y3, y4, y5⟩ := six_of Q4.out; have y6 := froz_of Q4.out 0; have y7 := froz_of Q4.out 1; have y8 := froz_of Q4.out 2; have y9 := froz_of Q4.out 3; have y10 := froz_of Q4.out 4; have y11 := froz_of Q4.out 5; clear ho2 hb2 q1 q2))
    have hs2 := HB2.out.size
    simp only [World.size_alloc] at hs2
    obtain ⟨w7, hw7⟩ : ∃ y, y = st6 (w2.setCell ⟨w.heap.size + 1, 4, none⟩ (.slice a2 (l.drop 1).length c2)) (w.heap.size + 1 + 1) (.int .i64 kd) (.int .i64 sz) (.int .i64 rm) (.int .i64 fr) (.slice a2 (l.drop 1).length c2) (.int .i64 tm) := ⟨_, rfl⟩
    have hw8 := hw7
    simp only [st6, List.length_drop] at hw8
    try rw [← hw8]
    clear hw8
    have HO7 : Hid (OwnS w7 w.heap.size (.slice a2 (l.drop 1).length c2) (l.drop 1)) := by
      rw [hw7]
      have HO6' := RowG.Own.base HO2.out (show w.heap.size ≤ _ by simp only [World.size_alloc]; omega)
      exact st6_own (own_set HO6' _ _ _ (orow_ne_box HO6' Q3.out (by decide))) (orow_ne_box HO6' Q4.out (by decide))
    have HB7 : Hid (Below w.heap.size w w7) := by
      rw [hw7]
      refine st6_below (bel_set ?_ _ _ _ (by omega)) (by omega)
      exact Below.trans (by go_grown) (HB2.out.mono (by simp only [World.size_alloc]; omega))
    have HRES : Hid (Sem.run Try.prog (loadVar 36 ⟨w.heap.size + 1 + 1, 0, none⟩) w7 = .ok (.agg #[.int .i64 kd, .int .i64 sz, .int .i64 rm, .int .i64 fr, .slice a2 (l.drop 1).length c2, .int .i64 tm]) w7) := by
      refine load_port ?_
      rw [hw7]
      exact st6_heap ((heap_setCell_other _ _ _ _ (by simp)).trans Q4.out)
    (try simp only [Exit.inBlock, Exit.then])
    refine bodyPost_ret (by simp [results, Try.results84]; rw [as_addr, Result.andThen_ok, HRES.out, Result.andThen_ok]) rfl ?_
    exact ⟨⟨_, by first | rfl | rw [HX.out], HO7.out⟩, HB7.out⟩
end PortC
end Go.Proofs.Ytllfpbngfkimlaa
