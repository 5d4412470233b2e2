/- What each kind of port does, spare cells of its rows too (gen_prty.py writes this text). -/
import Derived.Test.YtllfpbngfkimlaaPrtX
set_option linter.unusedVariables false
namespace Go.Proofs.Ytllfpbngfkimlaa
open Go.RowKit
open Go.Shelf Go.Sort
open SpanM SpanC IntsC
namespace PortT
open PrtM PortC
theorem copyOf_any (a : Option Addr) (c : Nat) (l : List ByteArray) (w : World) (hr : RdS w a l) (hn : a = none → l.length = 0 ∧ c = 0) (hl : l.length ≤ 1000) (hz : ∀ x ∈ l, x.size ≤ 5000) :
    Calls Try.prog 81 #[.slice a l.length c] w fun e w' => (∃ v, e = .returned v ∧ OwnT w' w.heap.size v l) ∧ Below w.heap.size w w' := by
  have HR := hid hr
  have HN := hid hn
  have HZ := hid hz
  have HL := hid hl
  clear hr hn hl hz
  go_enter Try.func81, Try.ntmps81
  go_wp2_with (at_builtin; refine wpList_appT rfl _ _ rfl w.heap.size _ [] l a c rfl (OwnT.nil _ _) rfl HR.out HN.out (by have := HL.out; simp; omega) (Nat.le_refl _) (fun _ => rfl) HZ.out ?_)
  intro v' w' ho hg
  have HO := hid ho
  have HG := hid hg
  clear ho hg
  go_wp2_with fail
  go_ret
  exact ⟨⟨_, rfl, HO.out⟩, Below.grown (Below.refl _ w) HG.out (Nat.le_refl _) (by intro k hk; simp [Value.ownBlock] at hk)⟩
set_option maxRecDepth 20000 in
set_option maxHeartbeats 400000 in
theorem swr_any (kd sz rm fr tm : Int) (v : Value) (s : ByteArray) (now : Int) (w : World) (hzs : s.size ≤ 5000) :
    Calls Try.prog 80 #[.agg #[], .agg #[.int .i64 kd, .int .i64 sz, .int .i64 rm, .int .i64 fr, v, .int .i64 tm], .string s, .int .i64 now] w fun e w' => (∃ u, e = .returned (.tuple #[.agg #[.int .i64 kd, .int .i64 sz, .int .i64 rm, .int .i64 fr, u, .int .i64 now], .int .i64 0]) ∧ OwnT w' w.heap.size u [s]) ∧ Below w.heap.size w w' := by
  have HZS := hid hzs
  clear hzs
  go_enter Try.func80, Try.ntmps80
  go_wp2_with fail
  go_returns
  refine ⟨⟨_, rfl, ?_⟩, by go_grown⟩
  have := own_oneT (((w.alloc (.cells #[] 110)).alloc (.cells #[.int .i64 kd, .int .i64 sz, .int .i64 rm, .int .i64 fr, .slice (some ⟨w.heap.size + 1 + 1 + 1, 0, none⟩) 1 1, .int .i64 now] 36)).alloc (.cells #[.int .i64 kd, .int .i64 sz, .int .i64 rm, .int .i64 fr, .slice (some ⟨w.heap.size + 1 + 1 + 1, 0, none⟩) 1 1, .int .i64 now] 36)) w.heap.size (by simp only [World.size_alloc]; omega) s HZS.out
  simpa only [World.size_alloc] using this
set_option maxRecDepth 20000 in
set_option maxHeartbeats 800000 in
theorem srd_any (kd sz rm fr tm : Int) (a : Option Addr) (c : Nat) (l : List ByteArray) (now : Int) (w : World) (hr : RdS w a l) (h0 : 0 < l.length) (hl : l.length ≤ 1000) (hz : ∀ x ∈ l, x.size ≤ 5000) (ht : 0 ≤ tm ∧ tm ≤ now ∧ now ≤ 1099511627776) :
    Calls Try.prog 79 #[.agg #[], .agg #[.int .i64 kd, .int .i64 sz, .int .i64 rm, .int .i64 fr, .slice a l.length c, .int .i64 tm], .int .i64 now] w fun e w' => (∃ u, e = .returned (.tuple #[.agg #[.int .i64 kd, .int .i64 sz, .int .i64 rm, .int .i64 fr, u, .int .i64 tm], .string (l.getD 0 e0), .bool (decide (now - tm ≤ fr))]) ∧ OwnT w' w.heap.size u l) ∧ Below w.heap.size w w' := by
  have HCP := hid (fun wx (hb : Below w.heap.size w wx) => copyOf_any a c l wx (hr.below hb (Nat.le_refl _)) (fun e => by obtain ⟨b, off, e1, _⟩ := RdS.get hr 0 h0; rw [e] at e1; cases e1) hl hz)
  have H0 := hid h0
  have hwr : IntKind.i64.wrap (now - tm) = now - tm := by rw [IntKind.wrap_i64]; omega
  obtain ⟨n, hn⟩ : ∃ n, n = l.length := ⟨_, rfl⟩
  rw [← hn] at HCP ⊢
  have HN := hid hn
  have hn0 : 0 < n := by omega
  clear hr h0 hl hn hz
  go_enter Try.func79, Try.ntmps79
  go_wp2_with (go_at_call 81; refine (HCP.out _ (by go_grown)).mono ?_; rintro e w2 ⟨⟨v2, rfl, ho2⟩, hb2⟩; obtain ⟨g, cap, rfl, hg1, hg2, hg3, hg4⟩ := RowG.Own.pos ho2.o H0.out; have HO2 := hid ho2; have HB2 := hid hb2; obtain ⟨q1, q2⟩ := al3 w (.cells #[] 110) (.cells #[.int .i64 kd, .int .i64 sz, .int .i64 rm, .int .i64 fr, .slice a n c, .int .i64 tm] 36) (.cells z6 36); have Q1 := hid ((hb2.block _ (by simp only [World.size_alloc]; omega)).trans q1); have Q2 := hid ((hb2.block _ (by simp only [World.size_alloc]; omega)).trans q2); obtain ⟨d0, d1, d2, d3, d4, d5⟩ := six_of Q1.out; have df := froz_of Q1.out 4; clear ho2 hb2 q1 q2)
  obtain ⟨w3, hw3⟩ : ∃ y, y = w2.setCell ⟨w.heap.size + 1, 4, none⟩ (.slice (some ⟨g, 0, none⟩) l.length cap) := ⟨_, rfl⟩
  have hsz2 := HB2.out.size
  simp only [World.size_alloc] at hg1 hsz2
  have q3 : w3.heap[w.heap.size + 1]? = some (.cells #[.int .i64 kd, .int .i64 sz, .int .i64 rm, .int .i64 fr, .slice (some ⟨g, 0, none⟩) l.length cap, .int .i64 tm] 36) := by
    rw [hw3, heap_setCell_same _ _ _ _ _ _ Q1.out]; rfl
  have q4 : w3.heap[w.heap.size + 1 + 1]? = some (.cells z6 36) := by
    rw [hw3, heap_setCell_other _ _ _ _ (by simp), Q2.out]
  have HO3 : Hid (OwnT w3 w.heap.size (.slice (some ⟨g, 0, none⟩) l.length cap) l) := by
    refine OwnT.heap (OwnT.base HO2.out (by simp only [World.size_alloc]; omega)) fun q hq => ?_
    simp [Value.ownBlock] at hq
    rw [hw3, heap_setCell_other _ _ _ _ (by simp; omega)]
  have HB3 : Hid (Below w.heap.size w w3) := by
    rw [hw3]
    exact (Below.trans (by go_grown) (HB2.out.mono (by simp only [World.size_alloc]; omega))).setCell (p := ⟨w.heap.size + 1, 4, none⟩) (by simp) _
  have hx := RowG.Own.cell HO3.out.o 0 0 H0.out (by decide)
  have e0' : 0 * ES.k + 0 = 0 := by simp
  rw [e0'] at hx
  replace hx : w3.cell? ⟨g, 0, none⟩ = some (.string (l.getD 0 e0)) := by rw [hx]; simp [ES, List.getD, H0.out]
  rw [← HN.out] at q3 HO3 hw3 ⊢
  rw [← hw3]
  have n1 : ¬ g = w.heap.size + 1 + 1 := by omega
  have n2 : ¬ w.heap.size + 1 + 1 = g := by omega
  clear hw3 hg1 hg2 hg3 hg4 hsz2 d0 d1 d2 d3 d4 d5 df
  generalize hX : l.getD 0 e0 = X at hx
  have HX := hid hX
  clear hX
  have hn1 : (0 : Int) < (n : Int) := by omega
  obtain ⟨d0, d1, d2, d3, d4, d5⟩ := six_of q3
  obtain ⟨y0, y1, y2, y3, y4, y5⟩ := six_of q4
  have y6 := froz_of q4 0
  have y7 := froz_of q4 1
  have y8 := froz_of q4 2
  have y9 := froz_of q4 3
  have y10 := froz_of q4 4
  have y11 := froz_of q4 5
  have HQ4 := hid q4
  clear q3 q4
  go_region
  obtain ⟨w4, hw4⟩ : ∃ y, y = (st6 w3 (w.heap.size + 1 + 1) (.int .i64 kd) (.int .i64 sz) (.int .i64 rm) (.int .i64 fr) (.slice (some ⟨g, 0, none⟩) n cap) (.int .i64 tm)).drew := ⟨_, rfl⟩
  have hne : (Value.slice (some ⟨g, 0, none⟩) n cap).ownBlock ≠ some (w.heap.size + 1 + 1) := by simp [Value.ownBlock]; omega
  have HO4 : Hid (OwnT w4 w.heap.size (.slice (some ⟨g, 0, none⟩) n cap) l) := by rw [hw4]; exact own_drewT (st6_ownT HO3.out hne)
  have HB4 : Hid (Below w.heap.size w w4) := by rw [hw4]; exact Below.drew (st6_below HB3.out (by omega))
  have q5 : w4.heap[w.heap.size + 1 + 1]? = some (.cells #[.int .i64 kd, .int .i64 sz, .int .i64 rm, .int .i64 fr, .slice (some ⟨g, 0, none⟩) n cap, .int .i64 tm] 36) := by rw [hw4, heap_drew]; exact st6_heap HQ4.out
  rw [← hw4]
  clear hw4 d0 d1 d2 d3 d4 d5 y0 y1 y2 y3 y4 y5 y6 y7 y8 y9 y10 y11
  have HRES := hid (load_port q5)
  clear q5
  go_wp2_with fail
  (try simp only [Exit.inBlock, Exit.then])
  refine bodyPost_ret (by simp [results, Try.results79]; rw [as_addr, Result.andThen_ok, HRES.out, Result.andThen_ok]) rfl ?_
  exact ⟨⟨_, by rw [HX.out], HO4.out⟩, HB4.out⟩
set_option maxRecDepth 20000 in
set_option maxHeartbeats 1600000 in
theorem qwr_any (kd sz rm fr tm : Int) (a : Option Addr) (c : Nat) (l : List ByteArray) (s : ByteArray) (now : Int) (w : World) (h : ((l.length : Int) == rm) = false) (hr : RdS w a l) (hn : a = none → l.length = 0 ∧ c = 0) (hl : l.length ≤ 1000) (hz : ∀ x ∈ l, x.size ≤ 5000) (hzs : s.size ≤ 5000) :
    Calls Try.prog 85 #[.agg #[], .agg #[.int .i64 kd, .int .i64 sz, .int .i64 rm, .int .i64 fr, .slice a l.length c, .int .i64 tm], .string s, .int .i64 now] w fun e w' => (∃ u, e = .returned (.tuple #[.agg #[.int .i64 kd, .int .i64 sz, .int .i64 rm, .int .i64 fr, u, .int .i64 tm], .int .i64 0]) ∧ OwnT w' w.heap.size u (l ++ [s])) ∧ Below w.heap.size w w' := by
  have HCP := hid (fun wx (hb : Below w.heap.size w wx) => copyOf_any a c l wx (hr.below hb (Nat.le_refl _)) hn hl hz)
  have HZS := hid hzs
  have HL := hid hl
  obtain ⟨n, hnn⟩ : ∃ n, n = l.length := ⟨_, rfl⟩
  rw [← hnn] at HCP h ⊢
  have HN := hid hnn
  clear hr hl hn hnn hz hzs
  go_enter Try.func85, Try.ntmps85
  go_wp2_with (first | (go_at_call 81; refine (HCP.out _ (by go_grown)).mono ?_; rintro e w2 ⟨⟨v2, rfl, ho2⟩, hb2⟩; have HO2 := hid ho2; have HB2 := hid hb2; obtain ⟨q1, q2⟩ := al3 w (.cells #[] 111) (.cells #[.int .i64 kd, .int .i64 sz, .int .i64 rm, .int .i64 fr, .slice a n c, .int .i64 tm] 36) (.cells z6 36); have Q1 := hid ((hb2.block _ (by simp only [World.size_alloc]; omega)).trans q1); have Q2 := hid ((hb2.block _ (by simp only [World.size_alloc]; omega)).trans q2); clear ho2 hb2 q1 q2) | (at_builtin; refine wpList_appT rfl _ _ rfl (w.heap.size) v2 l [s] (some ⟨w2.heap.size, 0, none⟩) 1 rfl (OwnT.alloc (OwnT.base HO2.out (by simp only [World.size_alloc]; omega)) _) rfl (rd_one w2 s) (by simp) (by have := HL.out; simp; omega) (by have := HB2.out.size; simp only [World.size_alloc] at this ⊢; omega) (by simp) (by intro x hx; simp at hx; subst hx; exact HZS.out) ?_; intro v6 w6 ho6 hg6; obtain ⟨g, cap, hv6, hg1, hg2, hg3, hg4⟩ := RowG.Own.pos ho6.o (by simp); subst hv6; have HO6 := hid ho6; have HG6 := hid hg6; have Q3 := hid (box_grown (box_alloc Q1.out _) hg6 (fun e => orow_ne_box HO2.out.o Q1.out (by decide) e.symm)); have Q4 := hid (box_grown (box_alloc Q2.out _) hg6 (fun e => orow_ne_box HO2.out.o Q2.out (by decide) e.symm)); obtain ⟨d0, d1, d2, d3, d4, d5⟩ := six_of Q3.out; have df := froz_of Q3.out 4; obtain ⟨y0, y1, y2, y3, y4, y5⟩ := six_of Q4.out; have y6 := froz_of Q4.out 0; have y7 := froz_of Q4.out 1; have y8 := froz_of Q4.out 2; have y9 := froz_of Q4.out 3; have y10 := froz_of Q4.out 4; have y11 := froz_of Q4.out 5; clear ho6 hg6))
  have hs2 := HB2.out.size
  simp only [World.size_alloc] at hs2
  obtain ⟨w7, hw7⟩ : ∃ y, y = st6 (w6.setCell ⟨w.heap.size + 1, 4, none⟩ (.slice (some ⟨g, 0, none⟩) (l.length + 1) cap)) (w.heap.size + 1 + 1) (.int .i64 kd) (.int .i64 sz) (.int .i64 rm) (.int .i64 fr) (.slice (some ⟨g, 0, none⟩) (l.length + 1) cap) (.int .i64 tm) := ⟨_, rfl⟩
  have hw8 := hw7
  simp only [st6] at hw8
  rw [← hw8]
  clear hw8
  have HO7 : Hid (OwnT w7 w.heap.size (.slice (some ⟨g, 0, none⟩) (l.length + 1) cap) (l ++ [s])) := by
    rw [hw7]
    have HO6' : OwnT w6 w.heap.size (.slice (some ⟨g, 0, none⟩) (l.length + 1) cap) (l ++ [s]) := by have := HO6.out; rw [List.length_append, List.length_singleton] at this; exact this
    exact st6_ownT (own_setT HO6' _ _ _ (orow_ne_box HO6'.o Q3.out (by decide))) (orow_ne_box HO6'.o Q4.out (by decide))
  have HB7 : Hid (Below w.heap.size w w7) := by
    rw [hw7]
    refine st6_below (bel_set (Below.trans (b := w2) ?_ ?_) _ _ _ (by omega)) (by omega)
    · exact Below.trans (by go_grown) (HB2.out.mono (by simp only [World.size_alloc]; omega))
    · refine Below.grown (Below.alloc (Below.refl _ w2) (by omega) _) HG6.out (by simp only [World.size_alloc]; omega) ?_
      intro k hk
      have := (RowG.Own.lt HO2.out.o k hk).1
      simp only [World.size_alloc] at this
      omega
  have HRES : Hid (Sem.run Try.prog (loadVar 36 ⟨w.heap.size + 1 + 1, 0, none⟩) w7 = .ok (.agg #[.int .i64 kd, .int .i64 sz, .int .i64 rm, .int .i64 fr, .slice (some ⟨g, 0, none⟩) (l.length + 1) cap, .int .i64 tm]) w7) := by
    refine load_port ?_
    rw [hw7]
    exact st6_heap ((heap_setCell_other _ _ _ _ (by simp)).trans Q4.out)
  (try simp only [Exit.inBlock, Exit.then])
  refine bodyPost_ret (by simp [results, Try.results85]; rw [as_addr, Result.andThen_ok, HRES.out, Result.andThen_ok]) rfl ?_
  exact ⟨⟨_, rfl, HO7.out⟩, HB7.out⟩
set_option maxRecDepth 20000 in
set_option maxHeartbeats 1600000 in
theorem qrd_any (kd sz rm fr tm : Int) (a : Option Addr) (c : Nat) (l : List ByteArray) (now : Int) (w : World) (hr : RdS w a l) (h0 : 0 < l.length) (hc : l.length ≤ c) (hl : l.length ≤ 1000) (hz : ∀ x ∈ l, x.size ≤ 5000) :
    Calls Try.prog 84 #[.agg #[], .agg #[.int .i64 kd, .int .i64 sz, .int .i64 rm, .int .i64 fr, .slice a l.length c, .int .i64 tm], .int .i64 now] w fun e w' => (∃ u, e = .returned (.tuple #[.agg #[.int .i64 kd, .int .i64 sz, .int .i64 rm, .int .i64 fr, u, .int .i64 tm], .string (l.getD 0 e0), .bool true]) ∧ OwnT w' w.heap.size u (l.drop 1)) ∧ Below w.heap.size w w' := by
  obtain ⟨b, off, rfl, hx⟩ := RdS.get hr 0 h0
  rw [Nat.add_zero] at hx
  have HR := hid hr
  have HZ := hid hz
  generalize hX : l.getD 0 e0 = X at hx
  have HX := hid hX
  obtain ⟨n, hnn⟩ : ∃ n, n = l.length := ⟨_, rfl⟩
  have HC0 := hid hc
  rw [← hnn] at hc h0 hl ⊢
  have HN := hid hnn
  have i1 : (0 : Int) < (n : Int) := by omega
  have i2 : (1 : Int) ≤ (n : Int) := by omega
  have i3 : (n : Int) ≤ (c : Int) := by omega
  have hx3 := Lib.cell?_alloc_some (.cells z6 36) (Lib.cell?_alloc_some (.cells #[.int .i64 kd, .int .i64 sz, .int .i64 rm, .int .i64 fr, .slice (some ⟨b, off, none⟩) n c, .int .i64 tm] 36) (Lib.cell?_alloc_some (.cells #[] 111) hx))
  clear hr hX hnn hx hz
  by_cases hc1 : c = 1
  · subst hc1
    have HCP := hid (fun wx (hb : Below w.heap.size w wx) => copyOf_any (some ⟨b, off, none⟩) 0 (l.drop 1) wx (by have := rd_tail (HR.out.below hb (Nat.le_refl _)) HC0.out; rwa [if_pos rfl] at this) (fun e => by cases e) (by rw [List.length_drop, ← HN.out]; omega) (fun x hx => HZ.out x (List.mem_of_mem_drop hx)))
    rw [List.length_drop, ← HN.out, show n - 1 = 0 by omega] at HCP
    go_enter Try.func84, Try.ntmps84
    go_wp2_with (first | (go_at_call 81; refine (HCP.out _ (by go_grown)).mono ?_; rintro e w2 ⟨⟨v2, rfl, ho2⟩, hb2⟩; obtain ⟨a2, c2, hv2⟩ := RowG.Own.slice ho2.o; subst hv2; have HO2 := hid ho2; have HB2 := hid hb2; obtain ⟨q1, q2⟩ := al3 w (.cells #[] 111) (.cells #[.int .i64 kd, .int .i64 sz, .int .i64 rm, .int .i64 fr, .slice (some ⟨b, off, none⟩) n 1, .int .i64 tm] 36) (.cells z6 36); have Q3 := hid ((hb2.block _ (by simp only [World.size_alloc]; omega)).trans q1); have Q4 := hid ((hb2.block _ (by simp only [World.size_alloc]; omega)).trans q2); obtain ⟨d0, d1, d2, d3, d4, d5⟩ := six_of Q3.out; have df := froz_of Q3.out 4; obtain ⟨y0, y1, y2, y3, y4, y5⟩ := six_of Q4.out; have y6 := froz_of Q4.out 0; have y7 := froz_of Q4.out 1; have y8 := froz_of Q4.out 2; have y9 := froz_of Q4.out 3; have y10 := froz_of Q4.out 4; have y11 := froz_of Q4.out 5; clear ho2 hb2 q1 q2))
    have hs2 := HB2.out.size
    simp only [World.size_alloc] at hs2
    obtain ⟨w7, hw7⟩ : ∃ y, y = st6 (w2.setCell ⟨w.heap.size + 1, 4, none⟩ (.slice a2 (l.drop 1).length c2)) (w.heap.size + 1 + 1) (.int .i64 kd) (.int .i64 sz) (.int .i64 rm) (.int .i64 fr) (.slice a2 (l.drop 1).length c2) (.int .i64 tm) := ⟨_, rfl⟩
    have hw8 := hw7
    simp only [st6, List.length_drop] at hw8
    try rw [← hw8]
    clear hw8
    have HO7 : Hid (OwnT w7 w.heap.size (.slice a2 (l.drop 1).length c2) (l.drop 1)) := by
      rw [hw7]
      have HO6' := OwnT.base HO2.out (show w.heap.size ≤ _ by simp only [World.size_alloc]; omega)
      exact st6_ownT (own_setT HO6' _ _ _ (orow_ne_box HO6'.o Q3.out (by decide))) (orow_ne_box HO6'.o Q4.out (by decide))
    have HB7 : Hid (Below w.heap.size w w7) := by
      rw [hw7]
      refine st6_below (bel_set ?_ _ _ _ (by omega)) (by omega)
      exact Below.trans (by go_grown) (HB2.out.mono (by simp only [World.size_alloc]; omega))
    have HRES : Hid (Sem.run Try.prog (loadVar 36 ⟨w.heap.size + 1 + 1, 0, none⟩) w7 = .ok (.agg #[.int .i64 kd, .int .i64 sz, .int .i64 rm, .int .i64 fr, .slice a2 (l.drop 1).length c2, .int .i64 tm]) w7) := by
      refine load_port ?_
      rw [hw7]
      exact st6_heap ((heap_setCell_other _ _ _ _ (by simp)).trans Q4.out)
    (try simp only [Exit.inBlock, Exit.then])
    refine bodyPost_ret (by simp [results, Try.results84]; rw [as_addr, Result.andThen_ok, HRES.out, Result.andThen_ok]) rfl ?_
    exact ⟨⟨_, by first | rfl | rw [HX.out], HO7.out⟩, HB7.out⟩
  · have HCP := hid (fun wx (hb : Below w.heap.size w wx) => copyOf_any (some ⟨b, off + 1, none⟩) (c - 1) (l.drop 1) wx (by have := rd_tail (HR.out.below hb (Nat.le_refl _)) HC0.out; rwa [if_neg hc1] at this) (fun e => by cases e) (by rw [List.length_drop, ← HN.out]; omega) (fun x hx => HZ.out x (List.mem_of_mem_drop hx)))
    rw [List.length_drop, ← HN.out] at HCP
    go_enter Try.func84, Try.ntmps84
    go_wp2_with (first | (go_at_call 81; refine (HCP.out _ (by go_grown)).mono ?_; rintro e w2 ⟨⟨v2, rfl, ho2⟩, hb2⟩; obtain ⟨a2, c2, hv2⟩ := RowG.Own.slice ho2.o; subst hv2; have HO2 := hid ho2; have HB2 := hid hb2; obtain ⟨q1, q2⟩ := al3 w (.cells #[] 111) (.cells #[.int .i64 kd, .int .i64 sz, .int .i64 rm, .int .i64 fr, .slice (some ⟨b, off, none⟩) n c, .int .i64 tm] 36) (.cells z6 36); have Q3 := hid ((hb2.block _ (by simp only [World.size_alloc]; omega)).trans q1); have Q4 := hid ((hb2.block _ (by simp only [World.size_alloc]; omega)).trans q2); obtain ⟨d0, d1, d2, d3, d4, d5⟩ := six_of Q3.out; have df := froz_of Q3.out 4; obtain ⟨y0, y1, y2, y3, y4, y5⟩ := six_of Q4.out; have y6 := froz_of Q4.out 0; have y7 := froz_of Q4.out 1; have y8 := froz_of Q4.out 2; have y9 := froz_of Q4.out 3; have y10 := froz_of Q4.out 4; have y11 := froz_of Q4.out 5; clear ho2 hb2 q1 q2))
    have hs2 := HB2.out.size
    simp only [World.size_alloc] at hs2
    obtain ⟨w7, hw7⟩ : ∃ y, y = st6 (w2.setCell ⟨w.heap.size + 1, 4, none⟩ (.slice a2 (l.drop 1).length c2)) (w.heap.size + 1 + 1) (.int .i64 kd) (.int .i64 sz) (.int .i64 rm) (.int .i64 fr) (.slice a2 (l.drop 1).length c2) (.int .i64 tm) := ⟨_, rfl⟩
    have hw8 := hw7
    simp only [st6, List.length_drop] at hw8
    try rw [← hw8]
    clear hw8
    have HO7 : Hid (OwnT w7 w.heap.size (.slice a2 (l.drop 1).length c2) (l.drop 1)) := by
      rw [hw7]
      have HO6' := OwnT.base HO2.out (show w.heap.size ≤ _ by simp only [World.size_alloc]; omega)
      exact st6_ownT (own_setT HO6' _ _ _ (orow_ne_box HO6'.o Q3.out (by decide))) (orow_ne_box HO6'.o Q4.out (by decide))
    have HB7 : Hid (Below w.heap.size w w7) := by
      rw [hw7]
      refine st6_below (bel_set ?_ _ _ _ (by omega)) (by omega)
      exact Below.trans (by go_grown) (HB2.out.mono (by simp only [World.size_alloc]; omega))
    have HRES : Hid (Sem.run Try.prog (loadVar 36 ⟨w.heap.size + 1 + 1, 0, none⟩) w7 = .ok (.agg #[.int .i64 kd, .int .i64 sz, .int .i64 rm, .int .i64 fr, .slice a2 (l.drop 1).length c2, .int .i64 tm]) w7) := by
      refine load_port ?_
      rw [hw7]
      exact st6_heap ((heap_setCell_other _ _ _ _ (by simp)).trans Q4.out)
    (try simp only [Exit.inBlock, Exit.then])
    refine bodyPost_ret (by simp [results, Try.results84]; rw [as_addr, Result.andThen_ok, HRES.out, Result.andThen_ok]) rfl ?_
    exact ⟨⟨_, by first | rfl | rw [HX.out], HO7.out⟩, HB7.out⟩
end PortT
end Go.Proofs.Ytllfpbngfkimlaa
