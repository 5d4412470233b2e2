/- Package port: Read. -/
import Derived.Test.YtllfpbngfkimlaaPrtE
set_option linter.unusedVariables false
namespace Go.Proofs.Ytllfpbngfkimlaa
open Go.RowKit
open Go.Shelf Go.Sort
open SpanM SpanC IntsC
namespace PortC
open PrtM
set_option maxRecDepth 20000 in
set_option maxHeartbeats 400000 in
theorem Read_now (kd sz rm fr tm E : Int) (a : Option Addr) (n c : Nat) (now : Int) (w : World) (hE : (E != 0) = true)
    (HC : ∀ wx, Below w.heap.size w wx → Calls Try.prog 40 #[.agg #[.int .i64 kd, .int .i64 sz, .int .i64 rm, .int .i64 fr, .slice a n c, .int .i64 tm], .int .i64 now] wx fun e w' => e = .returned (.int .i64 E) ∧ Below wx.heap.size wx w') :
    Calls Try.prog 16 #[.agg #[.int .i64 kd, .int .i64 sz, .int .i64 rm, .int .i64 fr, .slice a n c, .int .i64 tm], .int .i64 now] w fun e w' => e = .returned (.tuple #[.agg z6, .string e0, .bool false, .int .i64 E]) ∧ Below w.heap.size w w' := by
  have HC1 := hid HC
  clear HC
  go_enter Try.func16, Try.ntmps16
  go_wp2_with (go_at_call 40; refine (HC1.out _ (by go_grown)).mono ?_; rintro e w2 ⟨rfl, hb2⟩; obtain ⟨q1, q2, hb, hs⟩ := two_ports hb2; have Q1 := hid q1; have Q2 := hid q2; have HB := hid hb; have HS := hid hs; obtain ⟨d0, d1, d2, d3, d4, d5⟩ := six_of q1; obtain ⟨y0, y1, y2, y3, y4, y5⟩ := six_of q2; have y6 := froz_of q2 0; have y7 := froz_of q2 1; have y8 := froz_of q2 2; have y9 := froz_of q2 3; have y10 := froz_of q2 4; have y11 := froz_of q2 5; clear hb2 q1 q2 hb hs)
  obtain ⟨w7, hw7⟩ : ∃ y, y = st6 w2 (w.heap.size + 1) (.int .i64 0) (.int .i64 0) (.int .i64 0) (.int .i64 0) (.slice none 0 0) (.int .i64 0) := ⟨_, rfl⟩
  have hw8 := hw7
  simp only [st6] at hw8
  rw [← hw8]
  clear hw8
  have HB7 : Hid (Below w.heap.size w w7) := by rw [hw7]; exact st6_below HB.out (by omega)
  have HRES : Hid (Sem.run Try.prog (loadVar 36 ⟨w.heap.size + 1, 0, none⟩) w7 = .ok (.agg #[.int .i64 0, .int .i64 0, .int .i64 0, .int .i64 0, .slice none 0 0, .int .i64 0]) w7) := by
    refine load_port ?_
    rw [hw7]
    exact st6_heap Q2.out
  (try simp only [Exit.inBlock, Exit.then])
  refine bodyPost_ret (by simp [results, Try.results16]; rw [as_addr, Result.andThen_ok, HRES.out, Result.andThen_ok]) rfl ?_
  exact ⟨rfl, HB7.out⟩
set_option maxRecDepth 20000 in
set_option maxHeartbeats 400000 in
theorem Read_none (kd sz rm fr tm : Int) (a : Option Addr) (n c : Nat) (now : Int) (w : World) (hs : ((n : Int) == 0) = true)
    (HC : ∀ wx, Below w.heap.size w wx → Calls Try.prog 40 #[.agg #[.int .i64 kd, .int .i64 sz, .int .i64 rm, .int .i64 fr, .slice a n c, .int .i64 tm], .int .i64 now] wx fun e w' => e = .returned (.int .i64 0) ∧ Below wx.heap.size wx w') :
    Calls Try.prog 16 #[.agg #[.int .i64 kd, .int .i64 sz, .int .i64 rm, .int .i64 fr, .slice a n c, .int .i64 tm], .int .i64 now] w fun e w' => e = .returned (.tuple #[.agg z6, .string e0, .bool false, .int .i64 7]) ∧ Below w.heap.size w w' := by
  have HC1 := hid HC
  clear HC
  go_enter Try.func16, Try.ntmps16
  go_wp2_with (go_at_call 40; refine (HC1.out _ (by go_grown)).mono ?_; rintro e w2 ⟨rfl, hb2⟩; obtain ⟨q1, q2, hb, hs⟩ := two_ports hb2; have Q1 := hid q1; have Q2 := hid q2; have HB := hid hb; have HS := hid hs; obtain ⟨d0, d1, d2, d3, d4, d5⟩ := six_of q1; obtain ⟨y0, y1, y2, y3, y4, y5⟩ := six_of q2; have y6 := froz_of q2 0; have y7 := froz_of q2 1; have y8 := froz_of q2 2; have y9 := froz_of q2 3; have y10 := froz_of q2 4; have y11 := froz_of q2 5; clear hb2 q1 q2 hb hs)
  obtain ⟨w7, hw7⟩ : ∃ y, y = st6 w2 (w.heap.size + 1) (.int .i64 0) (.int .i64 0) (.int .i64 0) (.int .i64 0) (.slice none 0 0) (.int .i64 0) := ⟨_, rfl⟩
  have hw8 := hw7
  simp only [st6] at hw8
  rw [← hw8]
  clear hw8
  have HB7 : Hid (Below w.heap.size w w7) := by rw [hw7]; exact st6_below HB.out (by omega)
  have HRES : Hid (Sem.run Try.prog (loadVar 36 ⟨w.heap.size + 1, 0, none⟩) w7 = .ok (.agg #[.int .i64 0, .int .i64 0, .int .i64 0, .int .i64 0, .slice none 0 0, .int .i64 0]) w7) := by
    refine load_port ?_
    rw [hw7]
    exact st6_heap Q2.out
  (try simp only [Exit.inBlock, Exit.then])
  refine bodyPost_ret (by simp [results, Try.results16]; rw [as_addr, Result.andThen_ok, HRES.out, Result.andThen_ok]) rfl ?_
  exact ⟨rfl, HB7.out⟩
set_option maxRecDepth 20000 in
set_option maxHeartbeats 1600000 in
theorem Read_sam (sz rm fr tm : Int) (a : Option Addr) (n c : Nat) (now : Int) (w : World) (hs : ((n : Int) == 0) = false)
    (HC : ∀ wx, Below w.heap.size w wx → Calls Try.prog 40 #[.agg #[.int .i64 1, .int .i64 sz, .int .i64 rm, .int .i64 fr, .slice a n c, .int .i64 tm], .int .i64 now] wx fun e w' => e = .returned (.int .i64 0) ∧ Below wx.heap.size wx w')
    (X : ByteArray) (F : Bool) (li : List ByteArray) (HW : ∀ wx, Below w.heap.size w wx → Calls Try.prog 79 #[.agg #[], .agg #[.int .i64 1, .int .i64 sz, .int .i64 rm, .int .i64 fr, .slice a n c, .int .i64 tm], .int .i64 now] wx fun e w' => (∃ u, e = .returned (.tuple #[.agg #[.int .i64 1, .int .i64 sz, .int .i64 rm, .int .i64 fr, u, .int .i64 tm], .string X, .bool F]) ∧ OwnS w' wx.heap.size u li) ∧ Below wx.heap.size wx w') :
    Calls Try.prog 16 #[.agg #[.int .i64 1, .int .i64 sz, .int .i64 rm, .int .i64 fr, .slice a n c, .int .i64 tm], .int .i64 now] w fun e w' => (∃ u, e = .returned (.tuple #[.agg #[.int .i64 1, .int .i64 sz, .int .i64 rm, .int .i64 fr, u, .int .i64 tm], .string X, .bool F, .int .i64 0]) ∧ OwnS w' w.heap.size u li) ∧ Below w.heap.size w w' := by
  have HC1 := hid HC
  have HM := hid HW
  clear HC HW
  have hm := m_rd1
  go_enter Try.func16, Try.ntmps16
  go_wp2_with (go_at_call 40; refine (HC1.out _ (by go_grown)).mono ?_; rintro e w2 ⟨rfl, hb2⟩; obtain ⟨q1, q2, hb, hs⟩ := two_ports hb2; have Q1 := hid q1; have Q2 := hid q2; have HB := hid hb; have HS := hid hs; obtain ⟨d0, d1, d2, d3, d4, d5⟩ := six_of q1; obtain ⟨y0, y1, y2, y3, y4, y5⟩ := six_of q2; have y6 := froz_of q2 0; have y7 := froz_of q2 1; have y8 := froz_of q2 2; have y9 := froz_of q2 3; have y10 := froz_of q2 4; have y11 := froz_of q2 5; clear hb2 q1 q2 hb hs)
  have ne1 : ¬ w.heap.size = w2.heap.size := by have := HS.out; omega
  have ne2 : ¬ w2.heap.size = w.heap.size := by have := HS.out; omega
  go_region_held3 (fun W => W.cell? ⟨w.heap.size, 0, none⟩ = some (.int .i64 1) ∧ W.cell? ⟨w.heap.size, 1, none⟩ = some (.int .i64 sz) ∧ W.cell? ⟨w.heap.size, 2, none⟩ = some (.int .i64 rm) ∧ W.cell? ⟨w.heap.size, 3, none⟩ = some (.int .i64 fr) ∧ W.cell? ⟨w.heap.size, 4, none⟩ = some (.slice a n c) ∧ W.cell? ⟨w.heap.size, 5, none⟩ = some (.int .i64 tm)) (go_keep)
    (first
      | (go_at_call 41
         refine (carrier_1 _).mono ?_
         rintro e wa ⟨rfl, rfl⟩)
      | (go_at_call 79
         refine (HM.out _ ?_).mono ?_
         · exact Below.drew HB.out
         rintro e w3 ⟨⟨u, rfl, ho3⟩, b3⟩
         have hb3 : Below w2.heap.size w2 w3 := ((Below.refl _ _).drew).trans b3
         obtain ⟨au, nu, cu, hu⟩ : ∃ au nu cu, u = .slice au nu cu := by obtain ⟨a9, c9, e9⟩ := RowG.Own.slice ho3; exact ⟨_, _, _, e9⟩
         subst hu
         have ho4 : OwnS w3 w.heap.size (.slice au nu cu) li := RowG.Own.base ho3 HB.out.size
         have ne3 : ¬ w.heap.size = w3.heap.size := by have := HS.out; have := hb3.size; omega
         have ne4 : ¬ w3.heap.size = w.heap.size := by have := HS.out; have := hb3.size; omega
         have q2 := box_below Q2.out hb3 (Nat.le_refl _)
         have q3 := box_below Q1.out hb3 (Nat.le_refl _)
         obtain ⟨d0, d1, d2, d3, d4, d5⟩ := six_of q3)
      | (go_at_call 79
         refine (HM.out _ ?_).mono ?_
         · exact ((HB.out.alloc HB.out.size _).drew)
         rintro e w3 ⟨⟨u, rfl, ho3⟩, b3⟩
         have hb3 : Below w2.heap.size w2 w3 := (((Below.refl w2.heap.size w2).alloc (Nat.le_refl _) _).drew).trans (b3.mono (by simp))
         obtain ⟨au, nu, cu, hu⟩ : ∃ au nu cu, u = .slice au nu cu := by obtain ⟨a9, c9, e9⟩ := RowG.Own.slice ho3; exact ⟨_, _, _, e9⟩
         subst hu
         have ho4 : OwnS w3 w.heap.size (.slice au nu cu) li := RowG.Own.base ho3 (show w.heap.size ≤ (w2.alloc _).heap.size by rw [World.size_alloc]; have := HB.out.size; omega)
         have ne3 : ¬ w.heap.size = w3.heap.size := by have := HS.out; have := hb3.size; omega
         have ne4 : ¬ w3.heap.size = w.heap.size := by have := HS.out; have := hb3.size; omega
         have q2 := box_below Q2.out hb3 (Nat.le_refl _)
         have q3 := box_below Q1.out hb3 (Nat.le_refl _)
         obtain ⟨d0, d1, d2, d3, d4, d5⟩ := six_of q3
         have hn4 : w3.heap[w2.heap.size]? = some (.cells z6 36) := (b3.block w2.heap.size (by simp)).trans (heap_alloc_new w2 _)
         have n0 := froz_of hn4 0
         have n1 := froz_of hn4 1
         have n2 := froz_of hn4 2
         have n3 := froz_of hn4 3
         have n4 := froz_of hn4 4
         have n5 := froz_of hn4 5
         obtain ⟨m0, m1, m2, m3, m4, m5⟩ := six_of hn4))
  · obtain ⟨w4, hw4⟩ : ∃ y, y = w3.alloc (.cells #[.int .i64 1, .int .i64 sz, .int .i64 rm, .int .i64 fr, .slice au nu cu, .int .i64 tm] 36) := ⟨_, rfl⟩
    have q9 : w4.heap[w3.heap.size]? = some (.cells #[.int .i64 1, .int .i64 sz, .int .i64 rm, .int .i64 fr, .slice au nu cu, .int .i64 tm] 36) := by rw [hw4]; exact box_new w3 _ _
    have q8 : w4.heap[w.heap.size + 1]? = some (.cells z6 36) := by rw [hw4]; exact box_alloc q2 _
    have HO4 : Hid (OwnS w4 w.heap.size (.slice au nu cu) li) := by rw [hw4]; exact World.ownsRow.alloc ho4 _
    have HB4 : Hid (Below w.heap.size w w4) := by rw [hw4]; exact (bel_of HB.out hb3).alloc (bel_of HB.out hb3).size _
    rw [← hw4]
    have Q8 := hid q8
    clear hw4
    try clear d0 d1 d2 d3 d4 d5
    try clear m0 m1 m2 m3 m4 m5
    try clear n0 n1 n2 n3 n4 n5
    try clear y0 y1 y2 y3 y4 y5 y6 y7 y8 y9 y10 y11
    try clear hn4
    clear b3 hb3 ho3 ho4 q2 q3
    obtain ⟨d0, d1, d2, d3, d4, d5⟩ := six_of q9
    obtain ⟨y0, y1, y2, y3, y4, y5⟩ := six_of q8
    have y6 := froz_of q8 0
    have y7 := froz_of q8 1
    have y8 := froz_of q8 2
    have y9 := froz_of q8 3
    have y10 := froz_of q8 4
    have y11 := froz_of q8 5
    clear q8 q9
    go_wp2_with fail
    obtain ⟨w7, hw7⟩ : ∃ y, y = st6 w4 (w.heap.size + 1) (.int .i64 1) (.int .i64 sz) (.int .i64 rm) (.int .i64 fr) (.slice au nu cu) (.int .i64 tm) := ⟨_, rfl⟩
    have hw8 := hw7
    simp only [st6] at hw8
    rw [← hw8]
    clear hw8
    have HB7 : Hid (Below w.heap.size w w7) := by rw [hw7]; exact st6_below HB4.out (by omega)
    have HO7 : Hid (OwnS w7 w.heap.size (.slice au nu cu) li) := by rw [hw7]; exact st6_own HO4.out (orow_ne_box HO4.out Q8.out (by decide))
    have HRES : Hid (Sem.run Try.prog (loadVar 36 ⟨w.heap.size + 1, 0, none⟩) w7 = .ok (.agg #[.int .i64 1, .int .i64 sz, .int .i64 rm, .int .i64 fr, .slice au nu cu, .int .i64 tm]) w7) := by
      refine load_port ?_
      rw [hw7]
      exact st6_heap Q8.out
    (try simp only [Exit.inBlock, Exit.then])
    refine bodyPost_ret (by simp [results, Try.results16]; rw [as_addr, Result.andThen_ok, HRES.out, Result.andThen_ok]) rfl ?_
    exact ⟨⟨_, rfl, HO7.out⟩, HB7.out⟩
  · obtain ⟨w4, hw4⟩ : ∃ y, y = st6 w3 w2.heap.size (.int .i64 1) (.int .i64 sz) (.int .i64 rm) (.int .i64 fr) (.slice au nu cu) (.int .i64 tm) := ⟨_, rfl⟩
    have hw5 := hw4
    simp only [st6] at hw5
    rw [← hw5]
    clear hw5
    have q9 : w4.heap[w2.heap.size]? = some (.cells #[.int .i64 1, .int .i64 sz, .int .i64 rm, .int .i64 fr, .slice au nu cu, .int .i64 tm] 36) := by rw [hw4]; exact st6_heap hn4
    have q8 : w4.heap[w.heap.size + 1]? = some (.cells z6 36) := by rw [hw4, st6_other _ _ _ _ _ _ (by have := HS.out; omega)]; exact q2
    have HO4 : Hid (OwnS w4 w.heap.size (.slice au nu cu) li) := by rw [hw4]; exact st6_own ho4 (orow_ne_box ho4 hn4 (by decide))
    have HB4 : Hid (Below w.heap.size w w4) := by rw [hw4]; exact st6_below (bel_of HB.out hb3) HB.out.size
    have Q8 := hid q8
    clear hw4
    try clear d0 d1 d2 d3 d4 d5
    try clear m0 m1 m2 m3 m4 m5
    try clear n0 n1 n2 n3 n4 n5
    try clear y0 y1 y2 y3 y4 y5 y6 y7 y8 y9 y10 y11
    try clear hn4
    clear b3 hb3 ho3 ho4 q2 q3
    obtain ⟨d0, d1, d2, d3, d4, d5⟩ := six_of q9
    obtain ⟨y0, y1, y2, y3, y4, y5⟩ := six_of q8
    have y6 := froz_of q8 0
    have y7 := froz_of q8 1
    have y8 := froz_of q8 2
    have y9 := froz_of q8 3
    have y10 := froz_of q8 4
    have y11 := froz_of q8 5
    clear q8 q9
    go_wp2_with fail
    obtain ⟨w7, hw7⟩ : ∃ y, y = st6 w4 (w.heap.size + 1) (.int .i64 1) (.int .i64 sz) (.int .i64 rm) (.int .i64 fr) (.slice au nu cu) (.int .i64 tm) := ⟨_, rfl⟩
    have hw8 := hw7
    simp only [st6] at hw8
    rw [← hw8]
    clear hw8
    have HB7 : Hid (Below w.heap.size w w7) := by rw [hw7]; exact st6_below HB4.out (by omega)
    have HO7 : Hid (OwnS w7 w.heap.size (.slice au nu cu) li) := by rw [hw7]; exact st6_own HO4.out (orow_ne_box HO4.out Q8.out (by decide))
    have HRES : Hid (Sem.run Try.prog (loadVar 36 ⟨w.heap.size + 1, 0, none⟩) w7 = .ok (.agg #[.int .i64 1, .int .i64 sz, .int .i64 rm, .int .i64 fr, .slice au nu cu, .int .i64 tm]) w7) := by
      refine load_port ?_
      rw [hw7]
      exact st6_heap Q8.out
    (try simp only [Exit.inBlock, Exit.then])
    refine bodyPost_ret (by simp [results, Try.results16]; rw [as_addr, Result.andThen_ok, HRES.out, Result.andThen_ok]) rfl ?_
    exact ⟨⟨_, rfl, HO7.out⟩, HB7.out⟩
  · obtain ⟨w4, hw4⟩ : ∃ y, y = st6 w3 w2.heap.size (.int .i64 1) (.int .i64 sz) (.int .i64 rm) (.int .i64 fr) (.slice au nu cu) (.int .i64 tm) := ⟨_, rfl⟩
    have hw5 := hw4
    simp only [st6] at hw5
    rw [← hw5]
    clear hw5
    have q9 : w4.heap[w2.heap.size]? = some (.cells #[.int .i64 1, .int .i64 sz, .int .i64 rm, .int .i64 fr, .slice au nu cu, .int .i64 tm] 36) := by rw [hw4]; exact st6_heap hn4
    have q8 : w4.heap[w.heap.size + 1]? = some (.cells z6 36) := by rw [hw4, st6_other _ _ _ _ _ _ (by have := HS.out; omega)]; exact q2
    have HO4 : Hid (OwnS w4 w.heap.size (.slice au nu cu) li) := by rw [hw4]; exact st6_own ho4 (orow_ne_box ho4 hn4 (by decide))
    have HB4 : Hid (Below w.heap.size w w4) := by rw [hw4]; exact st6_below (bel_of HB.out hb3) HB.out.size
    have Q8 := hid q8
    clear hw4
    try clear d0 d1 d2 d3 d4 d5
    try clear m0 m1 m2 m3 m4 m5
    try clear n0 n1 n2 n3 n4 n5
    try clear y0 y1 y2 y3 y4 y5 y6 y7 y8 y9 y10 y11
    try clear hn4
    clear b3 hb3 ho3 ho4 q2 q3
    obtain ⟨d0, d1, d2, d3, d4, d5⟩ := six_of q9
    obtain ⟨y0, y1, y2, y3, y4, y5⟩ := six_of q8
    have y6 := froz_of q8 0
    have y7 := froz_of q8 1
    have y8 := froz_of q8 2
    have y9 := froz_of q8 3
    have y10 := froz_of q8 4
    have y11 := froz_of q8 5
    clear q8 q9
    go_wp2_with fail
    obtain ⟨w7, hw7⟩ : ∃ y, y = st6 w4 (w.heap.size + 1) (.int .i64 1) (.int .i64 sz) (.int .i64 rm) (.int .i64 fr) (.slice au nu cu) (.int .i64 tm) := ⟨_, rfl⟩
    have hw8 := hw7
    simp only [st6] at hw8
    rw [← hw8]
    clear hw8
    have HB7 : Hid (Below w.heap.size w w7) := by rw [hw7]; exact st6_below HB4.out (by omega)
    have HO7 : Hid (OwnS w7 w.heap.size (.slice au nu cu) li) := by rw [hw7]; exact st6_own HO4.out (orow_ne_box HO4.out Q8.out (by decide))
    have HRES : Hid (Sem.run Try.prog (loadVar 36 ⟨w.heap.size + 1, 0, none⟩) w7 = .ok (.agg #[.int .i64 1, .int .i64 sz, .int .i64 rm, .int .i64 fr, .slice au nu cu, .int .i64 tm]) w7) := by
      refine load_port ?_
      rw [hw7]
      exact st6_heap Q8.out
    (try simp only [Exit.inBlock, Exit.then])
    refine bodyPost_ret (by simp [results, Try.results16]; rw [as_addr, Result.andThen_ok, HRES.out, Result.andThen_ok]) rfl ?_
    exact ⟨⟨_, rfl, HO7.out⟩, HB7.out⟩
set_option maxRecDepth 20000 in
set_option maxHeartbeats 1600000 in
theorem Read_que (sz rm fr tm : Int) (a : Option Addr) (n c : Nat) (now : Int) (w : World) (hs : ((n : Int) == 0) = false)
    (HC : ∀ wx, Below w.heap.size w wx → Calls Try.prog 40 #[.agg #[.int .i64 2, .int .i64 sz, .int .i64 rm, .int .i64 fr, .slice a n c, .int .i64 tm], .int .i64 now] wx fun e w' => e = .returned (.int .i64 0) ∧ Below wx.heap.size wx w')
    (X : ByteArray) (F : Bool) (li : List ByteArray) (HW : ∀ wx, Below w.heap.size w wx → Calls Try.prog 84 #[.agg #[], .agg #[.int .i64 2, .int .i64 sz, .int .i64 rm, .int .i64 fr, .slice a n c, .int .i64 tm], .int .i64 now] wx fun e w' => (∃ u, e = .returned (.tuple #[.agg #[.int .i64 2, .int .i64 sz, .int .i64 rm, .int .i64 fr, u, .int .i64 tm], .string X, .bool F]) ∧ OwnS w' wx.heap.size u li) ∧ Below wx.heap.size wx w') :
    Calls Try.prog 16 #[.agg #[.int .i64 2, .int .i64 sz, .int .i64 rm, .int .i64 fr, .slice a n c, .int .i64 tm], .int .i64 now] w fun e w' => (∃ u, e = .returned (.tuple #[.agg #[.int .i64 2, .int .i64 sz, .int .i64 rm, .int .i64 fr, u, .int .i64 tm], .string X, .bool F, .int .i64 0]) ∧ OwnS w' w.heap.size u li) ∧ Below w.heap.size w w' := by
  have HC1 := hid HC
  have HM := hid HW
  clear HC HW
  have hm := m_rd2
  go_enter Try.func16, Try.ntmps16
  go_wp2_with (go_at_call 40; refine (HC1.out _ (by go_grown)).mono ?_; rintro e w2 ⟨rfl, hb2⟩; obtain ⟨q1, q2, hb, hs⟩ := two_ports hb2; have Q1 := hid q1; have Q2 := hid q2; have HB := hid hb; have HS := hid hs; obtain ⟨d0, d1, d2, d3, d4, d5⟩ := six_of q1; obtain ⟨y0, y1, y2, y3, y4, y5⟩ := six_of q2; have y6 := froz_of q2 0; have y7 := froz_of q2 1; have y8 := froz_of q2 2; have y9 := froz_of q2 3; have y10 := froz_of q2 4; have y11 := froz_of q2 5; clear hb2 q1 q2 hb hs)
  have ne1 : ¬ w.heap.size = w2.heap.size := by have := HS.out; omega
  have ne2 : ¬ w2.heap.size = w.heap.size := by have := HS.out; omega
  go_region_held3 (fun W => W.cell? ⟨w.heap.size, 0, none⟩ = some (.int .i64 2) ∧ W.cell? ⟨w.heap.size, 1, none⟩ = some (.int .i64 sz) ∧ W.cell? ⟨w.heap.size, 2, none⟩ = some (.int .i64 rm) ∧ W.cell? ⟨w.heap.size, 3, none⟩ = some (.int .i64 fr) ∧ W.cell? ⟨w.heap.size, 4, none⟩ = some (.slice a n c) ∧ W.cell? ⟨w.heap.size, 5, none⟩ = some (.int .i64 tm)) (go_keep)
    (first
      | (go_at_call 41
         refine (carrier_2 _).mono ?_
         rintro e wa ⟨rfl, rfl⟩)
      | (go_at_call 84
         refine (HM.out _ ?_).mono ?_
         · exact Below.drew HB.out
         rintro e w3 ⟨⟨u, rfl, ho3⟩, b3⟩
         have hb3 : Below w2.heap.size w2 w3 := ((Below.refl _ _).drew).trans b3
         obtain ⟨au, nu, cu, hu⟩ : ∃ au nu cu, u = .slice au nu cu := by obtain ⟨a9, c9, e9⟩ := RowG.Own.slice ho3; exact ⟨_, _, _, e9⟩
         subst hu
         have ho4 : OwnS w3 w.heap.size (.slice au nu cu) li := RowG.Own.base ho3 HB.out.size
         have ne3 : ¬ w.heap.size = w3.heap.size := by have := HS.out; have := hb3.size; omega
         have ne4 : ¬ w3.heap.size = w.heap.size := by have := HS.out; have := hb3.size; omega
         have q2 := box_below Q2.out hb3 (Nat.le_refl _)
         have q3 := box_below Q1.out hb3 (Nat.le_refl _)
         obtain ⟨d0, d1, d2, d3, d4, d5⟩ := six_of q3)
      | (go_at_call 84
         refine (HM.out _ ?_).mono ?_
         · exact ((HB.out.alloc HB.out.size _).drew)
         rintro e w3 ⟨⟨u, rfl, ho3⟩, b3⟩
         have hb3 : Below w2.heap.size w2 w3 := (((Below.refl w2.heap.size w2).alloc (Nat.le_refl _) _).drew).trans (b3.mono (by simp))
         obtain ⟨au, nu, cu, hu⟩ : ∃ au nu cu, u = .slice au nu cu := by obtain ⟨a9, c9, e9⟩ := RowG.Own.slice ho3; exact ⟨_, _, _, e9⟩
         subst hu
         have ho4 : OwnS w3 w.heap.size (.slice au nu cu) li := RowG.Own.base ho3 (show w.heap.size ≤ (w2.alloc _).heap.size by rw [World.size_alloc]; have := HB.out.size; omega)
         have ne3 : ¬ w.heap.size = w3.heap.size := by have := HS.out; have := hb3.size; omega
         have ne4 : ¬ w3.heap.size = w.heap.size := by have := HS.out; have := hb3.size; omega
         have q2 := box_below Q2.out hb3 (Nat.le_refl _)
         have q3 := box_below Q1.out hb3 (Nat.le_refl _)
         obtain ⟨d0, d1, d2, d3, d4, d5⟩ := six_of q3
         have hn4 : w3.heap[w2.heap.size]? = some (.cells z6 36) := (b3.block w2.heap.size (by simp)).trans (heap_alloc_new w2 _)
         have n0 := froz_of hn4 0
         have n1 := froz_of hn4 1
         have n2 := froz_of hn4 2
         have n3 := froz_of hn4 3
         have n4 := froz_of hn4 4
         have n5 := froz_of hn4 5
         obtain ⟨m0, m1, m2, m3, m4, m5⟩ := six_of hn4))
  · obtain ⟨w4, hw4⟩ : ∃ y, y = w3.alloc (.cells #[.int .i64 2, .int .i64 sz, .int .i64 rm, .int .i64 fr, .slice au nu cu, .int .i64 tm] 36) := ⟨_, rfl⟩
    have q9 : w4.heap[w3.heap.size]? = some (.cells #[.int .i64 2, .int .i64 sz, .int .i64 rm, .int .i64 fr, .slice au nu cu, .int .i64 tm] 36) := by rw [hw4]; exact box_new w3 _ _
    have q8 : w4.heap[w.heap.size + 1]? = some (.cells z6 36) := by rw [hw4]; exact box_alloc q2 _
    have HO4 : Hid (OwnS w4 w.heap.size (.slice au nu cu) li) := by rw [hw4]; exact World.ownsRow.alloc ho4 _
    have HB4 : Hid (Below w.heap.size w w4) := by rw [hw4]; exact (bel_of HB.out hb3).alloc (bel_of HB.out hb3).size _
    rw [← hw4]
    have Q8 := hid q8
    clear hw4
    try clear d0 d1 d2 d3 d4 d5
    try clear m0 m1 m2 m3 m4 m5
    try clear n0 n1 n2 n3 n4 n5
    try clear y0 y1 y2 y3 y4 y5 y6 y7 y8 y9 y10 y11
    try clear hn4
    clear b3 hb3 ho3 ho4 q2 q3
    obtain ⟨d0, d1, d2, d3, d4, d5⟩ := six_of q9
    obtain ⟨y0, y1, y2, y3, y4, y5⟩ := six_of q8
    have y6 := froz_of q8 0
    have y7 := froz_of q8 1
    have y8 := froz_of q8 2
    have y9 := froz_of q8 3
    have y10 := froz_of q8 4
    have y11 := froz_of q8 5
    clear q8 q9
    go_wp2_with fail
    obtain ⟨w7, hw7⟩ : ∃ y, y = st6 w4 (w.heap.size + 1) (.int .i64 2) (.int .i64 sz) (.int .i64 rm) (.int .i64 fr) (.slice au nu cu) (.int .i64 tm) := ⟨_, rfl⟩
    have hw8 := hw7
    simp only [st6] at hw8
    rw [← hw8]
    clear hw8
    have HB7 : Hid (Below w.heap.size w w7) := by rw [hw7]; exact st6_below HB4.out (by omega)
    have HO7 : Hid (OwnS w7 w.heap.size (.slice au nu cu) li) := by rw [hw7]; exact st6_own HO4.out (orow_ne_box HO4.out Q8.out (by decide))
    have HRES : Hid (Sem.run Try.prog (loadVar 36 ⟨w.heap.size + 1, 0, none⟩) w7 = .ok (.agg #[.int .i64 2, .int .i64 sz, .int .i64 rm, .int .i64 fr, .slice au nu cu, .int .i64 tm]) w7) := by
      refine load_port ?_
      rw [hw7]
      exact st6_heap Q8.out
    (try simp only [Exit.inBlock, Exit.then])
    refine bodyPost_ret (by simp [results, Try.results16]; rw [as_addr, Result.andThen_ok, HRES.out, Result.andThen_ok]) rfl ?_
    exact ⟨⟨_, rfl, HO7.out⟩, HB7.out⟩
  · obtain ⟨w4, hw4⟩ : ∃ y, y = st6 w3 w2.heap.size (.int .i64 2) (.int .i64 sz) (.int .i64 rm) (.int .i64 fr) (.slice au nu cu) (.int .i64 tm) := ⟨_, rfl⟩
    have hw5 := hw4
    simp only [st6] at hw5
    rw [← hw5]
    clear hw5
    have q9 : w4.heap[w2.heap.size]? = some (.cells #[.int .i64 2, .int .i64 sz, .int .i64 rm, .int .i64 fr, .slice au nu cu, .int .i64 tm] 36) := by rw [hw4]; exact st6_heap hn4
    have q8 : w4.heap[w.heap.size + 1]? = some (.cells z6 36) := by rw [hw4, st6_other _ _ _ _ _ _ (by have := HS.out; omega)]; exact q2
    have HO4 : Hid (OwnS w4 w.heap.size (.slice au nu cu) li) := by rw [hw4]; exact st6_own ho4 (orow_ne_box ho4 hn4 (by decide))
    have HB4 : Hid (Below w.heap.size w w4) := by rw [hw4]; exact st6_below (bel_of HB.out hb3) HB.out.size
    have Q8 := hid q8
    clear hw4
    try clear d0 d1 d2 d3 d4 d5
    try clear m0 m1 m2 m3 m4 m5
    try clear n0 n1 n2 n3 n4 n5
    try clear y0 y1 y2 y3 y4 y5 y6 y7 y8 y9 y10 y11
    try clear hn4
    clear b3 hb3 ho3 ho4 q2 q3
    obtain ⟨d0, d1, d2, d3, d4, d5⟩ := six_of q9
    obtain ⟨y0, y1, y2, y3, y4, y5⟩ := six_of q8
    have y6 := froz_of q8 0
    have y7 := froz_of q8 1
    have y8 := froz_of q8 2
    have y9 := froz_of q8 3
    have y10 := froz_of q8 4
    have y11 := froz_of q8 5
    clear q8 q9
    go_wp2_with fail
    obtain ⟨w7, hw7⟩ : ∃ y, y = st6 w4 (w.heap.size + 1) (.int .i64 2) (.int .i64 sz) (.int .i64 rm) (.int .i64 fr) (.slice au nu cu) (.int .i64 tm) := ⟨_, rfl⟩
    have hw8 := hw7
    simp only [st6] at hw8
    rw [← hw8]
    clear hw8
    have HB7 : Hid (Below w.heap.size w w7) := by rw [hw7]; exact st6_below HB4.out (by omega)
    have HO7 : Hid (OwnS w7 w.heap.size (.slice au nu cu) li) := by rw [hw7]; exact st6_own HO4.out (orow_ne_box HO4.out Q8.out (by decide))
    have HRES : Hid (Sem.run Try.prog (loadVar 36 ⟨w.heap.size + 1, 0, none⟩) w7 = .ok (.agg #[.int .i64 2, .int .i64 sz, .int .i64 rm, .int .i64 fr, .slice au nu cu, .int .i64 tm]) w7) := by
      refine load_port ?_
      rw [hw7]
      exact st6_heap Q8.out
    (try simp only [Exit.inBlock, Exit.then])
    refine bodyPost_ret (by simp [results, Try.results16]; rw [as_addr, Result.andThen_ok, HRES.out, Result.andThen_ok]) rfl ?_
    exact ⟨⟨_, rfl, HO7.out⟩, HB7.out⟩
  · obtain ⟨w4, hw4⟩ : ∃ y, y = st6 w3 w2.heap.size (.int .i64 2) (.int .i64 sz) (.int .i64 rm) (.int .i64 fr) (.slice au nu cu) (.int .i64 tm) := ⟨_, rfl⟩
    have hw5 := hw4
    simp only [st6] at hw5
    rw [← hw5]
    clear hw5
    have q9 : w4.heap[w2.heap.size]? = some (.cells #[.int .i64 2, .int .i64 sz, .int .i64 rm, .int .i64 fr, .slice au nu cu, .int .i64 tm] 36) := by rw [hw4]; exact st6_heap hn4
    have q8 : w4.heap[w.heap.size + 1]? = some (.cells z6 36) := by rw [hw4, st6_other _ _ _ _ _ _ (by have := HS.out; omega)]; exact q2
    have HO4 : Hid (OwnS w4 w.heap.size (.slice au nu cu) li) := by rw [hw4]; exact st6_own ho4 (orow_ne_box ho4 hn4 (by decide))
    have HB4 : Hid (Below w.heap.size w w4) := by rw [hw4]; exact st6_below (bel_of HB.out hb3) HB.out.size
    have Q8 := hid q8
    clear hw4
    try clear d0 d1 d2 d3 d4 d5
    try clear m0 m1 m2 m3 m4 m5
    try clear n0 n1 n2 n3 n4 n5
    try clear y0 y1 y2 y3 y4 y5 y6 y7 y8 y9 y10 y11
    try clear hn4
    clear b3 hb3 ho3 ho4 q2 q3
    obtain ⟨d0, d1, d2, d3, d4, d5⟩ := six_of q9
    obtain ⟨y0, y1, y2, y3, y4, y5⟩ := six_of q8
    have y6 := froz_of q8 0
    have y7 := froz_of q8 1
    have y8 := froz_of q8 2
    have y9 := froz_of q8 3
    have y10 := froz_of q8 4
    have y11 := froz_of q8 5
    clear q8 q9
    go_wp2_with fail
    obtain ⟨w7, hw7⟩ : ∃ y, y = st6 w4 (w.heap.size + 1) (.int .i64 2) (.int .i64 sz) (.int .i64 rm) (.int .i64 fr) (.slice au nu cu) (.int .i64 tm) := ⟨_, rfl⟩
    have hw8 := hw7
    simp only [st6] at hw8
    rw [← hw8]
    clear hw8
    have HB7 : Hid (Below w.heap.size w w7) := by rw [hw7]; exact st6_below HB4.out (by omega)
    have HO7 : Hid (OwnS w7 w.heap.size (.slice au nu cu) li) := by rw [hw7]; exact st6_own HO4.out (orow_ne_box HO4.out Q8.out (by decide))
    have HRES : Hid (Sem.run Try.prog (loadVar 36 ⟨w.heap.size + 1, 0, none⟩) w7 = .ok (.agg #[.int .i64 2, .int .i64 sz, .int .i64 rm, .int .i64 fr, .slice au nu cu, .int .i64 tm]) w7) := by
      refine load_port ?_
      rw [hw7]
      exact st6_heap Q8.out
    (try simp only [Exit.inBlock, Exit.then])
    refine bodyPost_ret (by simp [results, Try.results16]; rw [as_addr, Result.andThen_ok, HRES.out, Result.andThen_ok]) rfl ?_
    exact ⟨⟨_, rfl, HO7.out⟩, HB7.out⟩
/-- what Read tells -/
def rdQ (p : Pt) (now : Int) : Pt := if rdE p now = 0 then rdP p else zPt
def rdX (p : Pt) (now : Int) : ByteArray := if rdE p now = 0 then rdT p else e0
def rdB (p : Pt) (now : Int) : Bool := if rdE p now = 0 then rdF p now else false
theorem Read_any (p : Pt) (a : Option Addr) (c : Nat) (now : Int) (w : World) (hr : RdS w a p.texts) (hc : p.texts.length ≤ c) :
    Calls Try.prog 16 #[vP p (.slice a p.texts.length c), .int .i64 now] w fun e w' => (∃ u, e = .returned (.tuple #[vP (rdQ p now) u, .string (rdX p now), .bool (rdB p now), .int .i64 (rdE p now)]) ∧ OwnS w' w.heap.size u (rdQ p now).texts) ∧ Below w.heap.size w w' := by
  have HC := fun wx (hb : Below w.heap.size w wx) => checkNow_any p a c now wx (hr.below hb (Nat.le_refl _))
  have fail : ∀ {e : Ending} {w' : World}, rdE p now ≠ 0 → e = .returned (.tuple #[.agg z6, .string e0, .bool false, .int .i64 (rdE p now)]) ∧ Below w.heap.size w w' → (∃ u, e = .returned (.tuple #[vP (rdQ p now) u, .string (rdX p now), .bool (rdB p now), .int .i64 (rdE p now)]) ∧ OwnS w' w.heap.size u (rdQ p now).texts) ∧ Below w.heap.size w w' := by
    intro e w' h0 h
    have hq : rdQ p now = zPt := by unfold rdQ; rw [if_neg h0]
    have hx : rdX p now = e0 := by unfold rdX; rw [if_neg h0]
    have hf : rdB p now = false := by unfold rdB; rw [if_neg h0]
    rw [hq, hx, hf]
    exact ⟨⟨.slice none 0 0, h.1, RowG.Own.nil _ _ _ _⟩, h.2⟩
  rcases nowE_cases p now with ⟨h0, _, h1⟩ | ⟨h0, h1, h2⟩
  · refine (Read_now p.kind p.size p.room p.fresh p.tm (nowE p now) a p.texts.length c now w (by simp [h0]) HC).mono fun e w' h => fail (by rw [h1]; exact h0) ?_
    rw [h1]; exact h
  · rw [h0] at HC
    have e1 : rdE p now = if p.texts = [] then 7 else 0 := by
      unfold rdE
      rw [if_neg (by simp [h1]), if_neg (by simpa using h2)]
    by_cases h3 : p.texts = []
    · rw [if_pos h3] at e1
      refine (Read_none p.kind p.size p.room p.fresh p.tm a p.texts.length c now w (by simp [h3]) HC).mono fun e w' h => fail (by rw [e1]; decide) ?_
      rw [e1]; exact h
    · rw [if_neg h3] at e1
      have h4 : 0 < p.texts.length := List.length_pos_iff.2 h3
      obtain ⟨⟨k12, hs, hk1, hk2⟩, ⟨f1, f2⟩, f3, f4⟩ := chk_zero h1
      have hl : p.texts.length ≤ 1000 := by
        rcases k12 with k | k
        · have := (hk1 k).1; omega
        · have := (hk2 k).2.1; omega
      have hq : rdQ p now = rdP p := by unfold rdQ; rw [if_pos e1]
      have hx : rdX p now = rdT p := by unfold rdX; rw [if_pos e1]
      have hf : rdB p now = rdF p now := by unfold rdB; rw [if_pos e1]
      rw [hq, hx, hf, e1]
      rcases k12 with k | k
      · have g1 : rdP p = p := by unfold rdP; rw [if_pos k]
        have g2 : rdF p now = decide (now - p.tm ≤ p.fresh) := by unfold rdF; rw [if_pos k]
        rw [g1, g2]
        obtain ⟨kd, sz, rm, fr, l, tm⟩ := p
        simp only at k
        subst k
        exact Read_sam sz rm fr tm a l.length c now w (by simp; omega) HC _ _ _ (fun wx hb => srd_any 1 sz rm fr tm a c l now wx (hr.below hb (Nat.le_refl _)) h4 hl ⟨f3.1, h2.1, h2.2⟩)
      · have g1 : rdP p = { p with texts := p.texts.drop 1 } := by unfold rdP; rw [if_neg (by omega)]
        have g2 : rdF p now = true := by unfold rdF; rw [if_neg (by omega)]
        rw [g1, g2]
        obtain ⟨kd, sz, rm, fr, l, tm⟩ := p
        simp only at k
        subst k
        exact Read_que sz rm fr tm a l.length c now w (by simp; omega) HC _ _ _ (fun wx hb => qrd_any 2 sz rm fr tm a c l now wx (hr.below hb (Nat.le_refl _)) h4 hc hl)
end PortC
end Go.Proofs.Ytllfpbngfkimlaa
