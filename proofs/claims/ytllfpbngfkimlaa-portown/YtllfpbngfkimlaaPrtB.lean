/- Package port: Check (gen_prtb.py writes this text). -/
import Derived.Test.YtllfpbngfkimlaaPrtA
set_option linter.unusedVariables false
namespace Go.Proofs.Ytllfpbngfkimlaa
open Go.RowKit
open Go.Shelf Go.Sort
open SpanM SpanC IntsC
namespace PortC
open PrtM
/-- the six cells of a port in a call's own box -/
theorem B1.six {w W : World} {x0 x1 x2 x3 x4 x5 : Value} {t : Nat} (h : B1 w W #[x0, x1, x2, x3, x4, x5] t) :
    W.cell? ⟨w.heap.size, 0, none⟩ = some x0 ∧ W.cell? ⟨w.heap.size, 1, none⟩ = some x1 ∧ W.cell? ⟨w.heap.size, 2, none⟩ = some x2 ∧ W.cell? ⟨w.heap.size, 3, none⟩ = some x3 ∧ W.cell? ⟨w.heap.size, 4, none⟩ = some x4 ∧ W.cell? ⟨w.heap.size, 5, none⟩ = some x5 :=
  ⟨h.c0 0, h.c0 1, h.c0 2, h.c0 3, h.c0 4, h.c0 5⟩
set_option maxRecDepth 20000 in
set_option maxHeartbeats 400000 in
theorem ck_no (kd sz rm fr tm : Int) (a : Option Addr) (n c : Nat) (w : World) (h1 : ¬ kd = 1) (h2 : ¬ kd = 2) :
    Calls Try.prog 18 #[.agg #[.int .i64 kd, .int .i64 sz, .int .i64 rm, .int .i64 fr, .slice a n c, .int .i64 tm]] w fun e w' => e = .returned (.int .i64 1) ∧ Below w.heap.size w w' := by
  have HC := hid (fun wx => carrier_no kd h1 h2 wx)
  clear h1 h2
  go_enter Try.func18, Try.ntmps18
  go_wp2_with (go_at_call 41; refine (HC.out _).mono ?_; rintro e wa ⟨rfl, rfl⟩)
  go_ret
  exact ⟨rfl, by go_grown⟩
set_option maxRecDepth 20000 in
set_option maxHeartbeats 400000 in
theorem ck_1_0 (sz rm fr tm : Int) (a : Option Addr) (n c : Nat) (w : World) (h1 : ¬ (1 ≤ sz ∧ sz ≤ 4096)) :
    Calls Try.prog 18 #[.agg #[.int .i64 1, .int .i64 sz, .int .i64 rm, .int .i64 fr, .slice a n c, .int .i64 tm]] w fun e w' => e = .returned (.int .i64 1) ∧ Below w.heap.size w w' := by
  have HW1 := hid (fun wx => within_no sz 1 4096 wx h1)
  clear h1
  go_enter Try.func18, Try.ntmps18
  go_wp2_with (first | (go_at_call 41; refine (carrier_1 _).mono ?_; rintro e wa ⟨rfl, rfl⟩) | (go_at_call 42; (with_reducible refine (HW1.out _).mono ?_); rintro e wb ⟨rfl, rfl⟩))
  go_ret
  exact ⟨rfl, by go_grown⟩
set_option maxRecDepth 20000 in
set_option maxHeartbeats 400000 in
theorem ck_1_1 (sz rm fr tm : Int) (a : Option Addr) (n c : Nat) (w : World) (h1 : (1 ≤ sz ∧ sz ≤ 4096)) (h2 : decide (rm = 1 ∧ 0 ≤ fr ∧ fr ≤ big) = false) :
    Calls Try.prog 18 #[.agg #[.int .i64 1, .int .i64 sz, .int .i64 rm, .int .i64 fr, .slice a n c, .int .i64 tm]] w fun e w' => e = .returned (.int .i64 1) ∧ Below w.heap.size w w' := by
  have HW1 := hid (fun wx => within_yes sz 1 4096 wx h1)
  clear h1
  have HA := hid (fun wx => allow1 rm fr wx)
  rw [h2] at HA
  clear h2
  have hma := m_all1
  go_enter Try.func18, Try.ntmps18
  go_wp2_with (first | (go_at_call 41; refine (carrier_1 _).mono ?_; rintro e wa ⟨rfl, rfl⟩) | (go_at_call 42; (with_reducible refine (HW1.out _).mono ?_); rintro e wb ⟨rfl, rfl⟩) | (go_at_call 77; refine (HA.out _).mono ?_; rintro e w2 ⟨rfl, hb2⟩; have X2 := hid ((B1.start w _ 36).step hb2); obtain ⟨d0, d1, d2, d3, d4, d5⟩ := B1.six X2.out; clear hb2))
  go_ret
  exact ⟨rfl, X2.out.bel⟩
set_option maxRecDepth 20000 in
set_option maxHeartbeats 400000 in
theorem ck_1_2 (sz rm fr tm : Int) (a : Option Addr) (n c : Nat) (w : World) (h1 : (1 ≤ sz ∧ sz ≤ 4096)) (h2 : decide (rm = 1 ∧ 0 ≤ fr ∧ fr ≤ big) = true) (h3 : ¬ (0 ≤ tm ∧ tm ≤ 1099511627776)) :
    Calls Try.prog 18 #[.agg #[.int .i64 1, .int .i64 sz, .int .i64 rm, .int .i64 fr, .slice a n c, .int .i64 tm]] w fun e w' => e = .returned (.int .i64 4) ∧ Below w.heap.size w w' := by
  have HW1 := hid (fun wx => within_yes sz 1 4096 wx h1)
  clear h1
  have HA := hid (fun wx => allow1 rm fr wx)
  rw [h2] at HA
  clear h2
  have hma := m_all1
  have HW3 := hid (fun wx => within_no tm 0 1099511627776 wx h3)
  clear h3
  go_enter Try.func18, Try.ntmps18
  go_wp2_with (first | (go_at_call 41; refine (carrier_1 _).mono ?_; rintro e wa ⟨rfl, rfl⟩) | (go_at_call 42; (with_reducible refine (HW1.out _).mono ?_); rintro e wb ⟨rfl, rfl⟩) | (go_at_call 77; refine (HA.out _).mono ?_; rintro e w2 ⟨rfl, hb2⟩; have X2 := hid ((B1.start w _ 36).step hb2); obtain ⟨d0, d1, d2, d3, d4, d5⟩ := B1.six X2.out; clear hb2) | (go_at_call 42; (with_reducible refine (HW3.out _).mono ?_); rintro e wc ⟨rfl, rfl⟩))
  go_ret
  exact ⟨rfl, X2.out.bel⟩
set_option maxRecDepth 20000 in
set_option maxHeartbeats 400000 in
theorem ck_1_3 (sz rm fr tm : Int) (a : Option Addr) (n c : Nat) (w : World) (h1 : (1 ≤ sz ∧ sz ≤ 4096)) (h2 : decide (rm = 1 ∧ 0 ≤ fr ∧ fr ≤ big) = true) (h3 : (0 ≤ tm ∧ tm ≤ 1099511627776)) (h4 : ∀ wx, Below w.heap.size w wx → Calls Try.prog 43 #[.agg #[.int .i64 1, .int .i64 sz, .int .i64 rm, .int .i64 fr, .slice a n c, .int .i64 tm]] wx fun e w' => e = .returned (.bool false) ∧ Below wx.heap.size wx w') :
    Calls Try.prog 18 #[.agg #[.int .i64 1, .int .i64 sz, .int .i64 rm, .int .i64 fr, .slice a n c, .int .i64 tm]] w fun e w' => e = .returned (.int .i64 4) ∧ Below w.heap.size w w' := by
  have HW1 := hid (fun wx => within_yes sz 1 4096 wx h1)
  clear h1
  have HA := hid (fun wx => allow1 rm fr wx)
  rw [h2] at HA
  clear h2
  have hma := m_all1
  have HW3 := hid (fun wx => within_yes tm 0 1099511627776 wx h3)
  clear h3
  have HT := hid h4
  clear h4
  go_enter Try.func18, Try.ntmps18
  go_wp2_with (first | (go_at_call 41; refine (carrier_1 _).mono ?_; rintro e wa ⟨rfl, rfl⟩) | (go_at_call 42; (with_reducible refine (HW1.out _).mono ?_); rintro e wb ⟨rfl, rfl⟩) | (go_at_call 77; refine (HA.out _).mono ?_; rintro e w2 ⟨rfl, hb2⟩; have X2 := hid ((B1.start w _ 36).step hb2); obtain ⟨d0, d1, d2, d3, d4, d5⟩ := B1.six X2.out; clear hb2) | (go_at_call 42; (with_reducible refine (HW3.out _).mono ?_); rintro e wc ⟨rfl, rfl⟩) | (go_at_call 43; refine (HT.out _ X2.out.bel).mono ?_; rintro e w3 ⟨rfl, hb3⟩; have X3 := hid (X2.out.step hb3); obtain ⟨f0, f1, f2, f3, f4, f5⟩ := B1.six X3.out; clear hb3))
  go_ret
  exact ⟨rfl, X3.out.bel⟩
set_option maxRecDepth 20000 in
set_option maxHeartbeats 400000 in
theorem ck_1_4 (sz rm fr tm : Int) (a : Option Addr) (n c : Nat) (w : World) (h1 : (1 ≤ sz ∧ sz ≤ 4096)) (h2 : decide (rm = 1 ∧ 0 ≤ fr ∧ fr ≤ big) = true) (h3 : (0 ≤ tm ∧ tm ≤ 1099511627776)) (h4 : ∀ wx, Below w.heap.size w wx → Calls Try.prog 43 #[.agg #[.int .i64 1, .int .i64 sz, .int .i64 rm, .int .i64 fr, .slice a n c, .int .i64 tm]] wx fun e w' => e = .returned (.bool true) ∧ Below wx.heap.size wx w') (h5 : (tm != 0) = false) :
    Calls Try.prog 18 #[.agg #[.int .i64 1, .int .i64 sz, .int .i64 rm, .int .i64 fr, .slice a n c, .int .i64 tm]] w fun e w' => e = .returned (.int .i64 0) ∧ Below w.heap.size w w' := by
  have HW1 := hid (fun wx => within_yes sz 1 4096 wx h1)
  clear h1
  have HA := hid (fun wx => allow1 rm fr wx)
  rw [h2] at HA
  clear h2
  have hma := m_all1
  have HW3 := hid (fun wx => within_yes tm 0 1099511627776 wx h3)
  clear h3
  have HT := hid h4
  clear h4
  go_enter Try.func18, Try.ntmps18
  go_wp2_with (first | (go_at_call 41; refine (carrier_1 _).mono ?_; rintro e wa ⟨rfl, rfl⟩) | (go_at_call 42; (with_reducible refine (HW1.out _).mono ?_); rintro e wb ⟨rfl, rfl⟩) | (go_at_call 77; refine (HA.out _).mono ?_; rintro e w2 ⟨rfl, hb2⟩; have X2 := hid ((B1.start w _ 36).step hb2); obtain ⟨d0, d1, d2, d3, d4, d5⟩ := B1.six X2.out; clear hb2) | (go_at_call 42; (with_reducible refine (HW3.out _).mono ?_); rintro e wc ⟨rfl, rfl⟩) | (go_at_call 43; refine (HT.out _ X2.out.bel).mono ?_; rintro e w3 ⟨rfl, hb3⟩; have X3 := hid (X2.out.step hb3); obtain ⟨f0, f1, f2, f3, f4, f5⟩ := B1.six X3.out; clear hb3))
  go_ret
  exact ⟨rfl, X3.out.bel⟩
set_option maxRecDepth 20000 in
set_option maxHeartbeats 400000 in
theorem ck_1_5 (sz rm fr tm : Int) (a : Option Addr) (n c : Nat) (w : World) (h1 : (1 ≤ sz ∧ sz ≤ 4096)) (h2 : decide (rm = 1 ∧ 0 ≤ fr ∧ fr ≤ big) = true) (h3 : (0 ≤ tm ∧ tm ≤ 1099511627776)) (h4 : ∀ wx, Below w.heap.size w wx → Calls Try.prog 43 #[.agg #[.int .i64 1, .int .i64 sz, .int .i64 rm, .int .i64 fr, .slice a n c, .int .i64 tm]] wx fun e w' => e = .returned (.bool true) ∧ Below wx.heap.size wx w') (h5 : (tm != 0) = true) (h6 : ((n : Int) == 0) = true) :
    Calls Try.prog 18 #[.agg #[.int .i64 1, .int .i64 sz, .int .i64 rm, .int .i64 fr, .slice a n c, .int .i64 tm]] w fun e w' => e = .returned (.int .i64 4) ∧ Below w.heap.size w w' := by
  have HW1 := hid (fun wx => within_yes sz 1 4096 wx h1)
  clear h1
  have HA := hid (fun wx => allow1 rm fr wx)
  rw [h2] at HA
  clear h2
  have hma := m_all1
  have HW3 := hid (fun wx => within_yes tm 0 1099511627776 wx h3)
  clear h3
  have HT := hid h4
  clear h4
  go_enter Try.func18, Try.ntmps18
  go_wp2_with (first | (go_at_call 41; refine (carrier_1 _).mono ?_; rintro e wa ⟨rfl, rfl⟩) | (go_at_call 42; (with_reducible refine (HW1.out _).mono ?_); rintro e wb ⟨rfl, rfl⟩) | (go_at_call 77; refine (HA.out _).mono ?_; rintro e w2 ⟨rfl, hb2⟩; have X2 := hid ((B1.start w _ 36).step hb2); obtain ⟨d0, d1, d2, d3, d4, d5⟩ := B1.six X2.out; clear hb2) | (go_at_call 42; (with_reducible refine (HW3.out _).mono ?_); rintro e wc ⟨rfl, rfl⟩) | (go_at_call 43; refine (HT.out _ X2.out.bel).mono ?_; rintro e w3 ⟨rfl, hb3⟩; have X3 := hid (X2.out.step hb3); obtain ⟨f0, f1, f2, f3, f4, f5⟩ := B1.six X3.out; clear hb3))
  go_ret
  exact ⟨rfl, X3.out.bel⟩
set_option maxRecDepth 20000 in
set_option maxHeartbeats 400000 in
theorem ck_1_6 (sz rm fr tm : Int) (a : Option Addr) (n c : Nat) (w : World) (h1 : (1 ≤ sz ∧ sz ≤ 4096)) (h2 : decide (rm = 1 ∧ 0 ≤ fr ∧ fr ≤ big) = true) (h3 : (0 ≤ tm ∧ tm ≤ 1099511627776)) (h4 : ∀ wx, Below w.heap.size w wx → Calls Try.prog 43 #[.agg #[.int .i64 1, .int .i64 sz, .int .i64 rm, .int .i64 fr, .slice a n c, .int .i64 tm]] wx fun e w' => e = .returned (.bool true) ∧ Below wx.heap.size wx w') (h5 : (tm != 0) = true) (h6 : ((n : Int) == 0) = false) :
    Calls Try.prog 18 #[.agg #[.int .i64 1, .int .i64 sz, .int .i64 rm, .int .i64 fr, .slice a n c, .int .i64 tm]] w fun e w' => e = .returned (.int .i64 0) ∧ Below w.heap.size w w' := by
  have HW1 := hid (fun wx => within_yes sz 1 4096 wx h1)
  clear h1
  have HA := hid (fun wx => allow1 rm fr wx)
  rw [h2] at HA
  clear h2
  have hma := m_all1
  have HW3 := hid (fun wx => within_yes tm 0 1099511627776 wx h3)
  clear h3
  have HT := hid h4
  clear h4
  have hmk := m_kt1
  go_enter Try.func18, Try.ntmps18
  go_wp2_with (first | (go_at_call 41; refine (carrier_1 _).mono ?_; rintro e wa ⟨rfl, rfl⟩) | (go_at_call 42; (with_reducible refine (HW1.out _).mono ?_); rintro e wb ⟨rfl, rfl⟩) | (go_at_call 77; refine (HA.out _).mono ?_; rintro e w2 ⟨rfl, hb2⟩; have X2 := hid ((B1.start w _ 36).step hb2); obtain ⟨d0, d1, d2, d3, d4, d5⟩ := B1.six X2.out; clear hb2) | (go_at_call 42; (with_reducible refine (HW3.out _).mono ?_); rintro e wc ⟨rfl, rfl⟩) | (go_at_call 43; refine (HT.out _ X2.out.bel).mono ?_; rintro e w3 ⟨rfl, hb3⟩; have X3 := hid (X2.out.step hb3); obtain ⟨f0, f1, f2, f3, f4, f5⟩ := B1.six X3.out; clear hb3) | (go_at_call 78; refine (kt1 _).mono ?_; rintro e w4 ⟨rfl, hb4⟩; have X4 := hid (X3.out.step hb4); clear hb4))
  go_ret
  exact ⟨rfl, X4.out.bel⟩
set_option maxRecDepth 20000 in
set_option maxHeartbeats 400000 in
theorem ck_2_0 (sz rm fr tm : Int) (a : Option Addr) (n c : Nat) (w : World) (h1 : ¬ (1 ≤ sz ∧ sz ≤ 4096)) :
    Calls Try.prog 18 #[.agg #[.int .i64 2, .int .i64 sz, .int .i64 rm, .int .i64 fr, .slice a n c, .int .i64 tm]] w fun e w' => e = .returned (.int .i64 1) ∧ Below w.heap.size w w' := by
  have HW1 := hid (fun wx => within_no sz 1 4096 wx h1)
  clear h1
  go_enter Try.func18, Try.ntmps18
  go_wp2_with (first | (go_at_call 41; refine (carrier_2 _).mono ?_; rintro e wa ⟨rfl, rfl⟩) | (go_at_call 42; (with_reducible refine (HW1.out _).mono ?_); rintro e wb ⟨rfl, rfl⟩))
  go_ret
  exact ⟨rfl, by go_grown⟩
set_option maxRecDepth 20000 in
set_option maxHeartbeats 400000 in
theorem ck_2_1 (sz rm fr tm : Int) (a : Option Addr) (n c : Nat) (w : World) (h1 : (1 ≤ sz ∧ sz ≤ 4096)) (h2 : decide ((1 ≤ rm ∧ rm ≤ 100) ∧ fr = 0) = false) :
    Calls Try.prog 18 #[.agg #[.int .i64 2, .int .i64 sz, .int .i64 rm, .int .i64 fr, .slice a n c, .int .i64 tm]] w fun e w' => e = .returned (.int .i64 1) ∧ Below w.heap.size w w' := by
  have HW1 := hid (fun wx => within_yes sz 1 4096 wx h1)
  clear h1
  have HA := hid (fun wx => allow2 rm fr wx)
  rw [h2] at HA
  clear h2
  have hma := m_all2
  go_enter Try.func18, Try.ntmps18
  go_wp2_with (first | (go_at_call 41; refine (carrier_2 _).mono ?_; rintro e wa ⟨rfl, rfl⟩) | (go_at_call 42; (with_reducible refine (HW1.out _).mono ?_); rintro e wb ⟨rfl, rfl⟩) | (go_at_call 82; refine (HA.out _).mono ?_; rintro e w2 ⟨rfl, hb2⟩; have X2 := hid ((B1.start w _ 36).step hb2); obtain ⟨d0, d1, d2, d3, d4, d5⟩ := B1.six X2.out; clear hb2))
  go_ret
  exact ⟨rfl, X2.out.bel⟩
set_option maxRecDepth 20000 in
set_option maxHeartbeats 400000 in
theorem ck_2_2 (sz rm fr tm : Int) (a : Option Addr) (n c : Nat) (w : World) (h1 : (1 ≤ sz ∧ sz ≤ 4096)) (h2 : decide ((1 ≤ rm ∧ rm ≤ 100) ∧ fr = 0) = true) (h3 : ¬ (0 ≤ tm ∧ tm ≤ 1099511627776)) :
    Calls Try.prog 18 #[.agg #[.int .i64 2, .int .i64 sz, .int .i64 rm, .int .i64 fr, .slice a n c, .int .i64 tm]] w fun e w' => e = .returned (.int .i64 4) ∧ Below w.heap.size w w' := by
  have HW1 := hid (fun wx => within_yes sz 1 4096 wx h1)
  clear h1
  have HA := hid (fun wx => allow2 rm fr wx)
  rw [h2] at HA
  clear h2
  have hma := m_all2
  have HW3 := hid (fun wx => within_no tm 0 1099511627776 wx h3)
  clear h3
  go_enter Try.func18, Try.ntmps18
  go_wp2_with (first | (go_at_call 41; refine (carrier_2 _).mono ?_; rintro e wa ⟨rfl, rfl⟩) | (go_at_call 42; (with_reducible refine (HW1.out _).mono ?_); rintro e wb ⟨rfl, rfl⟩) | (go_at_call 82; refine (HA.out _).mono ?_; rintro e w2 ⟨rfl, hb2⟩; have X2 := hid ((B1.start w _ 36).step hb2); obtain ⟨d0, d1, d2, d3, d4, d5⟩ := B1.six X2.out; clear hb2) | (go_at_call 42; (with_reducible refine (HW3.out _).mono ?_); rintro e wc ⟨rfl, rfl⟩))
  go_ret
  exact ⟨rfl, X2.out.bel⟩
set_option maxRecDepth 20000 in
set_option maxHeartbeats 400000 in
theorem ck_2_3 (sz rm fr tm : Int) (a : Option Addr) (n c : Nat) (w : World) (h1 : (1 ≤ sz ∧ sz ≤ 4096)) (h2 : decide ((1 ≤ rm ∧ rm ≤ 100) ∧ fr = 0) = true) (h3 : (0 ≤ tm ∧ tm ≤ 1099511627776)) (h4 : ∀ wx, Below w.heap.size w wx → Calls Try.prog 43 #[.agg #[.int .i64 2, .int .i64 sz, .int .i64 rm, .int .i64 fr, .slice a n c, .int .i64 tm]] wx fun e w' => e = .returned (.bool false) ∧ Below wx.heap.size wx w') :
    Calls Try.prog 18 #[.agg #[.int .i64 2, .int .i64 sz, .int .i64 rm, .int .i64 fr, .slice a n c, .int .i64 tm]] w fun e w' => e = .returned (.int .i64 4) ∧ Below w.heap.size w w' := by
  have HW1 := hid (fun wx => within_yes sz 1 4096 wx h1)
  clear h1
  have HA := hid (fun wx => allow2 rm fr wx)
  rw [h2] at HA
  clear h2
  have hma := m_all2
  have HW3 := hid (fun wx => within_yes tm 0 1099511627776 wx h3)
  clear h3
  have HT := hid h4
  clear h4
  go_enter Try.func18, Try.ntmps18
  go_wp2_with (first | (go_at_call 41; refine (carrier_2 _).mono ?_; rintro e wa ⟨rfl, rfl⟩) | (go_at_call 42; (with_reducible refine (HW1.out _).mono ?_); rintro e wb ⟨rfl, rfl⟩) | (go_at_call 82; refine (HA.out _).mono ?_; rintro e w2 ⟨rfl, hb2⟩; have X2 := hid ((B1.start w _ 36).step hb2); obtain ⟨d0, d1, d2, d3, d4, d5⟩ := B1.six X2.out; clear hb2) | (go_at_call 42; (with_reducible refine (HW3.out _).mono ?_); rintro e wc ⟨rfl, rfl⟩) | (go_at_call 43; refine (HT.out _ X2.out.bel).mono ?_; rintro e w3 ⟨rfl, hb3⟩; have X3 := hid (X2.out.step hb3); obtain ⟨f0, f1, f2, f3, f4, f5⟩ := B1.six X3.out; clear hb3))
  go_ret
  exact ⟨rfl, X3.out.bel⟩
set_option maxRecDepth 20000 in
set_option maxHeartbeats 400000 in
theorem ck_2_4 (sz rm fr tm : Int) (a : Option Addr) (n c : Nat) (w : World) (h1 : (1 ≤ sz ∧ sz ≤ 4096)) (h2 : decide ((1 ≤ rm ∧ rm ≤ 100) ∧ fr = 0) = true) (h3 : (0 ≤ tm ∧ tm ≤ 1099511627776)) (h4 : ∀ wx, Below w.heap.size w wx → Calls Try.prog 43 #[.agg #[.int .i64 2, .int .i64 sz, .int .i64 rm, .int .i64 fr, .slice a n c, .int .i64 tm]] wx fun e w' => e = .returned (.bool true) ∧ Below wx.heap.size wx w') (h5 : (tm != 0) = false) :
    Calls Try.prog 18 #[.agg #[.int .i64 2, .int .i64 sz, .int .i64 rm, .int .i64 fr, .slice a n c, .int .i64 tm]] w fun e w' => e = .returned (.int .i64 0) ∧ Below w.heap.size w w' := by
  have HW1 := hid (fun wx => within_yes sz 1 4096 wx h1)
  clear h1
  have HA := hid (fun wx => allow2 rm fr wx)
  rw [h2] at HA
  clear h2
  have hma := m_all2
  have HW3 := hid (fun wx => within_yes tm 0 1099511627776 wx h3)
  clear h3
  have HT := hid h4
  clear h4
  go_enter Try.func18, Try.ntmps18
  go_wp2_with (first | (go_at_call 41; refine (carrier_2 _).mono ?_; rintro e wa ⟨rfl, rfl⟩) | (go_at_call 42; (with_reducible refine (HW1.out _).mono ?_); rintro e wb ⟨rfl, rfl⟩) | (go_at_call 82; refine (HA.out _).mono ?_; rintro e w2 ⟨rfl, hb2⟩; have X2 := hid ((B1.start w _ 36).step hb2); obtain ⟨d0, d1, d2, d3, d4, d5⟩ := B1.six X2.out; clear hb2) | (go_at_call 42; (with_reducible refine (HW3.out _).mono ?_); rintro e wc ⟨rfl, rfl⟩) | (go_at_call 43; refine (HT.out _ X2.out.bel).mono ?_; rintro e w3 ⟨rfl, hb3⟩; have X3 := hid (X2.out.step hb3); obtain ⟨f0, f1, f2, f3, f4, f5⟩ := B1.six X3.out; clear hb3))
  go_ret
  exact ⟨rfl, X3.out.bel⟩
set_option maxRecDepth 20000 in
set_option maxHeartbeats 400000 in
theorem ck_2_5 (sz rm fr tm : Int) (a : Option Addr) (n c : Nat) (w : World) (h1 : (1 ≤ sz ∧ sz ≤ 4096)) (h2 : decide ((1 ≤ rm ∧ rm ≤ 100) ∧ fr = 0) = true) (h3 : (0 ≤ tm ∧ tm ≤ 1099511627776)) (h4 : ∀ wx, Below w.heap.size w wx → Calls Try.prog 43 #[.agg #[.int .i64 2, .int .i64 sz, .int .i64 rm, .int .i64 fr, .slice a n c, .int .i64 tm]] wx fun e w' => e = .returned (.bool true) ∧ Below wx.heap.size wx w') (h5 : (tm != 0) = true) (h6 : ((n : Int) == 0) = true) :
    Calls Try.prog 18 #[.agg #[.int .i64 2, .int .i64 sz, .int .i64 rm, .int .i64 fr, .slice a n c, .int .i64 tm]] w fun e w' => e = .returned (.int .i64 4) ∧ Below w.heap.size w w' := by
  have HW1 := hid (fun wx => within_yes sz 1 4096 wx h1)
  clear h1
  have HA := hid (fun wx => allow2 rm fr wx)
  rw [h2] at HA
  clear h2
  have hma := m_all2
  have HW3 := hid (fun wx => within_yes tm 0 1099511627776 wx h3)
  clear h3
  have HT := hid h4
  clear h4
  go_enter Try.func18, Try.ntmps18
  go_wp2_with (first | (go_at_call 41; refine (carrier_2 _).mono ?_; rintro e wa ⟨rfl, rfl⟩) | (go_at_call 42; (with_reducible refine (HW1.out _).mono ?_); rintro e wb ⟨rfl, rfl⟩) | (go_at_call 82; refine (HA.out _).mono ?_; rintro e w2 ⟨rfl, hb2⟩; have X2 := hid ((B1.start w _ 36).step hb2); obtain ⟨d0, d1, d2, d3, d4, d5⟩ := B1.six X2.out; clear hb2) | (go_at_call 42; (with_reducible refine (HW3.out _).mono ?_); rintro e wc ⟨rfl, rfl⟩) | (go_at_call 43; refine (HT.out _ X2.out.bel).mono ?_; rintro e w3 ⟨rfl, hb3⟩; have X3 := hid (X2.out.step hb3); obtain ⟨f0, f1, f2, f3, f4, f5⟩ := B1.six X3.out; clear hb3))
  go_ret
  exact ⟨rfl, X3.out.bel⟩
set_option maxRecDepth 20000 in
set_option maxHeartbeats 400000 in
theorem ck_2_6 (sz rm fr tm : Int) (a : Option Addr) (n c : Nat) (w : World) (h1 : (1 ≤ sz ∧ sz ≤ 4096)) (h2 : decide ((1 ≤ rm ∧ rm ≤ 100) ∧ fr = 0) = true) (h3 : (0 ≤ tm ∧ tm ≤ 1099511627776)) (h4 : ∀ wx, Below w.heap.size w wx → Calls Try.prog 43 #[.agg #[.int .i64 2, .int .i64 sz, .int .i64 rm, .int .i64 fr, .slice a n c, .int .i64 tm]] wx fun e w' => e = .returned (.bool true) ∧ Below wx.heap.size wx w') (h5 : (tm != 0) = true) (h6 : ((n : Int) == 0) = false) :
    Calls Try.prog 18 #[.agg #[.int .i64 2, .int .i64 sz, .int .i64 rm, .int .i64 fr, .slice a n c, .int .i64 tm]] w fun e w' => e = .returned (.int .i64 4) ∧ Below w.heap.size w w' := by
  have HW1 := hid (fun wx => within_yes sz 1 4096 wx h1)
  clear h1
  have HA := hid (fun wx => allow2 rm fr wx)
  rw [h2] at HA
  clear h2
  have hma := m_all2
  have HW3 := hid (fun wx => within_yes tm 0 1099511627776 wx h3)
  clear h3
  have HT := hid h4
  clear h4
  have hmk := m_kt2
  go_enter Try.func18, Try.ntmps18
  go_wp2_with (first | (go_at_call 41; refine (carrier_2 _).mono ?_; rintro e wa ⟨rfl, rfl⟩) | (go_at_call 42; (with_reducible refine (HW1.out _).mono ?_); rintro e wb ⟨rfl, rfl⟩) | (go_at_call 82; refine (HA.out _).mono ?_; rintro e w2 ⟨rfl, hb2⟩; have X2 := hid ((B1.start w _ 36).step hb2); obtain ⟨d0, d1, d2, d3, d4, d5⟩ := B1.six X2.out; clear hb2) | (go_at_call 42; (with_reducible refine (HW3.out _).mono ?_); rintro e wc ⟨rfl, rfl⟩) | (go_at_call 43; refine (HT.out _ X2.out.bel).mono ?_; rintro e w3 ⟨rfl, hb3⟩; have X3 := hid (X2.out.step hb3); obtain ⟨f0, f1, f2, f3, f4, f5⟩ := B1.six X3.out; clear hb3) | (go_at_call 83; refine (kt2 _).mono ?_; rintro e w4 ⟨rfl, hb4⟩; have X4 := hid (X3.out.step hb4); clear hb4))
  go_ret
  exact ⟨rfl, X4.out.bel⟩
theorem Check_any (p : Pt) (a : Option Addr) (c : Nat) (w : World) (hr : RdS w a p.texts) :
    Calls Try.prog 18 #[vP p (.slice a p.texts.length c)] w fun e w' => e = .returned (.int .i64 (chk p)) ∧ Below w.heap.size w w' := by
  obtain ⟨kd, sz, rm, fr, l, tm⟩ := p
  show Calls Try.prog _ #[.agg #[.int .i64 kd, .int .i64 sz, .int .i64 rm, .int .i64 fr, .slice a l.length c, .int .i64 tm]] _ _
  have hr : RdS w a l := hr
  by_cases k1 : kd = 1
  · subst k1
    by_cases h1 : 1 ≤ sz ∧ sz ≤ 4096
    · by_cases h2 : rm = 1 ∧ 0 ≤ fr ∧ fr ≤ big
      · have ha : okArg ⟨1, sz, rm, fr, l, tm⟩ := ⟨.inl rfl, h1, fun _ => h2, fun q => by simp at q⟩
        have HT := fun wx (hb : Below w.heap.size w wx) => textsFit_any ⟨1, sz, rm, fr, l, tm⟩ a c wx (hr.below hb (Nat.le_refl _)) (by show rm ≤ 1000; omega)
        by_cases h3 : 0 ≤ tm ∧ tm ≤ big
        · by_cases h4 : (l.length : Int) ≤ rm ∧ ∀ s ∈ l, (s.size : Int) ≤ sz
          · rw [show fits ⟨1, sz, rm, fr, l, tm⟩ = true from decide_eq_true h4] at HT
            by_cases h5 : tm = 0
            · rw [chk_ok ha ⟨h4, h3, fun q => absurd h5 q⟩]
              exact ck_1_4 sz rm fr tm a _ c w h1 (decide_eq_true h2) h3 HT (by simp [h5])
            · by_cases h6 : l = []
              · rw [chk_form ha (fun q => absurd h6 (q.2.2 h5).1)]
                exact ck_1_5 sz rm fr tm a _ c w h1 (decide_eq_true h2) h3 HT (by simp [h5]) (by simp [h6])
              · rw [chk_ok ha ⟨h4, h3, fun _ => ⟨h6, rfl⟩⟩]
                exact ck_1_6 sz rm fr tm a _ c w h1 (decide_eq_true h2) h3 HT (by simp [h5]) (by simp [h6])
          · rw [show fits ⟨1, sz, rm, fr, l, tm⟩ = false from decide_eq_false h4] at HT
            rw [chk_form ha (fun q => h4 q.1)]
            exact ck_1_3 sz rm fr tm a _ c w h1 (decide_eq_true h2) h3 HT
        · rw [chk_form ha (fun q => h3 q.2.1)]
          exact ck_1_2 sz rm fr tm a _ c w h1 (decide_eq_true h2) h3
      · rw [chk_arg (fun q => h2 (q.2.2.1 rfl))]
        exact ck_1_1 sz rm fr tm a _ c w h1 (decide_eq_false h2)
    · rw [chk_arg (fun q => h1 q.2.1)]
      exact ck_1_0 sz rm fr tm a _ c w h1
  by_cases k2 : kd = 2
  · subst k2
    by_cases h1 : 1 ≤ sz ∧ sz ≤ 4096
    · by_cases h2 : (1 ≤ rm ∧ rm ≤ 100) ∧ fr = 0
      · have ha : okArg ⟨2, sz, rm, fr, l, tm⟩ := ⟨.inr rfl, h1, fun q => by simp at q, fun _ => ⟨h2.1.1, h2.1.2, h2.2⟩⟩
        have HT := fun wx (hb : Below w.heap.size w wx) => textsFit_any ⟨2, sz, rm, fr, l, tm⟩ a c wx (hr.below hb (Nat.le_refl _)) (by show rm ≤ 1000; omega)
        by_cases h3 : 0 ≤ tm ∧ tm ≤ big
        · by_cases h4 : (l.length : Int) ≤ rm ∧ ∀ s ∈ l, (s.size : Int) ≤ sz
          · rw [show fits ⟨2, sz, rm, fr, l, tm⟩ = true from decide_eq_true h4] at HT
            by_cases h5 : tm = 0
            · rw [chk_ok ha ⟨h4, h3, fun q => absurd h5 q⟩]
              exact ck_2_4 sz rm fr tm a _ c w h1 (decide_eq_true h2) h3 HT (by simp [h5])
            · by_cases h6 : l = []
              · rw [chk_form ha (fun q => absurd h6 (q.2.2 h5).1)]
                exact ck_2_5 sz rm fr tm a _ c w h1 (decide_eq_true h2) h3 HT (by simp [h5]) (by simp [h6])
              · rw [chk_form ha (fun q => absurd (q.2.2 h5).2 (by simp))]
                exact ck_2_6 sz rm fr tm a _ c w h1 (decide_eq_true h2) h3 HT (by simp [h5]) (by simp [h6])
          · rw [show fits ⟨2, sz, rm, fr, l, tm⟩ = false from decide_eq_false h4] at HT
            rw [chk_form ha (fun q => h4 q.1)]
            exact ck_2_3 sz rm fr tm a _ c w h1 (decide_eq_true h2) h3 HT
        · rw [chk_form ha (fun q => h3 q.2.1)]
          exact ck_2_2 sz rm fr tm a _ c w h1 (decide_eq_true h2) h3
      · rw [chk_arg (fun q => h2 ⟨⟨(q.2.2.2 rfl).1, (q.2.2.2 rfl).2.1⟩, (q.2.2.2 rfl).2.2⟩)]
        exact ck_2_1 sz rm fr tm a _ c w h1 (decide_eq_false h2)
    · rw [chk_arg (fun q => h1 q.2.1)]
      exact ck_2_0 sz rm fr tm a _ c w h1
  rw [chk_arg (fun q => by rcases q.1 with q | q; exact k1 q; exact k2 q)]
  exact ck_no kd sz rm fr tm a _ c w k1 k2
end PortC
end Go.Proofs.Ytllfpbngfkimlaa
