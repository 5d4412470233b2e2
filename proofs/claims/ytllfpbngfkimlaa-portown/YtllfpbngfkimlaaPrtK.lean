/- One of each kind: portLives. -/
import Derived.Test.YtllfpbngfkimlaaPrtJ
set_option linter.unusedVariables false
namespace Go.Proofs.Ytllfpbngfkimlaa
open Go.RowKit
open Go.Shelf Go.Sort
open SpanM SpanC IntsC
namespace PortC
open PrtM
abbrev eAB : ByteArray := ⟨#[97, 98]⟩
theorem ops3 (w : World) (x y z : PrtM.Op) : RdO (w.alloc (.cells #[.int .i64 x.1, .int .i64 x.2.1, .string x.2.2, .int .i64 y.1, .int .i64 y.2.1, .string y.2.2, .int .i64 z.1, .int .i64 z.2.1, .string z.2.2] 48)) (some ⟨w.heap.size, 0, none⟩) [x, y, z] := by
  have h : OwnO (w.alloc (.cells #[.int .i64 x.1, .int .i64 x.2.1, .string x.2.2, .int .i64 y.1, .int .i64 y.2.1, .string y.2.2, .int .i64 z.1, .int .i64 z.2.1, .string z.2.2] 48)) 0 (vS w.heap.size 3 3) [x, y, z] :=
    ⟨rfl, .inr ⟨w.heap.size, 3, _, rfl, Nat.zero_le _, heap_alloc_new w _, Nat.le_refl _, by decide, rfl, rfl⟩⟩
  obtain ⟨a, cap, e, h, _⟩ := RowG.Own.rd h
  simp only [Value.slice.injEq] at e
  obtain ⟨rfl, _⟩ := e
  exact h
theorem ans3 (w : World) (x y z : An) : RdA (w.alloc (.cells #[.string x.1, .bool x.2.1, .int .i64 x.2.2, .string y.1, .bool y.2.1, .int .i64 y.2.2, .string z.1, .bool z.2.1, .int .i64 z.2.2] 44)) (some ⟨w.heap.size, 0, none⟩) [x, y, z] := by
  have h : OwnA (w.alloc (.cells #[.string x.1, .bool x.2.1, .int .i64 x.2.2, .string y.1, .bool y.2.1, .int .i64 y.2.2, .string z.1, .bool z.2.1, .int .i64 z.2.2] 44)) 0 (vS w.heap.size 3 3) [x, y, z] :=
    ⟨rfl, .inr ⟨w.heap.size, 3, _, rfl, Nat.zero_le _, heap_alloc_new w _, Nat.le_refl _, by decide, rfl, rfl⟩⟩
  obtain ⟨a, cap, e, h, _⟩ := RowG.Own.rd h
  simp only [Value.slice.injEq] at e
  obtain ⟨rfl, _⟩ := e
  exact h
theorem own_rdA {w : World} {B g n : Nat} {l : List An} (h : OwnA w B (vS g n n) l) : RdA w (some ⟨g, 0, none⟩) l := by
  obtain ⟨a, cap, e, hr, _⟩ := RowG.Own.rd h
  simp only [Value.slice.injEq] at e
  obtain ⟨rfl, _⟩ := e
  exact hr
abbrev L1 : List PrtM.Op := [(1, 2, eAB), (2, 8, e0), (2, 7, e0)]
abbrev L2 : List PrtM.Op := [(1, 0, eAB), (1, 0, e0), (2, 0, e0)]
theorem L1_E : plE ⟨1, 3, 1, 5, [], 0⟩ L1 = 0 := by decide +kernel
theorem L2_E : plE ⟨2, 3, 1, 0, [], 0⟩ L2 = 0 := by decide +kernel
theorem L1_A : told ⟨1, 3, 1, 5, [], 0⟩ L1 = [(e0, false, 0), (eAB, false, 0), (eAB, true, 0)] := by decide +kernel
theorem L2_A : told ⟨2, 3, 1, 0, [], 0⟩ L2 = [(e0, false, 0), (e0, false, 6), (eAB, true, 0)] := by decide +kernel
theorem play1 (w : World) (a : Option Addr) (h : RdO w a L1) : Calls Try.prog 21 #[.int .i64 1, .int .i64 3, .int .i64 1, .int .i64 5, .slice a 3 3] w fun e w' => (∃ k0 k1 k2 k3 au nu cu k5 g, e = .returned (.tuple #[.agg #[.int .i64 k0, .int .i64 k1, .int .i64 k2, .int .i64 k3, .slice au nu cu, .int .i64 k5], .slice (some ⟨g, 0, none⟩) 3 3, .int .i64 0]) ∧ RdA w' (some ⟨g, 0, none⟩) [(e0, false, 0), (eAB, false, 0), (eAB, true, 0)]) ∧ Below w.heap.size w w' := by
  refine (Play_any 1 3 1 5 a 3 L1 w h).mono fun e w' h => ⟨?_, h.2⟩
  rw [L1_E, L1_A] at h
  rcases h.1 with ⟨h0, _⟩ | ⟨_, u, g, h1, h3, h2⟩
  · exact absurd rfl h0
  · obtain ⟨au, cu, rfl⟩ := RowG.Own.slice h3
    exact ⟨_, _, _, _, _, _, _, _, g, h1, own_rdA h2⟩
theorem play2 (w : World) (a : Option Addr) (h : RdO w a L2) : Calls Try.prog 21 #[.int .i64 2, .int .i64 3, .int .i64 1, .int .i64 0, .slice a 3 3] w fun e w' => (∃ k0 k1 k2 k3 au nu cu k5 g, e = .returned (.tuple #[.agg #[.int .i64 k0, .int .i64 k1, .int .i64 k2, .int .i64 k3, .slice au nu cu, .int .i64 k5], .slice (some ⟨g, 0, none⟩) 3 3, .int .i64 0]) ∧ RdA w' (some ⟨g, 0, none⟩) [(e0, false, 0), (e0, false, 6), (eAB, true, 0)]) ∧ Below w.heap.size w w' := by
  refine (Play_any 2 3 1 0 a 3 L2 w h).mono fun e w' h => ⟨?_, h.2⟩
  rw [L2_E, L2_A] at h
  rcases h.1 with ⟨h0, _⟩ | ⟨_, u, g, h1, h3, h2⟩
  · exact absurd rfl h0
  · obtain ⟨au, cu, rfl⟩ := RowG.Own.slice h3
    exact ⟨_, _, _, _, _, _, _, _, g, h1, own_rdA h2⟩
set_option maxRecDepth 20000 in
set_option maxHeartbeats 800000 in
theorem portLives_any (w : World) : Calls Try.prog 22 #[] w fun e w' => e = .returned (.bool true) ∧ Below w.heap.size w w' := by
  have HO1 := hid (fun W => ops3 W (1, 2, eAB) (2, 8, e0) (2, 7, e0))
  have HO2 := hid (fun W => ops3 W (1, 0, eAB) (1, 0, e0) (2, 0, e0))
  have HA1 := hid (fun W => ans3 W (e0, false, 0) (eAB, false, 0) (eAB, true, 0))
  have HA2 := hid (fun W => ans3 W (e0, false, 0) (e0, false, 6) (eAB, true, 0))
  go_enter Try.func22, Try.ntmps22
  go_wp2_with fail
  refine (play1 _ _ (HO1.out w)).mono ?_
  rintro e w1 ⟨⟨x0, x1, x2, x3, xa, xn, xc, x5, g1, rfl, hr1⟩, b1⟩
  have HR1 := hid hr1
  have HB1 := hid (((Below.refl _ w).alloc (Nat.le_refl _) _).trans (b1.mono (by rw [World.size_alloc]; omega)))
  clear hr1 b1
  go_wp2_with fail
  have hO2 := HO2.out (w1.alloc (.cells #[.int .i64 x0, .int .i64 x1, .int .i64 x2, .int .i64 x3, .slice xa xn xc, .int .i64 x5] 36))
  rw [World.size_alloc] at hO2
  refine (play2 _ _ hO2).mono ?_
  rintro e w2 ⟨⟨u0, u1, u2, u3, ua, un, uc, u5, g2, rfl, hr2⟩, b2⟩
  have hb2 := (((Below.refl w1.heap.size w1).alloc (Nat.le_refl _) (.cells #[.int .i64 x0, .int .i64 x1, .int .i64 x2, .int .i64 x3, .slice xa xn xc, .int .i64 x5] 36)).alloc (by rw [World.size_alloc]; omega) _).trans (b2.mono (by simp only [World.size_alloc]; omega))
  have HR2 := hid hr2
  have HR3 := hid (HR1.out.below hb2 (Nat.le_refl _))
  have HB2 := hid (HB1.out.trans (hb2.mono HB1.out.size))
  clear hr2 b2 hb2 hO2
  go_wp2_with fail
  obtain ⟨w3, hw3⟩ : ∃ y, y = w2.alloc (.cells #[.int .i64 u0, .int .i64 u1, .int .i64 u2, .int .i64 u3, .slice ua un uc, .int .i64 u5] 36) := ⟨_, rfl⟩
  have h23 : Below w2.heap.size w2 w3 := by rw [hw3]; exact (Below.refl _ _).alloc (Nat.le_refl _) _
  have hs3 : w2.heap.size + 1 = w3.heap.size := by rw [hw3, World.size_alloc]
  rw [← hw3, hs3]
  have HR4 := hid (HR3.out.below h23 (Nat.le_refl _))
  have HR5 := hid (HR2.out.below h23 (Nat.le_refl _))
  have HB3 := hid (HB2.out.trans (h23.mono HB2.out.size))
  clear hw3 h23 hs3
  have h34 := (Below.refl w3.heap.size w3).alloc (Nat.le_refl _) (.cells #[.string e0, .bool false, .int .i64 0, .string eAB, .bool false, .int .i64 0, .string eAB, .bool true, .int .i64 0] 44)
  refine (eqA_any _ _ 3 3 _ _ _ (HR4.out.below h34 (Nat.le_refl _)) (HA1.out w3) (by decide)).mono ?_
  rintro e w4 ⟨rfl, b4⟩
  have hb4 := h34.trans (b4.mono h34.size)
  rw [decide_eq_true rfl]
  have HR6 := hid (HR5.out.below hb4 (Nat.le_refl _))
  have HB4 := hid (HB3.out.trans (hb4.mono HB3.out.size))
  clear h34 b4 hb4
  go_wp2_with fail
  have h45 := (Below.refl w4.heap.size w4).alloc (Nat.le_refl _) (.cells #[.string e0, .bool false, .int .i64 0, .string e0, .bool false, .int .i64 6, .string eAB, .bool true, .int .i64 0] 44)
  refine (eqA_any _ _ 3 3 _ _ _ (HR6.out.below h45 (Nat.le_refl _)) (HA2.out w4) (by decide)).mono ?_
  rintro e w5 ⟨rfl, b5⟩
  have HB5 := hid (HB4.out.trans ((h45.trans (b5.mono h45.size)).mono HB4.out.size))
  rw [decide_eq_true rfl]
  clear h45 b5
  go_wp2_with fail
  go_ret
  exact ⟨rfl, HB5.out⟩
end PortC
end Go.Proofs.Ytllfpbngfkimlaa
