/- The law PortRefused. -/
import Derived.Test.YtllfpbngfkimlaaPrtL1
import Derived.Deep.RegionHeld3
set_option linter.unusedVariables false
namespace Go.Proofs.Ytllfpbngfkimlaa
open Go.RowKit
open Go.Shelf Go.Sort
open SpanM SpanC IntsC
namespace PortC
open PrtM
theorem rows_ne {w : World} {B B' T T' : Nat} {α β : Type} {E : RowG.Enc α} {E' : RowG.Enc β} {v u : Value} {l : List α} {m : List β} (h : RowG.Own E T w B v l) (h' : RowG.Own E' T' w B' u m) (hT : T ≠ T') : v.ownBlock = none ∨ v.ownBlock ≠ u.ownBlock := by
  rcases h.2 with ⟨rfl, _⟩ | ⟨g, cap, cur, rfl, _, hg, _⟩
  · exact .inl rfl
  · right
    intro e
    exact orow_ne_box h' hg hT e.symm
theorem two_of {w1 w2 : World} {x0 x1 x2 x3 x4 x5 : Value} {t : Nat} (h : B1 w1 w2 #[x0, x1, x2, x3, x4, x5] t) : w2.cell? ⟨w1.heap.size, 4, none⟩ = some x4 ∧ w2.cell? ⟨w1.heap.size, 5, none⟩ = some x5 ∧ w2.heap[w1.heap.size]? = some (.cells #[x0, x1, x2, x3, x4, x5] t) :=
  ⟨h.c0 4, h.c0 5, (h.b.block _ (by omega)).trans (box_new _ _ _)⟩
/-- what PortRefused has behind so many ops -/
structure RI (w2 wr : World) (v14 v15 : Value) (G : List PrtM.Op) (H : List An) : Prop where
  o14 : OwnO wr w2.heap.size v14 G
  o15 : OwnA wr w2.heap.size v15 H
  bel : Below w2.heap.size w2 wr
theorem RI.alloc {w2 wr : World} {v14 v15 : Value} {G : List PrtM.Op} {H : List An} (h : RI w2 wr v14 v15 G H) (o : Obj) : RI w2 (wr.alloc o) v14 v15 G H :=
  ⟨World.ownsRow.alloc h.o14 o, World.ownsRow.alloc h.o15 o, h.bel.alloc h.bel.size o⟩
theorem RI.drew {w2 wr : World} {v14 v15 : Value} {G : List PrtM.Op} {H : List An} (h : RI w2 wr v14 v15 G H) : RI w2 wr.drew v14 v15 G H :=
  ⟨own_drew h.o14, own_drew h.o15, h.bel.drew⟩
theorem RI.put14 {w2 wr w3 : World} {v14 v15 v' : Value} {G : List PrtM.Op} {H : List An} {o : PrtM.Op} (h : RI w2 wr v14 v15 G H) (ho : w3.ownsRow w2.heap.size 48 3 v' (G.length + 1) (EO.flat G ++ EO.enc o)) (hg : wr.grownBy w3 v14.ownBlock) : RI w2 w3 v' v15 (G ++ [o]) H :=
  ⟨RowG.own_snoc ho rfl rfl, RowG.Own.kept h.o15 hg (rows_ne h.o15 h.o14 (by decide)), h.bel.grown hg h.bel.size (fun g hg2 => (h.o14.lt g hg2).1)⟩
theorem RI.put15 {w2 wr w3 : World} {v14 v15 v' : Value} {G : List PrtM.Op} {H : List An} {o : An} (h : RI w2 wr v14 v15 G H) (ho : w3.ownsRow w2.heap.size 44 3 v' (H.length + 1) (EA.flat H ++ EA.enc o)) (hg : wr.grownBy w3 v15.ownBlock) : RI w2 w3 v14 v' G (H ++ [o]) :=
  ⟨RowG.Own.kept h.o14 hg (rows_ne h.o14 h.o15 (by decide)), RowG.own_snoc ho rfl rfl, h.bel.grown hg h.bel.size (fun g hg2 => (h.o15.lt g hg2).1)⟩
theorem bl2 (w : World) (o0 o1 : Obj) : ((w.alloc o0).alloc o1).heap[w.heap.size]? = some o0 ∧ ((w.alloc o0).alloc o1).heap[w.heap.size + 1]? = some o1 := al2 w o0 o1
/-- two blocks are as they were -/
structure SX (wx W : World) (D g : Nat) : Prop where
  sz : wx.heap.size ≤ W.heap.size
  hd : W.heap[D]? = wx.heap[D]?
  hg : W.heap[g]? = wx.heap[g]?
  ld : D < wx.heap.size
  lg : g < wx.heap.size
theorem SX.start {wx : World} {D g : Nat} (h1 : D < wx.heap.size) (h2 : g < wx.heap.size) : SX wx wx D g := ⟨Nat.le_refl _, rfl, rfl, h1, h2⟩
theorem SX.alloc {wx W : World} {D g : Nat} (h : SX wx W D g) (o : Obj) : SX wx (W.alloc o) D g := by
  have l1 := h.ld
  have l2 := h.lg
  have l3 := h.sz
  refine ⟨by rw [World.size_alloc]; omega, ?_, ?_, l1, l2⟩
  · rw [← h.hd]; show (W.heap.push o)[D]? = _; rw [Array.getElem?_push, if_neg (by omega)]
  · rw [← h.hg]; show (W.heap.push o)[g]? = _; rw [Array.getElem?_push, if_neg (by omega)]
theorem SX.grown {wx W V : World} {D g : Nat} {row : Option Nat} (h : SX wx W D g) (k : W.grownBy V row) (h1 : some D ≠ row) (h2 : some g ≠ row) : SX wx V D g := by
  have l1 := h.ld
  have l2 := h.lg
  have l3 := h.sz
  exact ⟨Nat.le_trans l3 k.size, (k.block D (by omega) h1).trans h.hd, (k.block g (by omega) h2).trans h.hg, l1, l2⟩
theorem SX.cell {wx W : World} {D g j : Nat} {v : Value} (h : SX wx W D g) (b : Nat) (hb : b = D ∨ b = g) (hc : wx.cell? ⟨b, j, none⟩ = some v) : W.cell? ⟨b, j, none⟩ = some v := by
  have : W.heap[b]? = wx.heap[b]? := by rcases hb with rfl | rfl; exact h.hd; exact h.hg
  rw [← hc]
  simp [World.cell?, this]
set_option maxRecDepth 20000 in
set_option maxHeartbeats 800000 in
theorem portRefused_no (n0 n1 n2 n3 : Int) (a : Option Addr) (c : Nat) (l : List PrtM.Op) (w : World) (hr : RdO w a l) (h : plE ⟨n0, n1, n2, n3, [], 0⟩ l ≠ 0) :
    Calls Try.prog 8 #[.int .i64 n0, .int .i64 n1, .int .i64 n2, .int .i64 n3, .slice a l.length c] w fun e w' => e = .returned (.bool true) ∧ Below w.heap.size w w' := by
  have HP := hid (Play_no n0 n1 n2 n3 a c l w hr h)
  have hE : (plE ⟨n0, n1, n2, n3, [], 0⟩ l != 0) = true := by simp [h]
  generalize plE ⟨n0, n1, n2, n3, [], 0⟩ l = E at *
  generalize l.length = n at *
  clear hr h
  go_enter Try.func8, Try.ntmps8
  go_wp2_with fail
  refine HP.out.mono ?_
  rintro e w1 ⟨rfl, b1⟩
  have HB1 := hid b1
  clear b1
  go_wp2_with fail
  refine (portLives_any _).mono ?_
  rintro e w2 ⟨rfl, b2⟩
  have HB2 := hid (bel_of HB1.out (of_alloc (box1 b2)))
  clear b2
  go_wp2_with fail
  refine (portLives_any _).mono ?_
  rintro e w3 ⟨rfl, b3⟩
  have HB3 := hid (bel_of HB2.out b3)
  clear b3
  go_wp2_with fail
  go_ret
  exact ⟨rfl, HB3.out⟩
set_option maxRecDepth 20000 in
set_option maxHeartbeats 1600000 in
theorem portRefused_yes (n0 n1 n2 n3 : Int) (a : Option Addr) (c : Nat) (l : List PrtM.Op) (w : World) (hr : RdO w a l) (h : plE ⟨n0, n1, n2, n3, [], 0⟩ l = 0) :
    Calls Try.prog 8 #[.int .i64 n0, .int .i64 n1, .int .i64 n2, .int .i64 n3, .slice a l.length c] w fun e w' => e = .returned (.bool true) ∧ Below w.heap.size w w' := by
  have HP := hid (Play_yes n0 n1 n2 n3 a c l w hr h)
  obtain ⟨hc0, hl⟩ := plE_zero h
  obtain ⟨p0, hp0⟩ : ∃ p0 : Pt, p0 = ⟨n0, n1, n2, n3, [], 0⟩ := ⟨_, rfl⟩
  rw [← hp0] at HP hc0
  have HGS := hid (fun k (hk : k ≤ l.length) => good_same p0 l k hk)
  have HGL := hid (fun k (hk : k ≤ l.length) => goodA_length p0 l k hk)
  have HC0 := hid hc0
  have HP0 := hid hp0
  have HRD := hid hr
  have HTO := hid (fun k (hk : k < l.length) => told_at p0 l k hk)
  have HTL := hid (told_length l p0)
  have HFA : Hid (fin p0 (l.take l.length) = fin p0 l) := by show _ = _; rw [List.take_length]
  obtain ⟨i0, hi, hz0, hz1, hz2⟩ := info_parts infoOp
  have Hi := hid hi
  have Hz0 := hid hz0
  have Hz1 := hid hz1
  have Hz2 := hid hz2
  clear hi hz0 hz1 hz2
  obtain ⟨i1, hi, hz0, hz1, hz2⟩ := info_parts infoAn
  have Hj := hid hi
  have Hw0 := hid hz0
  have Hw1 := hid hz1
  have Hw2 := hid hz2
  clear hi hz0 hz1 hz2
  obtain ⟨n, hn⟩ : ∃ n, n = l.length := ⟨_, rfl⟩
  rw [← hn] at HP hl HTO HTL HFA HGS HGL ⊢
  have HN := hid hn
  have hne : ((n : Int) != (n : Int)) = false := by simp
  clear hr h hc0 hp0 hn
  go_enter Try.func8, Try.ntmps8
  go_wp2_with fail
  refine HP.out.mono ?_
  rintro e w1 ⟨⟨k0, k1, k2, k3, au, nu, cu, k5, g, rfl, hot, hoa, heq⟩, b1⟩
  have HEQ := hid heq
  have HB1 := hid b1
  have HA1 := hid (own_rdA hoa)
  have HOA := hid hoa
  have HT1 := hid hot
  clear b1 hoa hot heq
  go_wp2_with fail
  refine (portLives_any _).mono ?_
  rintro e w2 ⟨rfl, b2⟩
  have hx2 := (two_of (B1.step (B1.start w1 #[.int .i64 k0, .int .i64 k1, .int .i64 k2, .int .i64 k3, .slice au nu cu, .int .i64 k5] 36) b2))
  have hb2 : Below w1.heap.size w1 w2 := of_alloc (box1 b2)
  have HX2 := hid hx2
  have HB2 := hid (HB1.out.trans (hb2.mono HB1.out.size))
  have HA2 := hid (HA1.out.below hb2 (Nat.le_refl _))
  have HOA2 := hid (RowG.Own.below HOA.out hb2 (Nat.le_refl _))
  have HT2 := hid (RowG.Own.below HT1.out hb2 (Nat.le_refl _))
  clear b2 hb2 hx2
  go_wp2_with fail
  go_loopw [14, 15, 51] (fun v14 v15 v51 wr => ∃ (k : Nat), k ≤ n ∧ v51 = .int .i64 k ∧ Hid (RI w2 wr v14 v15 (goodO p0 l k) (goodA p0 l k))) (fun _ _ v51 _ => n - (intOf v51).toNat)
  case atStart => exact ⟨0, by omega, rfl, ⟨RowG.Own.nil _ _ _ _, RowG.Own.nil _ _ _ _, Below.refl _ _⟩⟩
  case round =>
    obtain ⟨k, hk, rfl, HI⟩ := hrel
    obtain ⟨a14, c14, hv14⟩ := RowG.Own.slice HI.out.o14
    obtain ⟨a15, c15, hv15⟩ := RowG.Own.slice HI.out.o15
    have HGk := hid (HGS.out k hk)
    have HHk := hid (HGL.out k hk)
    obtain ⟨N, hN⟩ : ∃ N, N = (goodO p0 l k).length := ⟨_, rfl⟩
    obtain ⟨M, hM⟩ : ∃ M, M = (goodA p0 l k).length := ⟨_, rfl⟩
    rw [← hN] at hv14
    rw [← hM] at hv15
    subst hv14
    subst hv15
    have HNN := hid hN
    have HMM := hid hM
    clear hN hM
    by_cases hlt : k < n
    · have hW := (Below.refl wr.heap.size wr).alloc (Nat.le_refl _) (.cells #[.int .i64 (l.getD k zOp).1, .int .i64 (l.getD k zOp).2.1, .string (l.getD k zOp).2.2] 48)
      obtain ⟨b, off, hab, c1, c2, c3⟩ := RdO.get ((HRD.out.below HB2.out (Nat.le_refl _)).below HI.out.bel (Nat.le_refl _)) k (by have := HN.out; omega)
      obtain ⟨b', off', hab', y0, y1, y2⟩ := RdA.get ((HA2.out.below HI.out.bel (Nat.le_refl _)).below hW (Nat.le_refl _)) k (by rw [HTL.out]; exact hlt)
      simp only [Option.some.injEq, Addr.mk.injEq, and_true] at hab'
      obtain ⟨hb1, hb2⟩ := hab'
      subst hb1
      subst hb2
      rw [Nat.zero_add] at y0 y1 y2
      subst hab
      rw [HTO.out k hlt] at y0 y1 y2
      have i2 : (k : Int) < (n : Int) := by omega
      have HGY : Hid ((doA (fin p0 (l.take k)) (l.getD k zOp)).2.2 = 0 → goodO p0 l (k + 1) = goodO p0 l k ++ [l.getD k zOp] ∧ goodA p0 l (k + 1) = goodA p0 l k ++ [doA (fin p0 (l.take k)) (l.getD k zOp)]) := fun z => by
        constructor
        · show (if _ then _ else _) = _; rw [if_pos z]
        · show (if _ then _ else _) = _; rw [if_pos z]
      have HGN : Hid ((doA (fin p0 (l.take k)) (l.getD k zOp)).2.2 ≠ 0 → goodO p0 l (k + 1) = goodO p0 l k ∧ goodA p0 l (k + 1) = goodA p0 l k) := fun z => by
        constructor
        · show (if _ then _ else _) = _; rw [if_neg z]
        · show (if _ then _ else _) = _; rw [if_neg z]
      generalize l.getD k zOp = o at *
      obtain ⟨ok, onow, os⟩ := o
      simp only at c1 c2 c3 y0 y1 y2 hW
      have HIX := hid (HI.out.alloc (.cells #[.int .i64 ok, .int .i64 onow, .string os] 48))
      generalize doA (fin p0 (l.take k)) (ok, onow, os) = A at *
      obtain ⟨a0, a1, a2⟩ := A
      simp only at y0 y1 y2 HGY HGN
      by_cases ez : a2 = 0
      · have HG2 := hid (HGY.out ez)
        subst ez
        clear HGY HGN
        go_wp2_with fail
        obtain ⟨wx, hwx⟩ : ∃ y, y = wr.alloc (.cells #[.int .i64 ok, .int .i64 onow, .string os] 48) := ⟨_, rfl⟩
        rw [← hwx]
        rw [← hwx] at y0 y1 y2
        have HIX2 : Hid (RI w2 wx (.slice a14 N c14) (.slice a15 M c15) (goodO p0 l k) (goodA p0 l k)) := by rw [hwx]; exact HIX.out
        have hDq : wx.heap[wr.heap.size]? = some (.cells #[.int .i64 ok, .int .i64 onow, .string os] 48) := by rw [hwx]; exact box_new wr _ _
        obtain ⟨d0, d1, d2⟩ := three_of hDq
        have hgl : g < w2.heap.size := (HOA2.out.lt g rfl).2
        have hsx : wx.heap.size = wr.heap.size + 1 := by rw [hwx, World.size_alloc]
        have hbs := HI.out.bel.size
        have SX0 := hid (SX.start (wx := wx) (D := wr.heap.size) (g := g) (by omega) (by omega))
        have hq14 := HI.out.o14.lt
        have hq15 := HI.out.o15.lt
        have ne1 : some wr.heap.size ≠ (Value.slice a14 N c14).ownBlock := fun e => by have := hq14 _ e.symm; omega
        have ne2 : some g ≠ (Value.slice a14 N c14).ownBlock := fun e => by have := hq14 _ e.symm; omega
        have ne3 : some wr.heap.size ≠ (Value.slice a15 M c15).ownBlock := fun e => by have := hq15 _ e.symm; omega
        have ne4 : some g ≠ (Value.slice a15 M c15).ownBlock := fun e => by have := hq15 _ e.symm; omega
        have ne5 : some wx.heap.size ≠ (Value.slice a14 N c14).ownBlock := fun e => by have := hq14 _ e.symm; omega
        have ne6 : some (wx.heap.size + 1) ≠ (Value.slice a14 N c14).ownBlock := fun e => by have := hq14 _ e.symm; omega
        have k5 : (goodO p0 l k).length + 1 ≤ maxLen := by have := HGk.out.2.2; unfold maxLen; omega
        have k6 : ((goodO p0 l k).length + 1) * 32 ≤ 140737488355328 := by have := HGk.out.2.2; omega
        have k7 : (goodA p0 l k).length + 1 ≤ maxLen := by have := HHk.out; unfold maxLen; omega
        have k8 : ((goodA p0 l k).length + 1) * 32 ≤ 140737488355328 := by have := HHk.out; omega
        have K1 : Hid (∀ u ∈ ([.int .i64 ok, .int .i64 onow, .string os] : List Value), u.oneCell' = true) := by intro u hu; simp at hu; rcases hu with rfl | rfl | rfl <;> rfl
        have K2 : Hid (∀ u ∈ ([.string a0, .bool a1, .int .i64 0] : List Value), u.oneCell' = true) := by intro u hu; simp at hu; rcases hu with rfl | rfl | rfl <;> rfl
        have nx1 : ¬ wr.heap.size = wx.heap.size := by omega
        have nx2 : ¬ wx.heap.size = wr.heap.size := by omega
        have nx3 : ¬ g = wx.heap.size := by omega
        have nx4 : ¬ wx.heap.size = g := by omega
        have nx5 : ¬ wr.heap.size = wx.heap.size + 1 := by omega
        have nx6 : ¬ g = wx.heap.size + 1 := by omega
        generalize goodO p0 l k = G at *
        generalize goodA p0 l k = H at *
        clear hwx hDq hgl hsx hbs hq14 hq15 hW c1 c2 c3
        go_region_held3 (fun W => W.cell? ⟨wr.heap.size, 0, none⟩ = some (.int .i64 ok) ∧ W.cell? ⟨wr.heap.size, 1, none⟩ = some (.int .i64 onow) ∧ W.cell? ⟨wr.heap.size, 2, none⟩ = some (.string os) ∧ W.cell? ⟨g, k * 3, none⟩ = some (.string a0) ∧ W.cell? ⟨g, k * 3 + 1, none⟩ = some (.bool a1) ∧ W.cell? ⟨g, k * 3 + 2, none⟩ = some (.int .i64 0)) (go_keep)
    (first
      | (refine step_append_own rfl _ _ _ (by rfl) w2.heap.size 48 i0 (.agg #[.int .i64 0, .int .i64 0, .string e0]) 3 32 Try.underlying50 Hi.out Hz0.out Hz1.out Hz2.out rfl (by decide) (.slice a14 N c14) G.length (EO.flat G) (by rfl) (by first | exact ((HIX2.out.alloc (.cells #[.int .i64 ok, .int .i64 onow, .string os] 48))).o14 | exact ((HIX2.out.alloc (.cells #[.int .i64 ok, .int .i64 onow, .string os] 48))).drew.o14) ⟨wx.heap.size, 0, none⟩ 1 1 [.int .i64 ok, .int .i64 onow, .string os] (by rfl) (by rfl) (World.news_of_block (heap_alloc_new wx _)) K1.out k5 k6 (by first | exact ((HIX2.out.alloc (.cells #[.int .i64 ok, .int .i64 onow, .string os] 48))).bel.size | exact ((HIX2.out.alloc (.cells #[.int .i64 ok, .int .i64 onow, .string os] 48))).drew.bel.size) ?_
         intro v5 w5 hown hgrow0 hnil
         have hgrow : World.grownBy (wx.alloc (.cells #[.int .i64 ok, .int .i64 onow, .string os] 48)) w5 (Value.slice a14 N c14).ownBlock := by first | exact hgrow0 | exact grown_drew hgrow0
         have HR5 := RI.put14 (o := (ok, onow, os)) ((HIX2.out.alloc (.cells #[.int .i64 ok, .int .i64 onow, .string os] 48))) hown hgrow
         have SX5 := SX.grown ((SX0.out.alloc (.cells #[.int .i64 ok, .int .i64 onow, .string os] 48))) hgrow ne1 ne2
         have s0 := SX5.cell _ (.inl rfl) d0
         have s1 := SX5.cell _ (.inl rfl) d1
         have s2 := SX5.cell _ (.inl rfl) d2
         have s3 := SX5.cell _ (.inr rfl) y0
         have s4 := SX5.cell _ (.inr rfl) y1
         have s5 := SX5.cell _ (.inr rfl) y2)
      | (refine step_append_own rfl _ _ _ (by rfl) w2.heap.size 48 i0 (.agg #[.int .i64 0, .int .i64 0, .string e0]) 3 32 Try.underlying50 Hi.out Hz0.out Hz1.out Hz2.out rfl (by decide) (.slice a14 N c14) G.length (EO.flat G) (by rfl) (by first | exact (((HIX2.out.alloc (.cells #[.int .i64 ok, .int .i64 onow, .string os] 48)).alloc (.cells #[.string a0, .bool a1, .int .i64 0] 44))).o14 | exact (((HIX2.out.alloc (.cells #[.int .i64 ok, .int .i64 onow, .string os] 48)).alloc (.cells #[.string a0, .bool a1, .int .i64 0] 44))).drew.o14) ⟨wx.heap.size, 0, none⟩ 1 1 [.int .i64 ok, .int .i64 onow, .string os] (by rfl) (by rfl) (World.news_of_block (bl2 wx (.cells #[.int .i64 ok, .int .i64 onow, .string os] 48) (.cells #[.string a0, .bool a1, .int .i64 0] 44)).1) K1.out k5 k6 (by first | exact (((HIX2.out.alloc (.cells #[.int .i64 ok, .int .i64 onow, .string os] 48)).alloc (.cells #[.string a0, .bool a1, .int .i64 0] 44))).bel.size | exact (((HIX2.out.alloc (.cells #[.int .i64 ok, .int .i64 onow, .string os] 48)).alloc (.cells #[.string a0, .bool a1, .int .i64 0] 44))).drew.bel.size) ?_
         intro v5 w5 hown hgrow0 hnil
         have hgrow : World.grownBy ((wx.alloc (.cells #[.int .i64 ok, .int .i64 onow, .string os] 48)).alloc (.cells #[.string a0, .bool a1, .int .i64 0] 44)) w5 (Value.slice a14 N c14).ownBlock := by first | exact hgrow0 | exact grown_drew hgrow0
         have HR5 := RI.put14 (o := (ok, onow, os)) (((HIX2.out.alloc (.cells #[.int .i64 ok, .int .i64 onow, .string os] 48)).alloc (.cells #[.string a0, .bool a1, .int .i64 0] 44))) hown hgrow
         have SX5 := SX.grown (((SX0.out.alloc (.cells #[.int .i64 ok, .int .i64 onow, .string os] 48)).alloc (.cells #[.string a0, .bool a1, .int .i64 0] 44))) hgrow ne1 ne2
         have hn5 : w5.heap[wx.heap.size + 1]? = some (.cells #[.string a0, .bool a1, .int .i64 0] 44) := (hgrow.block _ (by simp only [World.size_alloc]; omega) ne6).trans (bl2 wx (.cells #[.int .i64 ok, .int .i64 onow, .string os] 48) (.cells #[.string a0, .bool a1, .int .i64 0] 44)).2
         have s0 := SX5.cell _ (.inl rfl) d0
         have s1 := SX5.cell _ (.inl rfl) d1
         have s2 := SX5.cell _ (.inl rfl) d2
         have s3 := SX5.cell _ (.inr rfl) y0
         have s4 := SX5.cell _ (.inr rfl) y1
         have s5 := SX5.cell _ (.inr rfl) y2)
      | (refine step_append_own rfl _ _ _ (by rfl) w2.heap.size 48 i0 (.agg #[.int .i64 0, .int .i64 0, .string e0]) 3 32 Try.underlying50 Hi.out Hz0.out Hz1.out Hz2.out rfl (by decide) (.slice a14 N c14) G.length (EO.flat G) (by rfl) (by first | exact (((HIX2.out.alloc (.cells #[.string a0, .bool a1, .int .i64 0] 44)).alloc (.cells #[.int .i64 ok, .int .i64 onow, .string os] 48))).o14 | exact (((HIX2.out.alloc (.cells #[.string a0, .bool a1, .int .i64 0] 44)).alloc (.cells #[.int .i64 ok, .int .i64 onow, .string os] 48))).drew.o14) ⟨wx.heap.size + 1, 0, none⟩ 1 1 [.int .i64 ok, .int .i64 onow, .string os] (by rfl) (by rfl) (World.news_of_block (bl2 wx (.cells #[.string a0, .bool a1, .int .i64 0] 44) (.cells #[.int .i64 ok, .int .i64 onow, .string os] 48)).2) K1.out k5 k6 (by first | exact (((HIX2.out.alloc (.cells #[.string a0, .bool a1, .int .i64 0] 44)).alloc (.cells #[.int .i64 ok, .int .i64 onow, .string os] 48))).bel.size | exact (((HIX2.out.alloc (.cells #[.string a0, .bool a1, .int .i64 0] 44)).alloc (.cells #[.int .i64 ok, .int .i64 onow, .string os] 48))).drew.bel.size) ?_
         intro v5 w5 hown hgrow0 hnil
         have hgrow : World.grownBy ((wx.alloc (.cells #[.string a0, .bool a1, .int .i64 0] 44)).alloc (.cells #[.int .i64 ok, .int .i64 onow, .string os] 48)) w5 (Value.slice a14 N c14).ownBlock := by first | exact hgrow0 | exact grown_drew hgrow0
         have HR5 := RI.put14 (o := (ok, onow, os)) (((HIX2.out.alloc (.cells #[.string a0, .bool a1, .int .i64 0] 44)).alloc (.cells #[.int .i64 ok, .int .i64 onow, .string os] 48))) hown hgrow
         have SX5 := SX.grown (((SX0.out.alloc (.cells #[.string a0, .bool a1, .int .i64 0] 44)).alloc (.cells #[.int .i64 ok, .int .i64 onow, .string os] 48))) hgrow ne1 ne2
         have hn5 : w5.heap[wx.heap.size]? = some (.cells #[.string a0, .bool a1, .int .i64 0] 44) := (hgrow.block _ (by simp only [World.size_alloc]; omega) ne5).trans (bl2 wx (.cells #[.string a0, .bool a1, .int .i64 0] 44) (.cells #[.int .i64 ok, .int .i64 onow, .string os] 48)).1
         have s0 := SX5.cell _ (.inl rfl) d0
         have s1 := SX5.cell _ (.inl rfl) d1
         have s2 := SX5.cell _ (.inl rfl) d2
         have s3 := SX5.cell _ (.inr rfl) y0
         have s4 := SX5.cell _ (.inr rfl) y1
         have s5 := SX5.cell _ (.inr rfl) y2)
      | (refine step_append_own rfl _ _ _ (by rfl) w2.heap.size 44 i1 (.agg #[.string e0, .bool false, .int .i64 0]) 3 32 Try.underlying51 Hj.out Hw0.out Hw1.out Hw2.out rfl (by decide) (.slice a15 M c15) H.length (EA.flat H) (by rfl) (by first | exact ((HR5.alloc (.cells #[.string a0, .bool a1, .int .i64 0] 44))).o15 | exact ((HR5.alloc (.cells #[.string a0, .bool a1, .int .i64 0] 44))).drew.o15) ⟨w5.heap.size, 0, none⟩ 1 1 [.string a0, .bool a1, .int .i64 0] (by rfl) (by rfl) (World.news_of_block (heap_alloc_new w5 _)) K2.out k7 k8 (by first | exact ((HR5.alloc (.cells #[.string a0, .bool a1, .int .i64 0] 44))).bel.size | exact ((HR5.alloc (.cells #[.string a0, .bool a1, .int .i64 0] 44))).drew.bel.size) ?_
         intro v7 w7 hown hgrow0 hnil
         have hgrow : World.grownBy (w5.alloc (.cells #[.string a0, .bool a1, .int .i64 0] 44)) w7 (Value.slice a15 M c15).ownBlock := by first | exact hgrow0 | exact grown_drew hgrow0
         have HR7 := RI.put15 (o := (a0, a1, 0)) ((HR5.alloc (.cells #[.string a0, .bool a1, .int .i64 0] 44))) hown hgrow
         have SX7 := SX.grown ((SX5.alloc (.cells #[.string a0, .bool a1, .int .i64 0] 44))) hgrow ne3 ne4
         have s0 := SX7.cell _ (.inl rfl) d0
         have s1 := SX7.cell _ (.inl rfl) d1
         have s2 := SX7.cell _ (.inl rfl) d2
         have s3 := SX7.cell _ (.inr rfl) y0
         have s4 := SX7.cell _ (.inr rfl) y1
         have s5 := SX7.cell _ (.inr rfl) y2)
      | (refine step_append_own rfl _ _ _ (by rfl) w2.heap.size 44 i1 (.agg #[.string e0, .bool false, .int .i64 0]) 3 32 Try.underlying51 Hj.out Hw0.out Hw1.out Hw2.out rfl (by decide) (.slice a15 M c15) H.length (EA.flat H) (by rfl) (by first | exact (HR5).o15 | exact (HR5).drew.o15) ⟨wx.heap.size + 1, 0, none⟩ 1 1 [.string a0, .bool a1, .int .i64 0] (by rfl) (by rfl) (World.news_of_block hn5) K2.out k7 k8 (by first | exact (HR5).bel.size | exact (HR5).drew.bel.size) ?_
         intro v7 w7 hown hgrow0 hnil
         have hgrow : World.grownBy w5 w7 (Value.slice a15 M c15).ownBlock := by first | exact hgrow0 | exact grown_drew hgrow0
         have HR7 := RI.put15 (o := (a0, a1, 0)) (HR5) hown hgrow
         have SX7 := SX.grown (SX5) hgrow ne3 ne4
         have s0 := SX7.cell _ (.inl rfl) d0
         have s1 := SX7.cell _ (.inl rfl) d1
         have s2 := SX7.cell _ (.inl rfl) d2
         have s3 := SX7.cell _ (.inr rfl) y0
         have s4 := SX7.cell _ (.inr rfl) y1
         have s5 := SX7.cell _ (.inr rfl) y2)
      | (refine step_append_own rfl _ _ _ (by rfl) w2.heap.size 44 i1 (.agg #[.string e0, .bool false, .int .i64 0]) 3 32 Try.underlying51 Hj.out Hw0.out Hw1.out Hw2.out rfl (by decide) (.slice a15 M c15) H.length (EA.flat H) (by rfl) (by first | exact (HR5).o15 | exact (HR5).drew.o15) ⟨wx.heap.size, 0, none⟩ 1 1 [.string a0, .bool a1, .int .i64 0] (by rfl) (by rfl) (World.news_of_block hn5) K2.out k7 k8 (by first | exact (HR5).bel.size | exact (HR5).drew.bel.size) ?_
         intro v7 w7 hown hgrow0 hnil
         have hgrow : World.grownBy w5 w7 (Value.slice a15 M c15).ownBlock := by first | exact hgrow0 | exact grown_drew hgrow0
         have HR7 := RI.put15 (o := (a0, a1, 0)) (HR5) hown hgrow
         have SX7 := SX.grown (SX5) hgrow ne3 ne4
         have s0 := SX7.cell _ (.inl rfl) d0
         have s1 := SX7.cell _ (.inl rfl) d1
         have s2 := SX7.cell _ (.inl rfl) d2
         have s3 := SX7.cell _ (.inr rfl) y0
         have s4 := SX7.cell _ (.inr rfl) y1
         have s5 := SX7.cell _ (.inr rfl) y2))
        all_goals
          have HR8 := hid HR7
          go_wp2_with fail
          exact ⟨⟨k + 1, by omega, by go_num, by rw [HG2.out.1, HG2.out.2]; exact HR8.out⟩, by simp [intOf]; omega⟩
      · have hz : (a2 == 0) = false := by simp [ez]
        have HG2 := hid (HGN.out ez)
        clear HGY HGN ez
        go_wp2_with fail
        exact ⟨⟨k + 1, by omega, by go_num, by rw [HG2.out.1, HG2.out.2]; exact HIX.out⟩, by simp [intOf]; omega⟩
    · obtain rfl : k = n := by omega
      obtain ⟨f1, f2, f3⟩ := HGk.out
      have f4 : (goodO p0 l k).length = (goodA p0 l k).length := by rw [← f2, told_length]
      rw [HFA.out] at f1
      obtain ⟨a14', c14', ev, hr14, _⟩ := RowG.Own.rd HI.out.o14
      simp only [Value.slice.injEq] at ev
      obtain ⟨e1, e2, e3⟩ := ev
      subst e1
      subst e3
      clear e2
      obtain ⟨a15', c15', ev, hr15, _⟩ := RowG.Own.rd HI.out.o15
      simp only [Value.slice.injEq] at ev
      obtain ⟨e1, e2, e3⟩ := ev
      subst e1
      subst e3
      clear e2
      have hplE : plE ⟨n0, n1, n2, n3, [], 0⟩ (goodO p0 l k) = 0 := by
        rw [← HP0.out]
        unfold plE
        rw [if_neg (by simp [HC0.out]), if_neg (by omega)]
      have HP2 := hid (Play_yes n0 n1 n2 n3 _ c14 (goodO p0 l k) wr hr14 hplE)
      rw [← HP0.out, f1, f2, f4] at HP2
      have HNM : Hid (N = (goodA p0 l k).length) := by rw [HNN.out]; exact f4
      have HH15 := hid hr15
      have HL15 := hid (show (goodA p0 l k).length ≤ 100000 by have := HHk.out; omega)
      have hcP : chk (fin p0 l) = 0 := fin_ok HC0.out l
      have HCP := hid hcP
      have HBP := hid (fin_same l p0)
      have hq1 := box_below HX2.out.2.2 HI.out.bel (Nat.le_refl _)
      have HT3 := hid (RowG.Own.below HT2.out HI.out.bel (Nat.le_refl _))
      have HTL3 := hid ((chk_zero hcP).2.1.1)
      have HRM := hid (show (fin p0 l).room ≤ 100000 by
        obtain ⟨⟨k12, _, q1, q2⟩, _⟩ := chk_zero hcP
        rcases k12 with q | q
        · have := (q1 q).1; omega
        · have := (q2 q).2.1; omega)
      have HLT := hid (show (fin p0 l).texts.length ≤ 100000 by have := HTL3.out; have := HRM.out; omega)
      clear HFA HGk HGS HGL HHk HTO hcP hplE f1 f2 f3 f4 hr14 hr15 HTL3 HRM HBP
      generalize goodA p0 l k = H at *
      generalize fin p0 l = P at *
      obtain ⟨j0, j1, j2, j3, T, j5⟩ := P
      simp only at HP2 HEQ HT3 HLT
      obtain ⟨q5, q0, q1, q2, q3⟩ := HEQ.out
      replace q0 := q0.symm
      replace q1 := q1.symm
      replace q2 := q2.symm
      replace q3 := q3.symm
      replace q5 := q5.symm
      subst q0 q1 q2 q3 q5
      obtain ⟨nu', cu', ev, hrT, hnT⟩ := RowG.Own.rd HT3.out
      simp only [Value.slice.injEq] at ev
      obtain ⟨e1, e2, e3⟩ := ev
      subst e1
      subst e2
      subst e3
      have HRT := hid hrT
      have HMH : Hid (M = H.length) := HMM.out
      have hNM := HNM.out
      have hMH := HMH.out
      subst hNM
      subst hMH
      have HQ1 := hid hq1
      clear hrT hnT hq1 HEQ
      go_wp2_with fail
      refine HP2.out.mono ?_
      rintro e w3 ⟨⟨u0, u1, u2, u3, bu, mu, du, u5, g2, rfl, ht3, ha3, heq⟩, b3⟩
      obtain ⟨q5, q0, q1, q2, q3⟩ := heq
      replace q0 := q0.symm
      replace q1 := q1.symm
      replace q2 := q2.symm
      replace q3 := q3.symm
      replace q5 := q5.symm
      subst q0 q1 q2 q3 q5
      obtain ⟨mu', du', ev, hrU, _⟩ := RowG.Own.rd ht3
      simp only [Value.slice.injEq] at ev
      obtain ⟨e1, e2, e3⟩ := ev
      subst e1
      subst e2
      subst e3
      obtain ⟨w4, hw4⟩ : ∃ y, y = w3.alloc (.cells #[.int .i64 j0, .int .i64 j1, .int .i64 j2, .int .i64 j3, .slice bu T.length du, .int .i64 j5] 36) := ⟨_, rfl⟩
      have h34 : Below w3.heap.size w3 w4 := by rw [hw4]; exact (Below.refl _ _).alloc (Nat.le_refl _) _
      have b34 := bel_of b3 h34
      have HB4 := hid (HI.out.bel.trans (b34.mono HI.out.bel.size))
      have HU4 := hid (hrU.below h34 (Nat.le_refl _))
      have HA4 := hid ((own_rdA ha3).below h34 (Nat.le_refl _))
      have HH4 := hid (HH15.out.below b34 (Nat.le_refl _))
      have HT4 := hid (HRT.out.below b34 (Nat.le_refl _))
      have hx4 : w4.heap[w3.heap.size]? = some (.cells #[.int .i64 j0, .int .i64 j1, .int .i64 j2, .int .i64 j3, .slice bu T.length du, .int .i64 j5] 36) := by rw [hw4]; exact box_new w3 _ _
      have hq4 := box_below HQ1.out b34 (Nat.le_refl _)
      have HX4 := hid hx4
      have HQ4 := hid hq4
      clear b3 ht3 ha3 hrU h34 b34 hx4 hq4
      go_wp2_with fail
      rw [← hw4]
      refine (eqA_any _ _ _ _ H H w4 HA4.out HH4.out HL15.out).mono ?_
      rintro e w5 ⟨rfl, b5⟩
      rw [decide_eq_true rfl]
      have hq5 := box_below HQ4.out b5 (Nat.le_refl _)
      have hx5 := box_below HX4.out b5 (Nat.le_refl _)
      obtain ⟨d0, d1, d2, d3, d4, d5⟩ := six_of hq5
      obtain ⟨y0, y1, y2, y3, y4, y5⟩ := six_of hx5
      have HQ5 := hid hq5
      have HX5 := hid hx5
      have HB5 := hid (HB4.out.trans (b5.mono HB4.out.size))
      have HT5 := hid (HT4.out.below b5 (Nat.le_refl _))
      have HU5 := hid (HU4.out.below b5 (Nat.le_refl _))
      clear b5 hq5 hx5 hw4
      go_wp2_with fail
      refine (eqS_any _ _ _ _ T T w5 HT5.out HU5.out HLT.out).mono ?_
      rintro e w6 ⟨rfl, b6⟩
      rw [decide_eq_true rfl]
      have hq6 := box_below HQ5.out b6 (Nat.le_refl _)
      have hx6 := box_below HX5.out b6 (Nat.le_refl _)
      clear d0 d1 d2 d3 d4 d5 y0 y1 y2 y3 y4 y5
      obtain ⟨d0, d1, d2, d3, d4, d5⟩ := six_of hq6
      obtain ⟨y0, y1, y2, y3, y4, y5⟩ := six_of hx6
      have HB6 := hid (HB5.out.trans (b6.mono HB5.out.size))
      have HT6 := hid (HT5.out.below b6 (Nat.le_refl _))
      clear b6 hq6 hx6
      go_wp2_with fail
      refine (Check_any ⟨j0, j1, j2, j3, T, j5⟩ _ _ w6 HT6.out).mono ?_
      rintro e w7 ⟨rfl, b7⟩
      rw [HCP.out]
      have HB7 := hid (HB6.out.trans (b7.mono HB6.out.size))
      clear b7
      go_wp2_with fail
      go_ret
      exact ⟨rfl, HB2.out.trans (HB7.out.mono HB2.out.size)⟩
theorem portRefused_walk (n0 n1 n2 n3 : Int) (a4 : Option Addr) (len4 cap4 : Nat) (l4 : List PrtM.Op) (w : World) (h0 : SpanC.wf64 n0) (h1 : SpanC.wf64 n1) (h2 : SpanC.wf64 n2) (h3 : SpanC.wf64 n3) (h4 : RowsO.IsPos w a4 len4 cap4 l4) :
    Calls Try.prog 8 #[.int .i64 n0, .int .i64 n1, .int .i64 n2, .int .i64 n3, .slice a4 len4 cap4] w fun e w' => e = .returned (.bool true) ∧ Below w.heap.size w w' := by
  obtain ⟨rfl, _, _, hr, _⟩ := h4
  by_cases h : plE ⟨n0, n1, n2, n3, [], 0⟩ l4 = 0
  · exact portRefused_yes n0 n1 n2 n3 a4 cap4 l4 w hr h
  · exact portRefused_no n0 n1 n2 n3 a4 cap4 l4 w hr h
end PortC
end Go.Proofs.Ytllfpbngfkimlaa
