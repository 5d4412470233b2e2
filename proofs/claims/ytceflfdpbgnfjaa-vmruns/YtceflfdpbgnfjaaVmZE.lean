/- The reference's Once, instruction by instruction (gen_once.py writes this text). -/
import Derived.Test.YtceflfdpbgnfjaaVmZD
set_option linter.unusedVariables false
namespace Go.Proofs.Ytceflfdpbgnfjaa
open Go.RowKit
open Go.Shelf Go.Sort
open SpanM hiding good
open SpanC IntsC
open RowsO hiding Em
namespace VmC
open VmP VmM
open NumC (Row)
section
variable (w : World) (pa ia : Option Addr) (q : Addr) (pcap rc ic : Nat) (p : List In) (l i : List Int) (k : Nat)
set_option maxRecDepth 20000 in
set_option maxHeartbeats 3200000 in
theorem once_1 (hp : Iss w pa p) (hpl : p.length ≤ maxLen) (hr : Row w (some q) l) (h8 : l.length = 8) (hn : ∀ x ∈ l, n32 x = true) (hi : Row w ia i) (hil : i.length ≤ maxLen) (hk100 : k ≤ 100) (a : Nat) (b : Int) (hk : k < p.length) (ha : a < 8) (hx : p.getD k zIs = (1, (a : Int), (b : Int))) :
    Calls Try.prog 35 #[.slice pa p.length pcap, .agg (vmC k (.slice (some q) 8 rc) false false), .slice ia i.length ic] w (OnceR w ⟨(k : Int) + 1, l.set a b, false, false⟩ [] 0) := by
  obtain ⟨qb, qo, hq, hql, _⟩ := Row.at hr 0 (by omega)
  simp only [Option.some.injEq] at hq
  subst hq
  have HR := hid hr
  have HI := hid hi
  have HP := hid hp
  have HNN := hid hn
  have H8 := hid h8
  have HCL := hid (fun V (hb : Below w.heap.size w V) => (by have := cloneIL_some ⟨qb, qo, none⟩ rc l V (Row.below hr hb (Nat.le_refl _)) (by rw [h8]; unfold maxLen; decide) (by rw [h8]; decide); rwa [h8] at this : Calls Try.prog 20 #[.slice (some ⟨qb, qo, none⟩) 8 rc] V fun e w' => (∃ v, e = .returned v ∧ OwnI w' V.heap.size v l) ∧ Below V.heap.size V w'))
  have hw2 : wrap64 ((k : Int) + 1) = (k : Int) + 1 := by unfold wrap64; omega
  have hw : IntKind.i64.wrap ((k : Int) + 1) = (k : Int) + 1 := by rw [IntWalk.i64_left]; exact hw2
  unfold maxLen at hpl hil
  clear hr hi hp h8 hql hn
  go_enter Try.func35, Try.ntmps35
  go_upto_region 3 with fail
  have HX := hid (B2.start w (vmC k (.slice (some ⟨qb, qo, none⟩) 8 rc) false false) zV 25 25)
  have hs := B2.size HX.out
  have y0 := HX.out.c0 0
  have y1 := HX.out.c0 1
  have e0 : (vmC k (.slice (some ⟨qb, qo, none⟩) 8 rc) false false)[0]? = some (.int .i64 k) := rfl
  have e1 : (vmC k (.slice (some ⟨qb, qo, none⟩) 8 rc) false false)[1]? = some (.slice (some ⟨qb, qo, none⟩) 8 rc) := rfl
  rw [e0] at y0
  rw [e1] at y1
  clear e0 e1
  generalize (w.alloc (.cells (vmC k (.slice (some ⟨qb, qo, none⟩) 8 rc) false false) 25)).alloc (.cells zV 25) = W0 at *
  have hs1 : w.heap.size < W0.heap.size := by omega
  have nz1 : ¬ w.heap.size = W0.heap.size := by omega
  have nz2 : ¬ W0.heap.size = w.heap.size := by omega
  go_cut [10] from 14 to 167 (fun v10 wc => ∃ bx g cap, v10 = .pointer (some ⟨bx, 0, none⟩) ∧ Hid (Mo w wc (vmC k (.slice (some ⟨qb, qo, none⟩) 8 rc) false false) bx g cap ⟨k + 1, l, false, false⟩))
  case first =>
    go_region_held3 (fun V => V.cell? ⟨w.heap.size, 0, none⟩ = some (.int .i64 k) ∧ V.cell? ⟨w.heap.size, 1, none⟩ = some (.slice (some ⟨qb, qo, none⟩) 8 rc)) (go_keep)
      (first
        | (go_at_call 20
           refine (HCL.out _ ?_).mono ?_
           · exact HX.out.bel.drew
           rintro e w5 ⟨⟨v5, rfl, ho5⟩, hb5⟩
           have hb5' : Below W0.heap.size W0 w5 := (Below.refl _ _).drew.trans hb5
           obtain ⟨g5, cap5, rfl⟩ := own8 ho5 H8.out
           have HX5 := hid (HX.out.step hb5')
           have HO5 := hid ho5
           have z0 := (hb5'.cell hs1).trans y0
           have z1 := (hb5'.cell hs1).trans y1
           clear ho5 hb5 hb5')
        | (go_at_call 20
           refine (HCL.out _ ?_).mono ?_
           · exact (HX.out.bel.alloc HX.out.bel.size _).drew
           rintro e w5 ⟨⟨v5, rfl, ho5⟩, hb5⟩
           have hb5' : Below W0.heap.size W0 w5 := (((Below.refl _ _).alloc (Nat.le_refl _) _).drew).trans (hb5.mono (by simp))
           have hn5 : w5.heap[W0.heap.size]? = some (.cells zV 25) := (hb5.block W0.heap.size (by simp)).trans (heap_alloc_new W0 _)
           obtain ⟨g5, cap5, rfl⟩ := own8 ho5 H8.out
           have HX5 := hid (HX.out.step hb5')
           have HN5 := hid hn5
           have HO5 := hid ho5
           have z0 := (hb5'.cell hs1).trans y0
           have z1 := (hb5'.cell hs1).trans y1
           have n0 := froz_box hn5 0
           have n1 := froz_box hn5 1
           have n2 := froz_box hn5 2
           have n3 := froz_box hn5 3
           have m0 := box_cell hn5 0
           have m1 := box_cell hn5 1
           have m2 := box_cell hn5 2
           have m3 := box_cell hn5 3
           simp at m0 m1 m2 m3
           clear ho5 hb5 hb5' hn5))
    all_goals (go_wp2_with fail)
    all_goals go_meet
    · exact ⟨_, _, _, rfl, ⟨HX5.out.step ((Below.refl _ _).alloc (Nat.le_refl _) _), box_new _ _ _, OwnI.below (OwnI.base' HO5.out (by simp; omega)) ((Below.refl _ _).alloc (Nat.le_refl _) _) (Nat.le_refl _), HX5.out.size, H8.out⟩⟩
    · exact ⟨_, _, _, rfl, ⟨⟨st4_below HX5.out.b hs⟩, st4_heap HN5.out, st4_own _ _ _ _ (OwnI.base' HO5.out (by simp; omega)) HN5.out (by decide), hs, H8.out⟩⟩
  case rest =>
    obtain ⟨bx, g, cap, rfl, HM⟩ := hcut
    clear hs hs1 nz1 nz2 y0 y1 HCL HX
    have v0 := HM.out.b2.c0 0
    have e0 : (vmC k (.slice (some ⟨qb, qo, none⟩) 8 rc) false false)[0]? = some (.int .i64 k) := rfl
    rw [e0] at v0
    clear e0
    have gk : ((k : Int) == (p.length : Int)) = false := by simp; omega
    have ik : (k : Int) < (p.length : Int) := by omega
    obtain ⟨pb, po, rfl, hpb, c0, c1, c2⟩ := (HP.out.below HM.out.b2.bel (Nat.le_refl _)).at k hk
    rw [show p.getD k zIs = (1, (a : Int), (b : Int)) from hx] at c0 c1 c2
    simp only at c0 c1 c2
    have HBT := hid (fun w => (by have := rbtw_any 1 2 5 w; rwa [show decide ((2 : Int) ≤ 1 ∧ (1 : Int) ≤ 5) = false from by decide] at this : Calls Try.prog 33 #[.int .i64 1, .int .i64 2, .int .i64 5] w fun e w' => e = .returned (.bool false) ∧ w' = w))
    go_upto_region 8 with fail
    have HM1 := hid (HM.out.alloc (.cells #[.int .i64 1, .int .i64 a, .int .i64 b] 45))
    have bb := box_new wc #[.int .i64 1, .int .i64 a, .int .i64 b] 45
    have hbl : wc.heap.size < (wc.alloc (.cells #[.int .i64 1, .int .i64 a, .int .i64 b] 45)).heap.size := by rw [World.size_alloc]; omega
    have hbn : w.heap.size + 2 ≤ wc.heap.size := HM.out.b2.size
    have nbx : ¬ bx = wc.heap.size := by have := HM.out.lt; omega
    have ngx : ¬ g = wc.heap.size := by have := HM.out.row; omega
    clear v0 c0 c1 c2 hpb
    generalize (wc.alloc (.cells #[.int .i64 1, .int .i64 a, .int .i64 b] 45)) = W1 at *
    generalize wc.heap.size = bn at *
    have b0 : W1.cell? ⟨bn, 0, none⟩ = some (.int .i64 1) := box_cell bb 0
    have b1 : W1.cell? ⟨bn, 1, none⟩ = some (.int .i64 a) := box_cell bb 1
    have b2 : W1.cell? ⟨bn, 2, none⟩ = some (.int .i64 b) := box_cell bb 2
    have HBB := hid bb
    clear bb
    have v0 := HM1.out.b2.c0 0
    have v1 := HM1.out.b2.c0 1
    have e0 : (vmC k (.slice (some ⟨qb, qo, none⟩) 8 rc) false false)[0]? = some (.int .i64 k) := rfl
    have e1 : (vmC k (.slice (some ⟨qb, qo, none⟩) 8 rc) false false)[1]? = some (.slice (some ⟨qb, qo, none⟩) 8 rc) := rfl
    rw [e0] at v0
    rw [e1] at v1
    clear e0 e1
    obtain ⟨qb', qo', hq1, hq2, ra0⟩ := Row.at (Row.below HR.out HM1.out.b2.bel (Nat.le_refl _)) a (by have := H8.out; omega)
    simp only [Option.some.injEq, Addr.mk.injEq, and_true] at hq1
    obtain ⟨rfl, rfl⟩ := hq1
    obtain ⟨d0, d1, d2, d3⟩ := HM1.out.c
    have ga := HM1.out.gc a ha
    have gf := HM1.out.gf a
    have k0 := HM1.out.bf 0
    have k2 := HM1.out.bf 2
    have i1 : (a : Int) < 8 := by omega
    have hgne := HM1.out.ne
    simp only at ga
    obtain ⟨ra, hra⟩ : ∃ r, r = l.getD a 0 := ⟨_, rfl⟩
    have HRA := hid hra
    rw [← hra] at ra0 ga
    clear hra hq2
    go_upto_region 37 with (go_at_call 33; refine (HBT.out _).mono ?_; rintro e w' ⟨rfl, hww⟩; replace hww := hww.symm; subst hww)
    have HM3 : Hid (Mo w (W1.setCell ⟨g, a, none⟩ (.int .i64 b)) (vmC k (.slice (some ⟨qb, qo, none⟩) 8 rc) false false) bx g cap ⟨(k : Int) + 1, l.set a b, false, false⟩) := HM1.out.setReg a b
    generalize (W1.setCell ⟨g, a, none⟩ (.int .i64 b)) = W3 at *
    obtain ⟨x0, x1, x2, x3⟩ := HM3.out.c
    simp only at x0 x1 x2 x3
    obtain ⟨r0, r1, r2, r3⟩ := HM3.out.r
    have s0 := HM3.out.rf 0
    have s1 := HM3.out.rf 1
    have s2 := HM3.out.rf 2
    have s3 := HM3.out.rf 3
    have nr1 : ¬ bx = w.heap.size + 1 := by have := HM3.out.ge; omega
    have nr2 : ¬ w.heap.size + 1 = bx := by have := HM3.out.ge; omega
    go_wp2_with fail
    have HE := hid HM3.out.ret
    simp only [retW, st4] at HE
    (try simp only [Exit.inBlock, Exit.then])
    refine bodyPost_ret (by simp [results, Try.results35]; rw [as_addr, Result.andThen_ok, HE.out.1, Result.andThen_ok]) rfl ?_
    exact ⟨⟨_, _, _, rfl, HE.out.2.1, .inl ⟨rfl, rfl⟩⟩, HE.out.2.2⟩
set_option maxRecDepth 20000 in
set_option maxHeartbeats 3200000 in
theorem once_2 (hp : Iss w pa p) (hpl : p.length ≤ maxLen) (hr : Row w (some q) l) (h8 : l.length = 8) (hn : ∀ x ∈ l, n32 x = true) (hi : Row w ia i) (hil : i.length ≤ maxLen) (hk100 : k ≤ 100) (a : Nat) (b : Nat) (hk : k < p.length) (ha : a < 8) (hx : p.getD k zIs = (2, (a : Int), (b : Int))) (hb : b < 8) :
    Calls Try.prog 35 #[.slice pa p.length pcap, .agg (vmC k (.slice (some q) 8 rc) false false), .slice ia i.length ic] w (OnceR w ⟨(k : Int) + 1, l.set a (l.getD b 0), false, false⟩ [] 0) := by
  obtain ⟨qb, qo, hq, hql, _⟩ := Row.at hr 0 (by omega)
  simp only [Option.some.injEq] at hq
  subst hq
  have HR := hid hr
  have HI := hid hi
  have HP := hid hp
  have HNN := hid hn
  have H8 := hid h8
  have HCL := hid (fun V (hb : Below w.heap.size w V) => (by have := cloneIL_some ⟨qb, qo, none⟩ rc l V (Row.below hr hb (Nat.le_refl _)) (by rw [h8]; unfold maxLen; decide) (by rw [h8]; decide); rwa [h8] at this : Calls Try.prog 20 #[.slice (some ⟨qb, qo, none⟩) 8 rc] V fun e w' => (∃ v, e = .returned v ∧ OwnI w' V.heap.size v l) ∧ Below V.heap.size V w'))
  have hw2 : wrap64 ((k : Int) + 1) = (k : Int) + 1 := by unfold wrap64; omega
  have hw : IntKind.i64.wrap ((k : Int) + 1) = (k : Int) + 1 := by rw [IntWalk.i64_left]; exact hw2
  unfold maxLen at hpl hil
  clear hr hi hp h8 hql hn
  go_enter Try.func35, Try.ntmps35
  go_upto_region 3 with fail
  have HX := hid (B2.start w (vmC k (.slice (some ⟨qb, qo, none⟩) 8 rc) false false) zV 25 25)
  have hs := B2.size HX.out
  have y0 := HX.out.c0 0
  have y1 := HX.out.c0 1
  have e0 : (vmC k (.slice (some ⟨qb, qo, none⟩) 8 rc) false false)[0]? = some (.int .i64 k) := rfl
  have e1 : (vmC k (.slice (some ⟨qb, qo, none⟩) 8 rc) false false)[1]? = some (.slice (some ⟨qb, qo, none⟩) 8 rc) := rfl
  rw [e0] at y0
  rw [e1] at y1
  clear e0 e1
  generalize (w.alloc (.cells (vmC k (.slice (some ⟨qb, qo, none⟩) 8 rc) false false) 25)).alloc (.cells zV 25) = W0 at *
  have hs1 : w.heap.size < W0.heap.size := by omega
  have nz1 : ¬ w.heap.size = W0.heap.size := by omega
  have nz2 : ¬ W0.heap.size = w.heap.size := by omega
  go_cut [10] from 14 to 167 (fun v10 wc => ∃ bx g cap, v10 = .pointer (some ⟨bx, 0, none⟩) ∧ Hid (Mo w wc (vmC k (.slice (some ⟨qb, qo, none⟩) 8 rc) false false) bx g cap ⟨k + 1, l, false, false⟩))
  case first =>
    go_region_held3 (fun V => V.cell? ⟨w.heap.size, 0, none⟩ = some (.int .i64 k) ∧ V.cell? ⟨w.heap.size, 1, none⟩ = some (.slice (some ⟨qb, qo, none⟩) 8 rc)) (go_keep)
      (first
        | (go_at_call 20
           refine (HCL.out _ ?_).mono ?_
           · exact HX.out.bel.drew
           rintro e w5 ⟨⟨v5, rfl, ho5⟩, hb5⟩
           have hb5' : Below W0.heap.size W0 w5 := (Below.refl _ _).drew.trans hb5
           obtain ⟨g5, cap5, rfl⟩ := own8 ho5 H8.out
           have HX5 := hid (HX.out.step hb5')
           have HO5 := hid ho5
           have z0 := (hb5'.cell hs1).trans y0
           have z1 := (hb5'.cell hs1).trans y1
           clear ho5 hb5 hb5')
        | (go_at_call 20
           refine (HCL.out _ ?_).mono ?_
           · exact (HX.out.bel.alloc HX.out.bel.size _).drew
           rintro e w5 ⟨⟨v5, rfl, ho5⟩, hb5⟩
           have hb5' : Below W0.heap.size W0 w5 := (((Below.refl _ _).alloc (Nat.le_refl _) _).drew).trans (hb5.mono (by simp))
           have hn5 : w5.heap[W0.heap.size]? = some (.cells zV 25) := (hb5.block W0.heap.size (by simp)).trans (heap_alloc_new W0 _)
           obtain ⟨g5, cap5, rfl⟩ := own8 ho5 H8.out
           have HX5 := hid (HX.out.step hb5')
           have HN5 := hid hn5
           have HO5 := hid ho5
           have z0 := (hb5'.cell hs1).trans y0
           have z1 := (hb5'.cell hs1).trans y1
           have n0 := froz_box hn5 0
           have n1 := froz_box hn5 1
           have n2 := froz_box hn5 2
           have n3 := froz_box hn5 3
           have m0 := box_cell hn5 0
           have m1 := box_cell hn5 1
           have m2 := box_cell hn5 2
           have m3 := box_cell hn5 3
           simp at m0 m1 m2 m3
           clear ho5 hb5 hb5' hn5))
    all_goals (go_wp2_with fail)
    all_goals go_meet
    · exact ⟨_, _, _, rfl, ⟨HX5.out.step ((Below.refl _ _).alloc (Nat.le_refl _) _), box_new _ _ _, OwnI.below (OwnI.base' HO5.out (by simp; omega)) ((Below.refl _ _).alloc (Nat.le_refl _) _) (Nat.le_refl _), HX5.out.size, H8.out⟩⟩
    · exact ⟨_, _, _, rfl, ⟨⟨st4_below HX5.out.b hs⟩, st4_heap HN5.out, st4_own _ _ _ _ (OwnI.base' HO5.out (by simp; omega)) HN5.out (by decide), hs, H8.out⟩⟩
  case rest =>
    obtain ⟨bx, g, cap, rfl, HM⟩ := hcut
    clear hs hs1 nz1 nz2 y0 y1 HCL HX
    have v0 := HM.out.b2.c0 0
    have e0 : (vmC k (.slice (some ⟨qb, qo, none⟩) 8 rc) false false)[0]? = some (.int .i64 k) := rfl
    rw [e0] at v0
    clear e0
    have gk : ((k : Int) == (p.length : Int)) = false := by simp; omega
    have ik : (k : Int) < (p.length : Int) := by omega
    obtain ⟨pb, po, rfl, hpb, c0, c1, c2⟩ := (HP.out.below HM.out.b2.bel (Nat.le_refl _)).at k hk
    rw [show p.getD k zIs = (2, (a : Int), (b : Int)) from hx] at c0 c1 c2
    simp only at c0 c1 c2
    have HBT := hid (fun w => (by have := rbtw_any 2 2 5 w; rwa [show decide ((2 : Int) ≤ 2 ∧ (2 : Int) ≤ 5) = true from by decide] at this : Calls Try.prog 33 #[.int .i64 2, .int .i64 2, .int .i64 5] w fun e w' => e = .returned (.bool true) ∧ w' = w))
    go_upto_region 8 with fail
    have HM1 := hid (HM.out.alloc (.cells #[.int .i64 2, .int .i64 a, .int .i64 b] 45))
    have bb := box_new wc #[.int .i64 2, .int .i64 a, .int .i64 b] 45
    have hbl : wc.heap.size < (wc.alloc (.cells #[.int .i64 2, .int .i64 a, .int .i64 b] 45)).heap.size := by rw [World.size_alloc]; omega
    have hbn : w.heap.size + 2 ≤ wc.heap.size := HM.out.b2.size
    have nbx : ¬ bx = wc.heap.size := by have := HM.out.lt; omega
    have ngx : ¬ g = wc.heap.size := by have := HM.out.row; omega
    clear v0 c0 c1 c2 hpb
    generalize (wc.alloc (.cells #[.int .i64 2, .int .i64 a, .int .i64 b] 45)) = W1 at *
    generalize wc.heap.size = bn at *
    have b0 : W1.cell? ⟨bn, 0, none⟩ = some (.int .i64 2) := box_cell bb 0
    have b1 : W1.cell? ⟨bn, 1, none⟩ = some (.int .i64 a) := box_cell bb 1
    have b2 : W1.cell? ⟨bn, 2, none⟩ = some (.int .i64 b) := box_cell bb 2
    have HBB := hid bb
    clear bb
    have v0 := HM1.out.b2.c0 0
    have v1 := HM1.out.b2.c0 1
    have e0 : (vmC k (.slice (some ⟨qb, qo, none⟩) 8 rc) false false)[0]? = some (.int .i64 k) := rfl
    have e1 : (vmC k (.slice (some ⟨qb, qo, none⟩) 8 rc) false false)[1]? = some (.slice (some ⟨qb, qo, none⟩) 8 rc) := rfl
    rw [e0] at v0
    rw [e1] at v1
    clear e0 e1
    obtain ⟨qb', qo', hq1, hq2, ra0⟩ := Row.at (Row.below HR.out HM1.out.b2.bel (Nat.le_refl _)) a (by have := H8.out; omega)
    simp only [Option.some.injEq, Addr.mk.injEq, and_true] at hq1
    obtain ⟨rfl, rfl⟩ := hq1
    obtain ⟨d0, d1, d2, d3⟩ := HM1.out.c
    have ga := HM1.out.gc a ha
    have gf := HM1.out.gf a
    have k0 := HM1.out.bf 0
    have k2 := HM1.out.bf 2
    have i1 : (a : Int) < 8 := by omega
    have hgne := HM1.out.ne
    simp only at ga
    obtain ⟨ra, hra⟩ : ∃ r, r = l.getD a 0 := ⟨_, rfl⟩
    have HRA := hid hra
    rw [← hra] at ra0 ga
    obtain ⟨qb', qo', hq1, hq2', rb0⟩ := Row.at (Row.below HR.out HM1.out.b2.bel (Nat.le_refl _)) b (by have := H8.out; omega)
    simp only [Option.some.injEq, Addr.mk.injEq, and_true] at hq1
    obtain ⟨rfl, rfl⟩ := hq1
    have i2 : (b : Int) < 8 := by omega
    obtain ⟨rb, hrb⟩ : ∃ r, r = l.getD b 0 := ⟨_, rfl⟩
    have HRB := hid hrb
    rw [← hrb] at rb0
    clear hrb
    clear hra hq2 hq2'
    go_upto_region 37 with (go_at_call 33; refine (HBT.out _).mono ?_; rintro e w' ⟨rfl, hww⟩; replace hww := hww.symm; subst hww)
    have HM3 : Hid (Mo w (W1.setCell ⟨g, a, none⟩ (.int .i64 rb)) (vmC k (.slice (some ⟨qb, qo, none⟩) 8 rc) false false) bx g cap ⟨(k : Int) + 1, l.set a rb, false, false⟩) := HM1.out.setReg a rb
    generalize (W1.setCell ⟨g, a, none⟩ (.int .i64 rb)) = W3 at *
    obtain ⟨x0, x1, x2, x3⟩ := HM3.out.c
    simp only at x0 x1 x2 x3
    obtain ⟨r0, r1, r2, r3⟩ := HM3.out.r
    have s0 := HM3.out.rf 0
    have s1 := HM3.out.rf 1
    have s2 := HM3.out.rf 2
    have s3 := HM3.out.rf 3
    have nr1 : ¬ bx = w.heap.size + 1 := by have := HM3.out.ge; omega
    have nr2 : ¬ w.heap.size + 1 = bx := by have := HM3.out.ge; omega
    go_wp2_with fail
    have HE := hid HM3.out.ret
    simp only [retW, st4] at HE
    (try simp only [Exit.inBlock, Exit.then])
    refine bodyPost_ret (by simp [results, Try.results35]; rw [as_addr, Result.andThen_ok, HE.out.1, Result.andThen_ok]) rfl ?_
    exact ⟨⟨_, _, _, rfl, (by have qq := HE.out.2.1; rw [HRB.out] at qq; exact qq), .inl ⟨rfl, rfl⟩⟩, HE.out.2.2⟩
set_option maxRecDepth 20000 in
set_option maxHeartbeats 3200000 in
theorem once_3 (hp : Iss w pa p) (hpl : p.length ≤ maxLen) (hr : Row w (some q) l) (h8 : l.length = 8) (hn : ∀ x ∈ l, n32 x = true) (hi : Row w ia i) (hil : i.length ≤ maxLen) (hk100 : k ≤ 100) (a : Nat) (b : Nat) (hk : k < p.length) (ha : a < 8) (hx : p.getD k zIs = (3, (a : Int), (b : Int))) (hb : b < 8) :
    Calls Try.prog 35 #[.slice pa p.length pcap, .agg (vmC k (.slice (some q) 8 rc) false false), .slice ia i.length ic] w (OnceR w ⟨(k : Int) + 1, l.set a (ar (l.getD a 0 + l.getD b 0)), false, false⟩ [] 0) := by
  obtain ⟨qb, qo, hq, hql, _⟩ := Row.at hr 0 (by omega)
  simp only [Option.some.injEq] at hq
  subst hq
  have HR := hid hr
  have HI := hid hi
  have HP := hid hp
  have HNN := hid hn
  have H8 := hid h8
  have HCL := hid (fun V (hb : Below w.heap.size w V) => (by have := cloneIL_some ⟨qb, qo, none⟩ rc l V (Row.below hr hb (Nat.le_refl _)) (by rw [h8]; unfold maxLen; decide) (by rw [h8]; decide); rwa [h8] at this : Calls Try.prog 20 #[.slice (some ⟨qb, qo, none⟩) 8 rc] V fun e w' => (∃ v, e = .returned v ∧ OwnI w' V.heap.size v l) ∧ Below V.heap.size V w'))
  have hw2 : wrap64 ((k : Int) + 1) = (k : Int) + 1 := by unfold wrap64; omega
  have hw : IntKind.i64.wrap ((k : Int) + 1) = (k : Int) + 1 := by rw [IntWalk.i64_left]; exact hw2
  unfold maxLen at hpl hil
  clear hr hi hp h8 hql hn
  go_enter Try.func35, Try.ntmps35
  go_upto_region 3 with fail
  have HX := hid (B2.start w (vmC k (.slice (some ⟨qb, qo, none⟩) 8 rc) false false) zV 25 25)
  have hs := B2.size HX.out
  have y0 := HX.out.c0 0
  have y1 := HX.out.c0 1
  have e0 : (vmC k (.slice (some ⟨qb, qo, none⟩) 8 rc) false false)[0]? = some (.int .i64 k) := rfl
  have e1 : (vmC k (.slice (some ⟨qb, qo, none⟩) 8 rc) false false)[1]? = some (.slice (some ⟨qb, qo, none⟩) 8 rc) := rfl
  rw [e0] at y0
  rw [e1] at y1
  clear e0 e1
  generalize (w.alloc (.cells (vmC k (.slice (some ⟨qb, qo, none⟩) 8 rc) false false) 25)).alloc (.cells zV 25) = W0 at *
  have hs1 : w.heap.size < W0.heap.size := by omega
  have nz1 : ¬ w.heap.size = W0.heap.size := by omega
  have nz2 : ¬ W0.heap.size = w.heap.size := by omega
  go_cut [10] from 14 to 167 (fun v10 wc => ∃ bx g cap, v10 = .pointer (some ⟨bx, 0, none⟩) ∧ Hid (Mo w wc (vmC k (.slice (some ⟨qb, qo, none⟩) 8 rc) false false) bx g cap ⟨k + 1, l, false, false⟩))
  case first =>
    go_region_held3 (fun V => V.cell? ⟨w.heap.size, 0, none⟩ = some (.int .i64 k) ∧ V.cell? ⟨w.heap.size, 1, none⟩ = some (.slice (some ⟨qb, qo, none⟩) 8 rc)) (go_keep)
      (first
        | (go_at_call 20
           refine (HCL.out _ ?_).mono ?_
           · exact HX.out.bel.drew
           rintro e w5 ⟨⟨v5, rfl, ho5⟩, hb5⟩
           have hb5' : Below W0.heap.size W0 w5 := (Below.refl _ _).drew.trans hb5
           obtain ⟨g5, cap5, rfl⟩ := own8 ho5 H8.out
           have HX5 := hid (HX.out.step hb5')
           have HO5 := hid ho5
           have z0 := (hb5'.cell hs1).trans y0
           have z1 := (hb5'.cell hs1).trans y1
           clear ho5 hb5 hb5')
        | (go_at_call 20
           refine (HCL.out _ ?_).mono ?_
           · exact (HX.out.bel.alloc HX.out.bel.size _).drew
           rintro e w5 ⟨⟨v5, rfl, ho5⟩, hb5⟩
           have hb5' : Below W0.heap.size W0 w5 := (((Below.refl _ _).alloc (Nat.le_refl _) _).drew).trans (hb5.mono (by simp))
           have hn5 : w5.heap[W0.heap.size]? = some (.cells zV 25) := (hb5.block W0.heap.size (by simp)).trans (heap_alloc_new W0 _)
           obtain ⟨g5, cap5, rfl⟩ := own8 ho5 H8.out
           have HX5 := hid (HX.out.step hb5')
           have HN5 := hid hn5
           have HO5 := hid ho5
           have z0 := (hb5'.cell hs1).trans y0
           have z1 := (hb5'.cell hs1).trans y1
           have n0 := froz_box hn5 0
           have n1 := froz_box hn5 1
           have n2 := froz_box hn5 2
           have n3 := froz_box hn5 3
           have m0 := box_cell hn5 0
           have m1 := box_cell hn5 1
           have m2 := box_cell hn5 2
           have m3 := box_cell hn5 3
           simp at m0 m1 m2 m3
           clear ho5 hb5 hb5' hn5))
    all_goals (go_wp2_with fail)
    all_goals go_meet
    · exact ⟨_, _, _, rfl, ⟨HX5.out.step ((Below.refl _ _).alloc (Nat.le_refl _) _), box_new _ _ _, OwnI.below (OwnI.base' HO5.out (by simp; omega)) ((Below.refl _ _).alloc (Nat.le_refl _) _) (Nat.le_refl _), HX5.out.size, H8.out⟩⟩
    · exact ⟨_, _, _, rfl, ⟨⟨st4_below HX5.out.b hs⟩, st4_heap HN5.out, st4_own _ _ _ _ (OwnI.base' HO5.out (by simp; omega)) HN5.out (by decide), hs, H8.out⟩⟩
  case rest =>
    obtain ⟨bx, g, cap, rfl, HM⟩ := hcut
    clear hs hs1 nz1 nz2 y0 y1 HCL HX
    have v0 := HM.out.b2.c0 0
    have e0 : (vmC k (.slice (some ⟨qb, qo, none⟩) 8 rc) false false)[0]? = some (.int .i64 k) := rfl
    rw [e0] at v0
    clear e0
    have gk : ((k : Int) == (p.length : Int)) = false := by simp; omega
    have ik : (k : Int) < (p.length : Int) := by omega
    obtain ⟨pb, po, rfl, hpb, c0, c1, c2⟩ := (HP.out.below HM.out.b2.bel (Nat.le_refl _)).at k hk
    rw [show p.getD k zIs = (3, (a : Int), (b : Int)) from hx] at c0 c1 c2
    simp only at c0 c1 c2
    have HBT := hid (fun w => (by have := rbtw_any 3 2 5 w; rwa [show decide ((2 : Int) ≤ 3 ∧ (3 : Int) ≤ 5) = true from by decide] at this : Calls Try.prog 33 #[.int .i64 3, .int .i64 2, .int .i64 5] w fun e w' => e = .returned (.bool true) ∧ w' = w))
    go_upto_region 8 with fail
    have HM1 := hid (HM.out.alloc (.cells #[.int .i64 3, .int .i64 a, .int .i64 b] 45))
    have bb := box_new wc #[.int .i64 3, .int .i64 a, .int .i64 b] 45
    have hbl : wc.heap.size < (wc.alloc (.cells #[.int .i64 3, .int .i64 a, .int .i64 b] 45)).heap.size := by rw [World.size_alloc]; omega
    have hbn : w.heap.size + 2 ≤ wc.heap.size := HM.out.b2.size
    have nbx : ¬ bx = wc.heap.size := by have := HM.out.lt; omega
    have ngx : ¬ g = wc.heap.size := by have := HM.out.row; omega
    clear v0 c0 c1 c2 hpb
    generalize (wc.alloc (.cells #[.int .i64 3, .int .i64 a, .int .i64 b] 45)) = W1 at *
    generalize wc.heap.size = bn at *
    have b0 : W1.cell? ⟨bn, 0, none⟩ = some (.int .i64 3) := box_cell bb 0
    have b1 : W1.cell? ⟨bn, 1, none⟩ = some (.int .i64 a) := box_cell bb 1
    have b2 : W1.cell? ⟨bn, 2, none⟩ = some (.int .i64 b) := box_cell bb 2
    have HBB := hid bb
    clear bb
    have v0 := HM1.out.b2.c0 0
    have v1 := HM1.out.b2.c0 1
    have e0 : (vmC k (.slice (some ⟨qb, qo, none⟩) 8 rc) false false)[0]? = some (.int .i64 k) := rfl
    have e1 : (vmC k (.slice (some ⟨qb, qo, none⟩) 8 rc) false false)[1]? = some (.slice (some ⟨qb, qo, none⟩) 8 rc) := rfl
    rw [e0] at v0
    rw [e1] at v1
    clear e0 e1
    obtain ⟨qb', qo', hq1, hq2, ra0⟩ := Row.at (Row.below HR.out HM1.out.b2.bel (Nat.le_refl _)) a (by have := H8.out; omega)
    simp only [Option.some.injEq, Addr.mk.injEq, and_true] at hq1
    obtain ⟨rfl, rfl⟩ := hq1
    obtain ⟨d0, d1, d2, d3⟩ := HM1.out.c
    have ga := HM1.out.gc a ha
    have gf := HM1.out.gf a
    have k0 := HM1.out.bf 0
    have k2 := HM1.out.bf 2
    have i1 : (a : Int) < 8 := by omega
    have hgne := HM1.out.ne
    simp only at ga
    obtain ⟨ra, hra⟩ : ∃ r, r = l.getD a 0 := ⟨_, rfl⟩
    have HRA := hid hra
    rw [← hra] at ra0 ga
    obtain ⟨qb', qo', hq1, hq2', rb0⟩ := Row.at (Row.below HR.out HM1.out.b2.bel (Nat.le_refl _)) b (by have := H8.out; omega)
    simp only [Option.some.injEq, Addr.mk.injEq, and_true] at hq1
    obtain ⟨rfl, rfl⟩ := hq1
    have i2 : (b : Int) < 8 := by omega
    obtain ⟨rb, hrb⟩ : ∃ r, r = l.getD b 0 := ⟨_, rfl⟩
    have HRB := hid hrb
    rw [← hrb] at rb0
    clear hrb
    have na := n32_iff.1 (HNN.out _ (in_mem (show a < l.length by have := H8.out; omega)))
    have nb := n32_iff.1 (HNN.out _ (in_mem (show b < l.length by have := H8.out; omega)))
    rw [← HRA.out] at na
    rw [← HRB.out] at nb
    have hsw : IntKind.i64.wrap (ra + rb) = ra + rb := sum_add na nb
    have hsw2 : wrap64 (ra + rb) = ra + rb := by rw [← IntWalk.i64_left]; exact hsw
    have HRD := hid (fun w => round_any (ra + rb) w)
    clear na nb
    clear hra hq2 hq2'
    go_upto_region 18 with (go_at_call 33; refine (HBT.out _).mono ?_; rintro e w' ⟨rfl, hww⟩; replace hww := hww.symm; subst hww)
    refine wp_region_still_tail 8 mixd (by kernel_rfl) ?_
    simp only [List.take_succ_cons, List.take_zero, List.drop_succ_cons, List.drop_zero]
    have hdr : ({ W1 with drawn := W1.drawn + 1 } : World) = W1.drew := rfl
    rw [hdr]
    clear hdr
    repeat still_step
    still_call (HRD.out _)
    refine wpStill_nil ?_
    go_upto_region 37 with fail
    have HM3 : Hid (Mo w (W1.setCell ⟨g, a, none⟩ (.int .i64 (ar (ra + rb)))).drew (vmC k (.slice (some ⟨qb, qo, none⟩) 8 rc) false false) bx g cap ⟨(k : Int) + 1, l.set a (ar (ra + rb)), false, false⟩) := (HM1.out.setReg a _).drew
    generalize (W1.setCell ⟨g, a, none⟩ (.int .i64 (ar (ra + rb)))).drew = W3 at *
    obtain ⟨x0, x1, x2, x3⟩ := HM3.out.c
    simp only at x0 x1 x2 x3
    obtain ⟨r0, r1, r2, r3⟩ := HM3.out.r
    have s0 := HM3.out.rf 0
    have s1 := HM3.out.rf 1
    have s2 := HM3.out.rf 2
    have s3 := HM3.out.rf 3
    have nr1 : ¬ bx = w.heap.size + 1 := by have := HM3.out.ge; omega
    have nr2 : ¬ w.heap.size + 1 = bx := by have := HM3.out.ge; omega
    go_wp2_with fail
    have HE := hid HM3.out.ret
    simp only [retW, st4] at HE
    (try simp only [Exit.inBlock, Exit.then])
    refine bodyPost_ret (by simp [results, Try.results35]; rw [as_addr, Result.andThen_ok, HE.out.1, Result.andThen_ok]) rfl ?_
    exact ⟨⟨_, _, _, rfl, (by have qq := HE.out.2.1; rw [HRA.out, HRB.out] at qq; exact qq), .inl ⟨rfl, rfl⟩⟩, HE.out.2.2⟩
set_option maxRecDepth 20000 in
set_option maxHeartbeats 3200000 in
theorem once_4 (hp : Iss w pa p) (hpl : p.length ≤ maxLen) (hr : Row w (some q) l) (h8 : l.length = 8) (hn : ∀ x ∈ l, n32 x = true) (hi : Row w ia i) (hil : i.length ≤ maxLen) (hk100 : k ≤ 100) (a : Nat) (b : Nat) (hk : k < p.length) (ha : a < 8) (hx : p.getD k zIs = (4, (a : Int), (b : Int))) (hb : b < 8) :
    Calls Try.prog 35 #[.slice pa p.length pcap, .agg (vmC k (.slice (some q) 8 rc) false false), .slice ia i.length ic] w (OnceR w ⟨(k : Int) + 1, l.set a (ar (l.getD a 0 - l.getD b 0)), false, false⟩ [] 0) := by
  obtain ⟨qb, qo, hq, hql, _⟩ := Row.at hr 0 (by omega)
  simp only [Option.some.injEq] at hq
  subst hq
  have HR := hid hr
  have HI := hid hi
  have HP := hid hp
  have HNN := hid hn
  have H8 := hid h8
  have HCL := hid (fun V (hb : Below w.heap.size w V) => (by have := cloneIL_some ⟨qb, qo, none⟩ rc l V (Row.below hr hb (Nat.le_refl _)) (by rw [h8]; unfold maxLen; decide) (by rw [h8]; decide); rwa [h8] at this : Calls Try.prog 20 #[.slice (some ⟨qb, qo, none⟩) 8 rc] V fun e w' => (∃ v, e = .returned v ∧ OwnI w' V.heap.size v l) ∧ Below V.heap.size V w'))
  have hw2 : wrap64 ((k : Int) + 1) = (k : Int) + 1 := by unfold wrap64; omega
  have hw : IntKind.i64.wrap ((k : Int) + 1) = (k : Int) + 1 := by rw [IntWalk.i64_left]; exact hw2
  unfold maxLen at hpl hil
  clear hr hi hp h8 hql hn
  go_enter Try.func35, Try.ntmps35
  go_upto_region 3 with fail
  have HX := hid (B2.start w (vmC k (.slice (some ⟨qb, qo, none⟩) 8 rc) false false) zV 25 25)
  have hs := B2.size HX.out
  have y0 := HX.out.c0 0
  have y1 := HX.out.c0 1
  have e0 : (vmC k (.slice (some ⟨qb, qo, none⟩) 8 rc) false false)[0]? = some (.int .i64 k) := rfl
  have e1 : (vmC k (.slice (some ⟨qb, qo, none⟩) 8 rc) false false)[1]? = some (.slice (some ⟨qb, qo, none⟩) 8 rc) := rfl
  rw [e0] at y0
  rw [e1] at y1
  clear e0 e1
  generalize (w.alloc (.cells (vmC k (.slice (some ⟨qb, qo, none⟩) 8 rc) false false) 25)).alloc (.cells zV 25) = W0 at *
  have hs1 : w.heap.size < W0.heap.size := by omega
  have nz1 : ¬ w.heap.size = W0.heap.size := by omega
  have nz2 : ¬ W0.heap.size = w.heap.size := by omega
  go_cut [10] from 14 to 167 (fun v10 wc => ∃ bx g cap, v10 = .pointer (some ⟨bx, 0, none⟩) ∧ Hid (Mo w wc (vmC k (.slice (some ⟨qb, qo, none⟩) 8 rc) false false) bx g cap ⟨k + 1, l, false, false⟩))
  case first =>
    go_region_held3 (fun V => V.cell? ⟨w.heap.size, 0, none⟩ = some (.int .i64 k) ∧ V.cell? ⟨w.heap.size, 1, none⟩ = some (.slice (some ⟨qb, qo, none⟩) 8 rc)) (go_keep)
      (first
        | (go_at_call 20
           refine (HCL.out _ ?_).mono ?_
           · exact HX.out.bel.drew
           rintro e w5 ⟨⟨v5, rfl, ho5⟩, hb5⟩
           have hb5' : Below W0.heap.size W0 w5 := (Below.refl _ _).drew.trans hb5
           obtain ⟨g5, cap5, rfl⟩ := own8 ho5 H8.out
           have HX5 := hid (HX.out.step hb5')
           have HO5 := hid ho5
           have z0 := (hb5'.cell hs1).trans y0
           have z1 := (hb5'.cell hs1).trans y1
           clear ho5 hb5 hb5')
        | (go_at_call 20
           refine (HCL.out _ ?_).mono ?_
           · exact (HX.out.bel.alloc HX.out.bel.size _).drew
           rintro e w5 ⟨⟨v5, rfl, ho5⟩, hb5⟩
           have hb5' : Below W0.heap.size W0 w5 := (((Below.refl _ _).alloc (Nat.le_refl _) _).drew).trans (hb5.mono (by simp))
           have hn5 : w5.heap[W0.heap.size]? = some (.cells zV 25) := (hb5.block W0.heap.size (by simp)).trans (heap_alloc_new W0 _)
           obtain ⟨g5, cap5, rfl⟩ := own8 ho5 H8.out
           have HX5 := hid (HX.out.step hb5')
           have HN5 := hid hn5
           have HO5 := hid ho5
           have z0 := (hb5'.cell hs1).trans y0
           have z1 := (hb5'.cell hs1).trans y1
           have n0 := froz_box hn5 0
           have n1 := froz_box hn5 1
           have n2 := froz_box hn5 2
           have n3 := froz_box hn5 3
           have m0 := box_cell hn5 0
           have m1 := box_cell hn5 1
           have m2 := box_cell hn5 2
           have m3 := box_cell hn5 3
           simp at m0 m1 m2 m3
           clear ho5 hb5 hb5' hn5))
    all_goals (go_wp2_with fail)
    all_goals go_meet
    · exact ⟨_, _, _, rfl, ⟨HX5.out.step ((Below.refl _ _).alloc (Nat.le_refl _) _), box_new _ _ _, OwnI.below (OwnI.base' HO5.out (by simp; omega)) ((Below.refl _ _).alloc (Nat.le_refl _) _) (Nat.le_refl _), HX5.out.size, H8.out⟩⟩
    · exact ⟨_, _, _, rfl, ⟨⟨st4_below HX5.out.b hs⟩, st4_heap HN5.out, st4_own _ _ _ _ (OwnI.base' HO5.out (by simp; omega)) HN5.out (by decide), hs, H8.out⟩⟩
  case rest =>
    obtain ⟨bx, g, cap, rfl, HM⟩ := hcut
    clear hs hs1 nz1 nz2 y0 y1 HCL HX
    have v0 := HM.out.b2.c0 0
    have e0 : (vmC k (.slice (some ⟨qb, qo, none⟩) 8 rc) false false)[0]? = some (.int .i64 k) := rfl
    rw [e0] at v0
    clear e0
    have gk : ((k : Int) == (p.length : Int)) = false := by simp; omega
    have ik : (k : Int) < (p.length : Int) := by omega
    obtain ⟨pb, po, rfl, hpb, c0, c1, c2⟩ := (HP.out.below HM.out.b2.bel (Nat.le_refl _)).at k hk
    rw [show p.getD k zIs = (4, (a : Int), (b : Int)) from hx] at c0 c1 c2
    simp only at c0 c1 c2
    have HBT := hid (fun w => (by have := rbtw_any 4 2 5 w; rwa [show decide ((2 : Int) ≤ 4 ∧ (4 : Int) ≤ 5) = true from by decide] at this : Calls Try.prog 33 #[.int .i64 4, .int .i64 2, .int .i64 5] w fun e w' => e = .returned (.bool true) ∧ w' = w))
    go_upto_region 8 with fail
    have HM1 := hid (HM.out.alloc (.cells #[.int .i64 4, .int .i64 a, .int .i64 b] 45))
    have bb := box_new wc #[.int .i64 4, .int .i64 a, .int .i64 b] 45
    have hbl : wc.heap.size < (wc.alloc (.cells #[.int .i64 4, .int .i64 a, .int .i64 b] 45)).heap.size := by rw [World.size_alloc]; omega
    have hbn : w.heap.size + 2 ≤ wc.heap.size := HM.out.b2.size
    have nbx : ¬ bx = wc.heap.size := by have := HM.out.lt; omega
    have ngx : ¬ g = wc.heap.size := by have := HM.out.row; omega
    clear v0 c0 c1 c2 hpb
    generalize (wc.alloc (.cells #[.int .i64 4, .int .i64 a, .int .i64 b] 45)) = W1 at *
    generalize wc.heap.size = bn at *
    have b0 : W1.cell? ⟨bn, 0, none⟩ = some (.int .i64 4) := box_cell bb 0
    have b1 : W1.cell? ⟨bn, 1, none⟩ = some (.int .i64 a) := box_cell bb 1
    have b2 : W1.cell? ⟨bn, 2, none⟩ = some (.int .i64 b) := box_cell bb 2
    have HBB := hid bb
    clear bb
    have v0 := HM1.out.b2.c0 0
    have v1 := HM1.out.b2.c0 1
    have e0 : (vmC k (.slice (some ⟨qb, qo, none⟩) 8 rc) false false)[0]? = some (.int .i64 k) := rfl
    have e1 : (vmC k (.slice (some ⟨qb, qo, none⟩) 8 rc) false false)[1]? = some (.slice (some ⟨qb, qo, none⟩) 8 rc) := rfl
    rw [e0] at v0
    rw [e1] at v1
    clear e0 e1
    obtain ⟨qb', qo', hq1, hq2, ra0⟩ := Row.at (Row.below HR.out HM1.out.b2.bel (Nat.le_refl _)) a (by have := H8.out; omega)
    simp only [Option.some.injEq, Addr.mk.injEq, and_true] at hq1
    obtain ⟨rfl, rfl⟩ := hq1
    obtain ⟨d0, d1, d2, d3⟩ := HM1.out.c
    have ga := HM1.out.gc a ha
    have gf := HM1.out.gf a
    have k0 := HM1.out.bf 0
    have k2 := HM1.out.bf 2
    have i1 : (a : Int) < 8 := by omega
    have hgne := HM1.out.ne
    simp only at ga
    obtain ⟨ra, hra⟩ : ∃ r, r = l.getD a 0 := ⟨_, rfl⟩
    have HRA := hid hra
    rw [← hra] at ra0 ga
    obtain ⟨qb', qo', hq1, hq2', rb0⟩ := Row.at (Row.below HR.out HM1.out.b2.bel (Nat.le_refl _)) b (by have := H8.out; omega)
    simp only [Option.some.injEq, Addr.mk.injEq, and_true] at hq1
    obtain ⟨rfl, rfl⟩ := hq1
    have i2 : (b : Int) < 8 := by omega
    obtain ⟨rb, hrb⟩ : ∃ r, r = l.getD b 0 := ⟨_, rfl⟩
    have HRB := hid hrb
    rw [← hrb] at rb0
    clear hrb
    have na := n32_iff.1 (HNN.out _ (in_mem (show a < l.length by have := H8.out; omega)))
    have nb := n32_iff.1 (HNN.out _ (in_mem (show b < l.length by have := H8.out; omega)))
    rw [← HRA.out] at na
    rw [← HRB.out] at nb
    have hsw : IntKind.i64.wrap (ra - rb) = ra - rb := sum_sub na nb
    have hsw2 : wrap64 (ra - rb) = ra - rb := by rw [← IntWalk.i64_left]; exact hsw
    have HRD := hid (fun w => round_any (ra - rb) w)
    clear na nb
    clear hra hq2 hq2'
    go_upto_region 20 with (go_at_call 33; refine (HBT.out _).mono ?_; rintro e w' ⟨rfl, hww⟩; replace hww := hww.symm; subst hww)
    refine wp_region_still_tail 8 mixd (by kernel_rfl) ?_
    simp only [List.take_succ_cons, List.take_zero, List.drop_succ_cons, List.drop_zero]
    have hdr : ({ W1 with drawn := W1.drawn + 1 } : World) = W1.drew := rfl
    rw [hdr]
    clear hdr
    repeat still_step
    still_call (HRD.out _)
    refine wpStill_nil ?_
    go_upto_region 37 with fail
    have HM3 : Hid (Mo w (W1.setCell ⟨g, a, none⟩ (.int .i64 (ar (ra - rb)))).drew (vmC k (.slice (some ⟨qb, qo, none⟩) 8 rc) false false) bx g cap ⟨(k : Int) + 1, l.set a (ar (ra - rb)), false, false⟩) := (HM1.out.setReg a _).drew
    generalize (W1.setCell ⟨g, a, none⟩ (.int .i64 (ar (ra - rb)))).drew = W3 at *
    obtain ⟨x0, x1, x2, x3⟩ := HM3.out.c
    simp only at x0 x1 x2 x3
    obtain ⟨r0, r1, r2, r3⟩ := HM3.out.r
    have s0 := HM3.out.rf 0
    have s1 := HM3.out.rf 1
    have s2 := HM3.out.rf 2
    have s3 := HM3.out.rf 3
    have nr1 : ¬ bx = w.heap.size + 1 := by have := HM3.out.ge; omega
    have nr2 : ¬ w.heap.size + 1 = bx := by have := HM3.out.ge; omega
    go_wp2_with fail
    have HE := hid HM3.out.ret
    simp only [retW, st4] at HE
    (try simp only [Exit.inBlock, Exit.then])
    refine bodyPost_ret (by simp [results, Try.results35]; rw [as_addr, Result.andThen_ok, HE.out.1, Result.andThen_ok]) rfl ?_
    exact ⟨⟨_, _, _, rfl, (by have qq := HE.out.2.1; rw [HRA.out, HRB.out] at qq; exact qq), .inl ⟨rfl, rfl⟩⟩, HE.out.2.2⟩
set_option maxRecDepth 20000 in
set_option maxHeartbeats 3200000 in
theorem once_5 (hp : Iss w pa p) (hpl : p.length ≤ maxLen) (hr : Row w (some q) l) (h8 : l.length = 8) (hn : ∀ x ∈ l, n32 x = true) (hi : Row w ia i) (hil : i.length ≤ maxLen) (hk100 : k ≤ 100) (a : Nat) (b : Nat) (hk : k < p.length) (ha : a < 8) (hx : p.getD k zIs = (5, (a : Int), (b : Int))) (hb : b < 8) :
    Calls Try.prog 35 #[.slice pa p.length pcap, .agg (vmC k (.slice (some q) 8 rc) false false), .slice ia i.length ic] w (OnceR w ⟨(k : Int) + 1, l.set a (ar (l.getD a 0 * l.getD b 0)), false, false⟩ [] 0) := by
  obtain ⟨qb, qo, hq, hql, _⟩ := Row.at hr 0 (by omega)
  simp only [Option.some.injEq] at hq
  subst hq
  have HR := hid hr
  have HI := hid hi
  have HP := hid hp
  have HNN := hid hn
  have H8 := hid h8
  have HCL := hid (fun V (hb : Below w.heap.size w V) => (by have := cloneIL_some ⟨qb, qo, none⟩ rc l V (Row.below hr hb (Nat.le_refl _)) (by rw [h8]; unfold maxLen; decide) (by rw [h8]; decide); rwa [h8] at this : Calls Try.prog 20 #[.slice (some ⟨qb, qo, none⟩) 8 rc] V fun e w' => (∃ v, e = .returned v ∧ OwnI w' V.heap.size v l) ∧ Below V.heap.size V w'))
  have hw2 : wrap64 ((k : Int) + 1) = (k : Int) + 1 := by unfold wrap64; omega
  have hw : IntKind.i64.wrap ((k : Int) + 1) = (k : Int) + 1 := by rw [IntWalk.i64_left]; exact hw2
  unfold maxLen at hpl hil
  clear hr hi hp h8 hql hn
  go_enter Try.func35, Try.ntmps35
  go_upto_region 3 with fail
  have HX := hid (B2.start w (vmC k (.slice (some ⟨qb, qo, none⟩) 8 rc) false false) zV 25 25)
  have hs := B2.size HX.out
  have y0 := HX.out.c0 0
  have y1 := HX.out.c0 1
  have e0 : (vmC k (.slice (some ⟨qb, qo, none⟩) 8 rc) false false)[0]? = some (.int .i64 k) := rfl
  have e1 : (vmC k (.slice (some ⟨qb, qo, none⟩) 8 rc) false false)[1]? = some (.slice (some ⟨qb, qo, none⟩) 8 rc) := rfl
  rw [e0] at y0
  rw [e1] at y1
  clear e0 e1
  generalize (w.alloc (.cells (vmC k (.slice (some ⟨qb, qo, none⟩) 8 rc) false false) 25)).alloc (.cells zV 25) = W0 at *
  have hs1 : w.heap.size < W0.heap.size := by omega
  have nz1 : ¬ w.heap.size = W0.heap.size := by omega
  have nz2 : ¬ W0.heap.size = w.heap.size := by omega
  go_cut [10] from 14 to 167 (fun v10 wc => ∃ bx g cap, v10 = .pointer (some ⟨bx, 0, none⟩) ∧ Hid (Mo w wc (vmC k (.slice (some ⟨qb, qo, none⟩) 8 rc) false false) bx g cap ⟨k + 1, l, false, false⟩))
  case first =>
    go_region_held3 (fun V => V.cell? ⟨w.heap.size, 0, none⟩ = some (.int .i64 k) ∧ V.cell? ⟨w.heap.size, 1, none⟩ = some (.slice (some ⟨qb, qo, none⟩) 8 rc)) (go_keep)
      (first
        | (go_at_call 20
           refine (HCL.out _ ?_).mono ?_
           · exact HX.out.bel.drew
           rintro e w5 ⟨⟨v5, rfl, ho5⟩, hb5⟩
           have hb5' : Below W0.heap.size W0 w5 := (Below.refl _ _).drew.trans hb5
           obtain ⟨g5, cap5, rfl⟩ := own8 ho5 H8.out
           have HX5 := hid (HX.out.step hb5')
           have HO5 := hid ho5
           have z0 := (hb5'.cell hs1).trans y0
           have z1 := (hb5'.cell hs1).trans y1
           clear ho5 hb5 hb5')
        | (go_at_call 20
           refine (HCL.out _ ?_).mono ?_
           · exact (HX.out.bel.alloc HX.out.bel.size _).drew
           rintro e w5 ⟨⟨v5, rfl, ho5⟩, hb5⟩
           have hb5' : Below W0.heap.size W0 w5 := (((Below.refl _ _).alloc (Nat.le_refl _) _).drew).trans (hb5.mono (by simp))
           have hn5 : w5.heap[W0.heap.size]? = some (.cells zV 25) := (hb5.block W0.heap.size (by simp)).trans (heap_alloc_new W0 _)
           obtain ⟨g5, cap5, rfl⟩ := own8 ho5 H8.out
           have HX5 := hid (HX.out.step hb5')
           have HN5 := hid hn5
           have HO5 := hid ho5
           have z0 := (hb5'.cell hs1).trans y0
           have z1 := (hb5'.cell hs1).trans y1
           have n0 := froz_box hn5 0
           have n1 := froz_box hn5 1
           have n2 := froz_box hn5 2
           have n3 := froz_box hn5 3
           have m0 := box_cell hn5 0
           have m1 := box_cell hn5 1
           have m2 := box_cell hn5 2
           have m3 := box_cell hn5 3
           simp at m0 m1 m2 m3
           clear ho5 hb5 hb5' hn5))
    all_goals (go_wp2_with fail)
    all_goals go_meet
    · exact ⟨_, _, _, rfl, ⟨HX5.out.step ((Below.refl _ _).alloc (Nat.le_refl _) _), box_new _ _ _, OwnI.below (OwnI.base' HO5.out (by simp; omega)) ((Below.refl _ _).alloc (Nat.le_refl _) _) (Nat.le_refl _), HX5.out.size, H8.out⟩⟩
    · exact ⟨_, _, _, rfl, ⟨⟨st4_below HX5.out.b hs⟩, st4_heap HN5.out, st4_own _ _ _ _ (OwnI.base' HO5.out (by simp; omega)) HN5.out (by decide), hs, H8.out⟩⟩
  case rest =>
    obtain ⟨bx, g, cap, rfl, HM⟩ := hcut
    clear hs hs1 nz1 nz2 y0 y1 HCL HX
    have v0 := HM.out.b2.c0 0
    have e0 : (vmC k (.slice (some ⟨qb, qo, none⟩) 8 rc) false false)[0]? = some (.int .i64 k) := rfl
    rw [e0] at v0
    clear e0
    have gk : ((k : Int) == (p.length : Int)) = false := by simp; omega
    have ik : (k : Int) < (p.length : Int) := by omega
    obtain ⟨pb, po, rfl, hpb, c0, c1, c2⟩ := (HP.out.below HM.out.b2.bel (Nat.le_refl _)).at k hk
    rw [show p.getD k zIs = (5, (a : Int), (b : Int)) from hx] at c0 c1 c2
    simp only at c0 c1 c2
    have HBT := hid (fun w => (by have := rbtw_any 5 2 5 w; rwa [show decide ((2 : Int) ≤ 5 ∧ (5 : Int) ≤ 5) = true from by decide] at this : Calls Try.prog 33 #[.int .i64 5, .int .i64 2, .int .i64 5] w fun e w' => e = .returned (.bool true) ∧ w' = w))
    go_upto_region 8 with fail
    have HM1 := hid (HM.out.alloc (.cells #[.int .i64 5, .int .i64 a, .int .i64 b] 45))
    have bb := box_new wc #[.int .i64 5, .int .i64 a, .int .i64 b] 45
    have hbl : wc.heap.size < (wc.alloc (.cells #[.int .i64 5, .int .i64 a, .int .i64 b] 45)).heap.size := by rw [World.size_alloc]; omega
    have hbn : w.heap.size + 2 ≤ wc.heap.size := HM.out.b2.size
    have nbx : ¬ bx = wc.heap.size := by have := HM.out.lt; omega
    have ngx : ¬ g = wc.heap.size := by have := HM.out.row; omega
    clear v0 c0 c1 c2 hpb
    generalize (wc.alloc (.cells #[.int .i64 5, .int .i64 a, .int .i64 b] 45)) = W1 at *
    generalize wc.heap.size = bn at *
    have b0 : W1.cell? ⟨bn, 0, none⟩ = some (.int .i64 5) := box_cell bb 0
    have b1 : W1.cell? ⟨bn, 1, none⟩ = some (.int .i64 a) := box_cell bb 1
    have b2 : W1.cell? ⟨bn, 2, none⟩ = some (.int .i64 b) := box_cell bb 2
    have HBB := hid bb
    clear bb
    have v0 := HM1.out.b2.c0 0
    have v1 := HM1.out.b2.c0 1
    have e0 : (vmC k (.slice (some ⟨qb, qo, none⟩) 8 rc) false false)[0]? = some (.int .i64 k) := rfl
    have e1 : (vmC k (.slice (some ⟨qb, qo, none⟩) 8 rc) false false)[1]? = some (.slice (some ⟨qb, qo, none⟩) 8 rc) := rfl
    rw [e0] at v0
    rw [e1] at v1
    clear e0 e1
    obtain ⟨qb', qo', hq1, hq2, ra0⟩ := Row.at (Row.below HR.out HM1.out.b2.bel (Nat.le_refl _)) a (by have := H8.out; omega)
    simp only [Option.some.injEq, Addr.mk.injEq, and_true] at hq1
    obtain ⟨rfl, rfl⟩ := hq1
    obtain ⟨d0, d1, d2, d3⟩ := HM1.out.c
    have ga := HM1.out.gc a ha
    have gf := HM1.out.gf a
    have k0 := HM1.out.bf 0
    have k2 := HM1.out.bf 2
    have i1 : (a : Int) < 8 := by omega
    have hgne := HM1.out.ne
    simp only at ga
    obtain ⟨ra, hra⟩ : ∃ r, r = l.getD a 0 := ⟨_, rfl⟩
    have HRA := hid hra
    rw [← hra] at ra0 ga
    obtain ⟨qb', qo', hq1, hq2', rb0⟩ := Row.at (Row.below HR.out HM1.out.b2.bel (Nat.le_refl _)) b (by have := H8.out; omega)
    simp only [Option.some.injEq, Addr.mk.injEq, and_true] at hq1
    obtain ⟨rfl, rfl⟩ := hq1
    have i2 : (b : Int) < 8 := by omega
    obtain ⟨rb, hrb⟩ : ∃ r, r = l.getD b 0 := ⟨_, rfl⟩
    have HRB := hid hrb
    rw [← hrb] at rb0
    clear hrb
    have na := n32_iff.1 (HNN.out _ (in_mem (show a < l.length by have := H8.out; omega)))
    have nb := n32_iff.1 (HNN.out _ (in_mem (show b < l.length by have := H8.out; omega)))
    rw [← HRA.out] at na
    rw [← HRB.out] at nb
    have hsw : IntKind.i64.wrap (ra * rb) = ra * rb := sum_mul na nb
    have hsw2 : wrap64 (ra * rb) = ra * rb := by rw [← IntWalk.i64_left]; exact hsw
    have HRD := hid (fun w => round_any (ra * rb) w)
    clear na nb
    clear hra hq2 hq2'
    go_upto_region 22 with (go_at_call 33; refine (HBT.out _).mono ?_; rintro e w' ⟨rfl, hww⟩; replace hww := hww.symm; subst hww)
    refine wp_region_still_tail 8 mixd (by kernel_rfl) ?_
    simp only [List.take_succ_cons, List.take_zero, List.drop_succ_cons, List.drop_zero]
    have hdr : ({ W1 with drawn := W1.drawn + 1 } : World) = W1.drew := rfl
    rw [hdr]
    clear hdr
    repeat still_step
    still_call (HRD.out _)
    refine wpStill_nil ?_
    go_upto_region 37 with fail
    have HM3 : Hid (Mo w (W1.setCell ⟨g, a, none⟩ (.int .i64 (ar (ra * rb)))).drew (vmC k (.slice (some ⟨qb, qo, none⟩) 8 rc) false false) bx g cap ⟨(k : Int) + 1, l.set a (ar (ra * rb)), false, false⟩) := (HM1.out.setReg a _).drew
    generalize (W1.setCell ⟨g, a, none⟩ (.int .i64 (ar (ra * rb)))).drew = W3 at *
    obtain ⟨x0, x1, x2, x3⟩ := HM3.out.c
    simp only at x0 x1 x2 x3
    obtain ⟨r0, r1, r2, r3⟩ := HM3.out.r
    have s0 := HM3.out.rf 0
    have s1 := HM3.out.rf 1
    have s2 := HM3.out.rf 2
    have s3 := HM3.out.rf 3
    have nr1 : ¬ bx = w.heap.size + 1 := by have := HM3.out.ge; omega
    have nr2 : ¬ w.heap.size + 1 = bx := by have := HM3.out.ge; omega
    go_wp2_with fail
    have HE := hid HM3.out.ret
    simp only [retW, st4] at HE
    (try simp only [Exit.inBlock, Exit.then])
    refine bodyPost_ret (by simp [results, Try.results35]; rw [as_addr, Result.andThen_ok, HE.out.1, Result.andThen_ok]) rfl ?_
    exact ⟨⟨_, _, _, rfl, (by have qq := HE.out.2.1; rw [HRA.out, HRB.out] at qq; exact qq), .inl ⟨rfl, rfl⟩⟩, HE.out.2.2⟩
set_option maxRecDepth 20000 in
set_option maxHeartbeats 3200000 in
theorem once_6 (hp : Iss w pa p) (hpl : p.length ≤ maxLen) (hr : Row w (some q) l) (h8 : l.length = 8) (hn : ∀ x ∈ l, n32 x = true) (hi : Row w ia i) (hil : i.length ≤ maxLen) (hk100 : k ≤ 100) (a : Nat) (b : Int) (hk : k < p.length) (ha : a < 8) (hx : p.getD k zIs = (6, (a : Int), (b : Int))) :
    Calls Try.prog 35 #[.slice pa p.length pcap, .agg (vmC k (.slice (some q) 8 rc) false false), .slice ia i.length ic] w (OnceR w ⟨b, l, false, false⟩ [] 0) := by
  obtain ⟨qb, qo, hq, hql, _⟩ := Row.at hr 0 (by omega)
  simp only [Option.some.injEq] at hq
  subst hq
  have HR := hid hr
  have HI := hid hi
  have HP := hid hp
  have HNN := hid hn
  have H8 := hid h8
  have HCL := hid (fun V (hb : Below w.heap.size w V) => (by have := cloneIL_some ⟨qb, qo, none⟩ rc l V (Row.below hr hb (Nat.le_refl _)) (by rw [h8]; unfold maxLen; decide) (by rw [h8]; decide); rwa [h8] at this : Calls Try.prog 20 #[.slice (some ⟨qb, qo, none⟩) 8 rc] V fun e w' => (∃ v, e = .returned v ∧ OwnI w' V.heap.size v l) ∧ Below V.heap.size V w'))
  have hw2 : wrap64 ((k : Int) + 1) = (k : Int) + 1 := by unfold wrap64; omega
  have hw : IntKind.i64.wrap ((k : Int) + 1) = (k : Int) + 1 := by rw [IntWalk.i64_left]; exact hw2
  unfold maxLen at hpl hil
  clear hr hi hp h8 hql hn
  go_enter Try.func35, Try.ntmps35
  go_upto_region 3 with fail
  have HX := hid (B2.start w (vmC k (.slice (some ⟨qb, qo, none⟩) 8 rc) false false) zV 25 25)
  have hs := B2.size HX.out
  have y0 := HX.out.c0 0
  have y1 := HX.out.c0 1
  have e0 : (vmC k (.slice (some ⟨qb, qo, none⟩) 8 rc) false false)[0]? = some (.int .i64 k) := rfl
  have e1 : (vmC k (.slice (some ⟨qb, qo, none⟩) 8 rc) false false)[1]? = some (.slice (some ⟨qb, qo, none⟩) 8 rc) := rfl
  rw [e0] at y0
  rw [e1] at y1
  clear e0 e1
  generalize (w.alloc (.cells (vmC k (.slice (some ⟨qb, qo, none⟩) 8 rc) false false) 25)).alloc (.cells zV 25) = W0 at *
  have hs1 : w.heap.size < W0.heap.size := by omega
  have nz1 : ¬ w.heap.size = W0.heap.size := by omega
  have nz2 : ¬ W0.heap.size = w.heap.size := by omega
  go_cut [10] from 14 to 167 (fun v10 wc => ∃ bx g cap, v10 = .pointer (some ⟨bx, 0, none⟩) ∧ Hid (Mo w wc (vmC k (.slice (some ⟨qb, qo, none⟩) 8 rc) false false) bx g cap ⟨k + 1, l, false, false⟩))
  case first =>
    go_region_held3 (fun V => V.cell? ⟨w.heap.size, 0, none⟩ = some (.int .i64 k) ∧ V.cell? ⟨w.heap.size, 1, none⟩ = some (.slice (some ⟨qb, qo, none⟩) 8 rc)) (go_keep)
      (first
        | (go_at_call 20
           refine (HCL.out _ ?_).mono ?_
           · exact HX.out.bel.drew
           rintro e w5 ⟨⟨v5, rfl, ho5⟩, hb5⟩
           have hb5' : Below W0.heap.size W0 w5 := (Below.refl _ _).drew.trans hb5
           obtain ⟨g5, cap5, rfl⟩ := own8 ho5 H8.out
           have HX5 := hid (HX.out.step hb5')
           have HO5 := hid ho5
           have z0 := (hb5'.cell hs1).trans y0
           have z1 := (hb5'.cell hs1).trans y1
           clear ho5 hb5 hb5')
        | (go_at_call 20
           refine (HCL.out _ ?_).mono ?_
           · exact (HX.out.bel.alloc HX.out.bel.size _).drew
           rintro e w5 ⟨⟨v5, rfl, ho5⟩, hb5⟩
           have hb5' : Below W0.heap.size W0 w5 := (((Below.refl _ _).alloc (Nat.le_refl _) _).drew).trans (hb5.mono (by simp))
           have hn5 : w5.heap[W0.heap.size]? = some (.cells zV 25) := (hb5.block W0.heap.size (by simp)).trans (heap_alloc_new W0 _)
           obtain ⟨g5, cap5, rfl⟩ := own8 ho5 H8.out
           have HX5 := hid (HX.out.step hb5')
           have HN5 := hid hn5
           have HO5 := hid ho5
           have z0 := (hb5'.cell hs1).trans y0
           have z1 := (hb5'.cell hs1).trans y1
           have n0 := froz_box hn5 0
           have n1 := froz_box hn5 1
           have n2 := froz_box hn5 2
           have n3 := froz_box hn5 3
           have m0 := box_cell hn5 0
           have m1 := box_cell hn5 1
           have m2 := box_cell hn5 2
           have m3 := box_cell hn5 3
           simp at m0 m1 m2 m3
           clear ho5 hb5 hb5' hn5))
    all_goals (go_wp2_with fail)
    all_goals go_meet
    · exact ⟨_, _, _, rfl, ⟨HX5.out.step ((Below.refl _ _).alloc (Nat.le_refl _) _), box_new _ _ _, OwnI.below (OwnI.base' HO5.out (by simp; omega)) ((Below.refl _ _).alloc (Nat.le_refl _) _) (Nat.le_refl _), HX5.out.size, H8.out⟩⟩
    · exact ⟨_, _, _, rfl, ⟨⟨st4_below HX5.out.b hs⟩, st4_heap HN5.out, st4_own _ _ _ _ (OwnI.base' HO5.out (by simp; omega)) HN5.out (by decide), hs, H8.out⟩⟩
  case rest =>
    obtain ⟨bx, g, cap, rfl, HM⟩ := hcut
    clear hs hs1 nz1 nz2 y0 y1 HCL HX
    have v0 := HM.out.b2.c0 0
    have e0 : (vmC k (.slice (some ⟨qb, qo, none⟩) 8 rc) false false)[0]? = some (.int .i64 k) := rfl
    rw [e0] at v0
    clear e0
    have gk : ((k : Int) == (p.length : Int)) = false := by simp; omega
    have ik : (k : Int) < (p.length : Int) := by omega
    obtain ⟨pb, po, rfl, hpb, c0, c1, c2⟩ := (HP.out.below HM.out.b2.bel (Nat.le_refl _)).at k hk
    rw [show p.getD k zIs = (6, (a : Int), (b : Int)) from hx] at c0 c1 c2
    simp only at c0 c1 c2
    have HBT := hid (fun w => (by have := rbtw_any 6 2 5 w; rwa [show decide ((2 : Int) ≤ 6 ∧ (6 : Int) ≤ 5) = false from by decide] at this : Calls Try.prog 33 #[.int .i64 6, .int .i64 2, .int .i64 5] w fun e w' => e = .returned (.bool false) ∧ w' = w))
    go_upto_region 8 with fail
    have HM1 := hid (HM.out.alloc (.cells #[.int .i64 6, .int .i64 a, .int .i64 b] 45))
    have bb := box_new wc #[.int .i64 6, .int .i64 a, .int .i64 b] 45
    have hbl : wc.heap.size < (wc.alloc (.cells #[.int .i64 6, .int .i64 a, .int .i64 b] 45)).heap.size := by rw [World.size_alloc]; omega
    have hbn : w.heap.size + 2 ≤ wc.heap.size := HM.out.b2.size
    have nbx : ¬ bx = wc.heap.size := by have := HM.out.lt; omega
    have ngx : ¬ g = wc.heap.size := by have := HM.out.row; omega
    clear v0 c0 c1 c2 hpb
    generalize (wc.alloc (.cells #[.int .i64 6, .int .i64 a, .int .i64 b] 45)) = W1 at *
    generalize wc.heap.size = bn at *
    have b0 : W1.cell? ⟨bn, 0, none⟩ = some (.int .i64 6) := box_cell bb 0
    have b1 : W1.cell? ⟨bn, 1, none⟩ = some (.int .i64 a) := box_cell bb 1
    have b2 : W1.cell? ⟨bn, 2, none⟩ = some (.int .i64 b) := box_cell bb 2
    have HBB := hid bb
    clear bb
    have v0 := HM1.out.b2.c0 0
    have v1 := HM1.out.b2.c0 1
    have e0 : (vmC k (.slice (some ⟨qb, qo, none⟩) 8 rc) false false)[0]? = some (.int .i64 k) := rfl
    have e1 : (vmC k (.slice (some ⟨qb, qo, none⟩) 8 rc) false false)[1]? = some (.slice (some ⟨qb, qo, none⟩) 8 rc) := rfl
    rw [e0] at v0
    rw [e1] at v1
    clear e0 e1
    obtain ⟨qb', qo', hq1, hq2, ra0⟩ := Row.at (Row.below HR.out HM1.out.b2.bel (Nat.le_refl _)) a (by have := H8.out; omega)
    simp only [Option.some.injEq, Addr.mk.injEq, and_true] at hq1
    obtain ⟨rfl, rfl⟩ := hq1
    obtain ⟨d0, d1, d2, d3⟩ := HM1.out.c
    have ga := HM1.out.gc a ha
    have gf := HM1.out.gf a
    have k0 := HM1.out.bf 0
    have k2 := HM1.out.bf 2
    have i1 : (a : Int) < 8 := by omega
    have hgne := HM1.out.ne
    simp only at ga
    obtain ⟨ra, hra⟩ : ∃ r, r = l.getD a 0 := ⟨_, rfl⟩
    have HRA := hid hra
    rw [← hra] at ra0 ga
    clear hra hq2
    go_upto_region 37 with (go_at_call 33; refine (HBT.out _).mono ?_; rintro e w' ⟨rfl, hww⟩; replace hww := hww.symm; subst hww)
    have HM3 : Hid (Mo w (W1.setCell ⟨bx, 0, none⟩ (.int .i64 b)) (vmC k (.slice (some ⟨qb, qo, none⟩) 8 rc) false false) bx g cap ⟨b, l, false, false⟩) := HM1.out.setBox 0 (.int .i64 b) ⟨b, l, false, false⟩ rfl rfl
    generalize (W1.setCell ⟨bx, 0, none⟩ (.int .i64 b)) = W3 at *
    obtain ⟨x0, x1, x2, x3⟩ := HM3.out.c
    simp only at x0 x1 x2 x3
    obtain ⟨r0, r1, r2, r3⟩ := HM3.out.r
    have s0 := HM3.out.rf 0
    have s1 := HM3.out.rf 1
    have s2 := HM3.out.rf 2
    have s3 := HM3.out.rf 3
    have nr1 : ¬ bx = w.heap.size + 1 := by have := HM3.out.ge; omega
    have nr2 : ¬ w.heap.size + 1 = bx := by have := HM3.out.ge; omega
    go_wp2_with fail
    have HE := hid HM3.out.ret
    simp only [retW, st4] at HE
    (try simp only [Exit.inBlock, Exit.then])
    refine bodyPost_ret (by simp [results, Try.results35]; rw [as_addr, Result.andThen_ok, HE.out.1, Result.andThen_ok]) rfl ?_
    exact ⟨⟨_, _, _, rfl, HE.out.2.1, .inl ⟨rfl, rfl⟩⟩, HE.out.2.2⟩
set_option maxRecDepth 20000 in
set_option maxHeartbeats 3200000 in
theorem once_7 (hp : Iss w pa p) (hpl : p.length ≤ maxLen) (hr : Row w (some q) l) (h8 : l.length = 8) (hn : ∀ x ∈ l, n32 x = true) (hi : Row w ia i) (hil : i.length ≤ maxLen) (hk100 : k ≤ 100) (a : Nat) (b : Int) (hk : k < p.length) (ha : a < 8) (hx : p.getD k zIs = (7, (a : Int), (b : Int))) (hj : l.getD a 0 = 0) :
    Calls Try.prog 35 #[.slice pa p.length pcap, .agg (vmC k (.slice (some q) 8 rc) false false), .slice ia i.length ic] w (OnceR w ⟨b, l, false, false⟩ [] 0) := by
  obtain ⟨qb, qo, hq, hql, _⟩ := Row.at hr 0 (by omega)
  simp only [Option.some.injEq] at hq
  subst hq
  have HR := hid hr
  have HI := hid hi
  have HP := hid hp
  have HNN := hid hn
  have H8 := hid h8
  have HCL := hid (fun V (hb : Below w.heap.size w V) => (by have := cloneIL_some ⟨qb, qo, none⟩ rc l V (Row.below hr hb (Nat.le_refl _)) (by rw [h8]; unfold maxLen; decide) (by rw [h8]; decide); rwa [h8] at this : Calls Try.prog 20 #[.slice (some ⟨qb, qo, none⟩) 8 rc] V fun e w' => (∃ v, e = .returned v ∧ OwnI w' V.heap.size v l) ∧ Below V.heap.size V w'))
  have hw2 : wrap64 ((k : Int) + 1) = (k : Int) + 1 := by unfold wrap64; omega
  have hw : IntKind.i64.wrap ((k : Int) + 1) = (k : Int) + 1 := by rw [IntWalk.i64_left]; exact hw2
  unfold maxLen at hpl hil
  clear hr hi hp h8 hql hn
  go_enter Try.func35, Try.ntmps35
  go_upto_region 3 with fail
  have HX := hid (B2.start w (vmC k (.slice (some ⟨qb, qo, none⟩) 8 rc) false false) zV 25 25)
  have hs := B2.size HX.out
  have y0 := HX.out.c0 0
  have y1 := HX.out.c0 1
  have e0 : (vmC k (.slice (some ⟨qb, qo, none⟩) 8 rc) false false)[0]? = some (.int .i64 k) := rfl
  have e1 : (vmC k (.slice (some ⟨qb, qo, none⟩) 8 rc) false false)[1]? = some (.slice (some ⟨qb, qo, none⟩) 8 rc) := rfl
  rw [e0] at y0
  rw [e1] at y1
  clear e0 e1
  generalize (w.alloc (.cells (vmC k (.slice (some ⟨qb, qo, none⟩) 8 rc) false false) 25)).alloc (.cells zV 25) = W0 at *
  have hs1 : w.heap.size < W0.heap.size := by omega
  have nz1 : ¬ w.heap.size = W0.heap.size := by omega
  have nz2 : ¬ W0.heap.size = w.heap.size := by omega
  go_cut [10] from 14 to 167 (fun v10 wc => ∃ bx g cap, v10 = .pointer (some ⟨bx, 0, none⟩) ∧ Hid (Mo w wc (vmC k (.slice (some ⟨qb, qo, none⟩) 8 rc) false false) bx g cap ⟨k + 1, l, false, false⟩))
  case first =>
    go_region_held3 (fun V => V.cell? ⟨w.heap.size, 0, none⟩ = some (.int .i64 k) ∧ V.cell? ⟨w.heap.size, 1, none⟩ = some (.slice (some ⟨qb, qo, none⟩) 8 rc)) (go_keep)
      (first
        | (go_at_call 20
           refine (HCL.out _ ?_).mono ?_
           · exact HX.out.bel.drew
           rintro e w5 ⟨⟨v5, rfl, ho5⟩, hb5⟩
           have hb5' : Below W0.heap.size W0 w5 := (Below.refl _ _).drew.trans hb5
           obtain ⟨g5, cap5, rfl⟩ := own8 ho5 H8.out
           have HX5 := hid (HX.out.step hb5')
           have HO5 := hid ho5
           have z0 := (hb5'.cell hs1).trans y0
           have z1 := (hb5'.cell hs1).trans y1
           clear ho5 hb5 hb5')
        | (go_at_call 20
           refine (HCL.out _ ?_).mono ?_
           · exact (HX.out.bel.alloc HX.out.bel.size _).drew
           rintro e w5 ⟨⟨v5, rfl, ho5⟩, hb5⟩
           have hb5' : Below W0.heap.size W0 w5 := (((Below.refl _ _).alloc (Nat.le_refl _) _).drew).trans (hb5.mono (by simp))
           have hn5 : w5.heap[W0.heap.size]? = some (.cells zV 25) := (hb5.block W0.heap.size (by simp)).trans (heap_alloc_new W0 _)
           obtain ⟨g5, cap5, rfl⟩ := own8 ho5 H8.out
           have HX5 := hid (HX.out.step hb5')
           have HN5 := hid hn5
           have HO5 := hid ho5
           have z0 := (hb5'.cell hs1).trans y0
           have z1 := (hb5'.cell hs1).trans y1
           have n0 := froz_box hn5 0
           have n1 := froz_box hn5 1
           have n2 := froz_box hn5 2
           have n3 := froz_box hn5 3
           have m0 := box_cell hn5 0
           have m1 := box_cell hn5 1
           have m2 := box_cell hn5 2
           have m3 := box_cell hn5 3
           simp at m0 m1 m2 m3
           clear ho5 hb5 hb5' hn5))
    all_goals (go_wp2_with fail)
    all_goals go_meet
    · exact ⟨_, _, _, rfl, ⟨HX5.out.step ((Below.refl _ _).alloc (Nat.le_refl _) _), box_new _ _ _, OwnI.below (OwnI.base' HO5.out (by simp; omega)) ((Below.refl _ _).alloc (Nat.le_refl _) _) (Nat.le_refl _), HX5.out.size, H8.out⟩⟩
    · exact ⟨_, _, _, rfl, ⟨⟨st4_below HX5.out.b hs⟩, st4_heap HN5.out, st4_own _ _ _ _ (OwnI.base' HO5.out (by simp; omega)) HN5.out (by decide), hs, H8.out⟩⟩
  case rest =>
    obtain ⟨bx, g, cap, rfl, HM⟩ := hcut
    clear hs hs1 nz1 nz2 y0 y1 HCL HX
    have v0 := HM.out.b2.c0 0
    have e0 : (vmC k (.slice (some ⟨qb, qo, none⟩) 8 rc) false false)[0]? = some (.int .i64 k) := rfl
    rw [e0] at v0
    clear e0
    have gk : ((k : Int) == (p.length : Int)) = false := by simp; omega
    have ik : (k : Int) < (p.length : Int) := by omega
    obtain ⟨pb, po, rfl, hpb, c0, c1, c2⟩ := (HP.out.below HM.out.b2.bel (Nat.le_refl _)).at k hk
    rw [show p.getD k zIs = (7, (a : Int), (b : Int)) from hx] at c0 c1 c2
    simp only at c0 c1 c2
    have HBT := hid (fun w => (by have := rbtw_any 7 2 5 w; rwa [show decide ((2 : Int) ≤ 7 ∧ (7 : Int) ≤ 5) = false from by decide] at this : Calls Try.prog 33 #[.int .i64 7, .int .i64 2, .int .i64 5] w fun e w' => e = .returned (.bool false) ∧ w' = w))
    go_upto_region 8 with fail
    have HM1 := hid (HM.out.alloc (.cells #[.int .i64 7, .int .i64 a, .int .i64 b] 45))
    have bb := box_new wc #[.int .i64 7, .int .i64 a, .int .i64 b] 45
    have hbl : wc.heap.size < (wc.alloc (.cells #[.int .i64 7, .int .i64 a, .int .i64 b] 45)).heap.size := by rw [World.size_alloc]; omega
    have hbn : w.heap.size + 2 ≤ wc.heap.size := HM.out.b2.size
    have nbx : ¬ bx = wc.heap.size := by have := HM.out.lt; omega
    have ngx : ¬ g = wc.heap.size := by have := HM.out.row; omega
    clear v0 c0 c1 c2 hpb
    generalize (wc.alloc (.cells #[.int .i64 7, .int .i64 a, .int .i64 b] 45)) = W1 at *
    generalize wc.heap.size = bn at *
    have b0 : W1.cell? ⟨bn, 0, none⟩ = some (.int .i64 7) := box_cell bb 0
    have b1 : W1.cell? ⟨bn, 1, none⟩ = some (.int .i64 a) := box_cell bb 1
    have b2 : W1.cell? ⟨bn, 2, none⟩ = some (.int .i64 b) := box_cell bb 2
    have HBB := hid bb
    clear bb
    have v0 := HM1.out.b2.c0 0
    have v1 := HM1.out.b2.c0 1
    have e0 : (vmC k (.slice (some ⟨qb, qo, none⟩) 8 rc) false false)[0]? = some (.int .i64 k) := rfl
    have e1 : (vmC k (.slice (some ⟨qb, qo, none⟩) 8 rc) false false)[1]? = some (.slice (some ⟨qb, qo, none⟩) 8 rc) := rfl
    rw [e0] at v0
    rw [e1] at v1
    clear e0 e1
    obtain ⟨qb', qo', hq1, hq2, ra0⟩ := Row.at (Row.below HR.out HM1.out.b2.bel (Nat.le_refl _)) a (by have := H8.out; omega)
    simp only [Option.some.injEq, Addr.mk.injEq, and_true] at hq1
    obtain ⟨rfl, rfl⟩ := hq1
    obtain ⟨d0, d1, d2, d3⟩ := HM1.out.c
    have ga := HM1.out.gc a ha
    have gf := HM1.out.gf a
    have k0 := HM1.out.bf 0
    have k2 := HM1.out.bf 2
    have i1 : (a : Int) < 8 := by omega
    have hgne := HM1.out.ne
    simp only at ga
    obtain ⟨ra, hra⟩ : ∃ r, r = l.getD a 0 := ⟨_, rfl⟩
    have HRA := hid hra
    rw [← hra] at ra0 ga
    clear hra hq2
    have hz : (ra == 0) = true := by rw [HRA.out]; simp; simpa using hj
    go_upto_region 37 with (go_at_call 33; refine (HBT.out _).mono ?_; rintro e w' ⟨rfl, hww⟩; replace hww := hww.symm; subst hww)
    have HM3 : Hid (Mo w (W1.setCell ⟨bx, 0, none⟩ (.int .i64 b)) (vmC k (.slice (some ⟨qb, qo, none⟩) 8 rc) false false) bx g cap ⟨b, l, false, false⟩) := HM1.out.setBox 0 (.int .i64 b) ⟨b, l, false, false⟩ rfl rfl
    generalize (W1.setCell ⟨bx, 0, none⟩ (.int .i64 b)) = W3 at *
    obtain ⟨x0, x1, x2, x3⟩ := HM3.out.c
    simp only at x0 x1 x2 x3
    obtain ⟨r0, r1, r2, r3⟩ := HM3.out.r
    have s0 := HM3.out.rf 0
    have s1 := HM3.out.rf 1
    have s2 := HM3.out.rf 2
    have s3 := HM3.out.rf 3
    have nr1 : ¬ bx = w.heap.size + 1 := by have := HM3.out.ge; omega
    have nr2 : ¬ w.heap.size + 1 = bx := by have := HM3.out.ge; omega
    go_wp2_with fail
    have HE := hid HM3.out.ret
    simp only [retW, st4] at HE
    (try simp only [Exit.inBlock, Exit.then])
    refine bodyPost_ret (by simp [results, Try.results35]; rw [as_addr, Result.andThen_ok, HE.out.1, Result.andThen_ok]) rfl ?_
    exact ⟨⟨_, _, _, rfl, HE.out.2.1, .inl ⟨rfl, rfl⟩⟩, HE.out.2.2⟩
set_option maxRecDepth 20000 in
set_option maxHeartbeats 3200000 in
theorem once_7n (hp : Iss w pa p) (hpl : p.length ≤ maxLen) (hr : Row w (some q) l) (h8 : l.length = 8) (hn : ∀ x ∈ l, n32 x = true) (hi : Row w ia i) (hil : i.length ≤ maxLen) (hk100 : k ≤ 100) (a : Nat) (b : Int) (hk : k < p.length) (ha : a < 8) (hx : p.getD k zIs = (7, (a : Int), (b : Int))) (hj : l.getD a 0 ≠ 0) :
    Calls Try.prog 35 #[.slice pa p.length pcap, .agg (vmC k (.slice (some q) 8 rc) false false), .slice ia i.length ic] w (OnceR w ⟨(k : Int) + 1, l, false, false⟩ [] 0) := by
  obtain ⟨qb, qo, hq, hql, _⟩ := Row.at hr 0 (by omega)
  simp only [Option.some.injEq] at hq
  subst hq
  have HR := hid hr
  have HI := hid hi
  have HP := hid hp
  have HNN := hid hn
  have H8 := hid h8
  have HCL := hid (fun V (hb : Below w.heap.size w V) => (by have := cloneIL_some ⟨qb, qo, none⟩ rc l V (Row.below hr hb (Nat.le_refl _)) (by rw [h8]; unfold maxLen; decide) (by rw [h8]; decide); rwa [h8] at this : Calls Try.prog 20 #[.slice (some ⟨qb, qo, none⟩) 8 rc] V fun e w' => (∃ v, e = .returned v ∧ OwnI w' V.heap.size v l) ∧ Below V.heap.size V w'))
  have hw2 : wrap64 ((k : Int) + 1) = (k : Int) + 1 := by unfold wrap64; omega
  have hw : IntKind.i64.wrap ((k : Int) + 1) = (k : Int) + 1 := by rw [IntWalk.i64_left]; exact hw2
  unfold maxLen at hpl hil
  clear hr hi hp h8 hql hn
  go_enter Try.func35, Try.ntmps35
  go_upto_region 3 with fail
  have HX := hid (B2.start w (vmC k (.slice (some ⟨qb, qo, none⟩) 8 rc) false false) zV 25 25)
  have hs := B2.size HX.out
  have y0 := HX.out.c0 0
  have y1 := HX.out.c0 1
  have e0 : (vmC k (.slice (some ⟨qb, qo, none⟩) 8 rc) false false)[0]? = some (.int .i64 k) := rfl
  have e1 : (vmC k (.slice (some ⟨qb, qo, none⟩) 8 rc) false false)[1]? = some (.slice (some ⟨qb, qo, none⟩) 8 rc) := rfl
  rw [e0] at y0
  rw [e1] at y1
  clear e0 e1
  generalize (w.alloc (.cells (vmC k (.slice (some ⟨qb, qo, none⟩) 8 rc) false false) 25)).alloc (.cells zV 25) = W0 at *
  have hs1 : w.heap.size < W0.heap.size := by omega
  have nz1 : ¬ w.heap.size = W0.heap.size := by omega
  have nz2 : ¬ W0.heap.size = w.heap.size := by omega
  go_cut [10] from 14 to 167 (fun v10 wc => ∃ bx g cap, v10 = .pointer (some ⟨bx, 0, none⟩) ∧ Hid (Mo w wc (vmC k (.slice (some ⟨qb, qo, none⟩) 8 rc) false false) bx g cap ⟨k + 1, l, false, false⟩))
  case first =>
    go_region_held3 (fun V => V.cell? ⟨w.heap.size, 0, none⟩ = some (.int .i64 k) ∧ V.cell? ⟨w.heap.size, 1, none⟩ = some (.slice (some ⟨qb, qo, none⟩) 8 rc)) (go_keep)
      (first
        | (go_at_call 20
           refine (HCL.out _ ?_).mono ?_
           · exact HX.out.bel.drew
           rintro e w5 ⟨⟨v5, rfl, ho5⟩, hb5⟩
           have hb5' : Below W0.heap.size W0 w5 := (Below.refl _ _).drew.trans hb5
           obtain ⟨g5, cap5, rfl⟩ := own8 ho5 H8.out
           have HX5 := hid (HX.out.step hb5')
           have HO5 := hid ho5
           have z0 := (hb5'.cell hs1).trans y0
           have z1 := (hb5'.cell hs1).trans y1
           clear ho5 hb5 hb5')
        | (go_at_call 20
           refine (HCL.out _ ?_).mono ?_
           · exact (HX.out.bel.alloc HX.out.bel.size _).drew
           rintro e w5 ⟨⟨v5, rfl, ho5⟩, hb5⟩
           have hb5' : Below W0.heap.size W0 w5 := (((Below.refl _ _).alloc (Nat.le_refl _) _).drew).trans (hb5.mono (by simp))
           have hn5 : w5.heap[W0.heap.size]? = some (.cells zV 25) := (hb5.block W0.heap.size (by simp)).trans (heap_alloc_new W0 _)
           obtain ⟨g5, cap5, rfl⟩ := own8 ho5 H8.out
           have HX5 := hid (HX.out.step hb5')
           have HN5 := hid hn5
           have HO5 := hid ho5
           have z0 := (hb5'.cell hs1).trans y0
           have z1 := (hb5'.cell hs1).trans y1
           have n0 := froz_box hn5 0
           have n1 := froz_box hn5 1
           have n2 := froz_box hn5 2
           have n3 := froz_box hn5 3
           have m0 := box_cell hn5 0
           have m1 := box_cell hn5 1
           have m2 := box_cell hn5 2
           have m3 := box_cell hn5 3
           simp at m0 m1 m2 m3
           clear ho5 hb5 hb5' hn5))
    all_goals (go_wp2_with fail)
    all_goals go_meet
    · exact ⟨_, _, _, rfl, ⟨HX5.out.step ((Below.refl _ _).alloc (Nat.le_refl _) _), box_new _ _ _, OwnI.below (OwnI.base' HO5.out (by simp; omega)) ((Below.refl _ _).alloc (Nat.le_refl _) _) (Nat.le_refl _), HX5.out.size, H8.out⟩⟩
    · exact ⟨_, _, _, rfl, ⟨⟨st4_below HX5.out.b hs⟩, st4_heap HN5.out, st4_own _ _ _ _ (OwnI.base' HO5.out (by simp; omega)) HN5.out (by decide), hs, H8.out⟩⟩
  case rest =>
    obtain ⟨bx, g, cap, rfl, HM⟩ := hcut
    clear hs hs1 nz1 nz2 y0 y1 HCL HX
    have v0 := HM.out.b2.c0 0
    have e0 : (vmC k (.slice (some ⟨qb, qo, none⟩) 8 rc) false false)[0]? = some (.int .i64 k) := rfl
    rw [e0] at v0
    clear e0
    have gk : ((k : Int) == (p.length : Int)) = false := by simp; omega
    have ik : (k : Int) < (p.length : Int) := by omega
    obtain ⟨pb, po, rfl, hpb, c0, c1, c2⟩ := (HP.out.below HM.out.b2.bel (Nat.le_refl _)).at k hk
    rw [show p.getD k zIs = (7, (a : Int), (b : Int)) from hx] at c0 c1 c2
    simp only at c0 c1 c2
    have HBT := hid (fun w => (by have := rbtw_any 7 2 5 w; rwa [show decide ((2 : Int) ≤ 7 ∧ (7 : Int) ≤ 5) = false from by decide] at this : Calls Try.prog 33 #[.int .i64 7, .int .i64 2, .int .i64 5] w fun e w' => e = .returned (.bool false) ∧ w' = w))
    go_upto_region 8 with fail
    have HM1 := hid (HM.out.alloc (.cells #[.int .i64 7, .int .i64 a, .int .i64 b] 45))
    have bb := box_new wc #[.int .i64 7, .int .i64 a, .int .i64 b] 45
    have hbl : wc.heap.size < (wc.alloc (.cells #[.int .i64 7, .int .i64 a, .int .i64 b] 45)).heap.size := by rw [World.size_alloc]; omega
    have hbn : w.heap.size + 2 ≤ wc.heap.size := HM.out.b2.size
    have nbx : ¬ bx = wc.heap.size := by have := HM.out.lt; omega
    have ngx : ¬ g = wc.heap.size := by have := HM.out.row; omega
    clear v0 c0 c1 c2 hpb
    generalize (wc.alloc (.cells #[.int .i64 7, .int .i64 a, .int .i64 b] 45)) = W1 at *
    generalize wc.heap.size = bn at *
    have b0 : W1.cell? ⟨bn, 0, none⟩ = some (.int .i64 7) := box_cell bb 0
    have b1 : W1.cell? ⟨bn, 1, none⟩ = some (.int .i64 a) := box_cell bb 1
    have b2 : W1.cell? ⟨bn, 2, none⟩ = some (.int .i64 b) := box_cell bb 2
    have HBB := hid bb
    clear bb
    have v0 := HM1.out.b2.c0 0
    have v1 := HM1.out.b2.c0 1
    have e0 : (vmC k (.slice (some ⟨qb, qo, none⟩) 8 rc) false false)[0]? = some (.int .i64 k) := rfl
    have e1 : (vmC k (.slice (some ⟨qb, qo, none⟩) 8 rc) false false)[1]? = some (.slice (some ⟨qb, qo, none⟩) 8 rc) := rfl
    rw [e0] at v0
    rw [e1] at v1
    clear e0 e1
    obtain ⟨qb', qo', hq1, hq2, ra0⟩ := Row.at (Row.below HR.out HM1.out.b2.bel (Nat.le_refl _)) a (by have := H8.out; omega)
    simp only [Option.some.injEq, Addr.mk.injEq, and_true] at hq1
    obtain ⟨rfl, rfl⟩ := hq1
    obtain ⟨d0, d1, d2, d3⟩ := HM1.out.c
    have ga := HM1.out.gc a ha
    have gf := HM1.out.gf a
    have k0 := HM1.out.bf 0
    have k2 := HM1.out.bf 2
    have i1 : (a : Int) < 8 := by omega
    have hgne := HM1.out.ne
    simp only at ga
    obtain ⟨ra, hra⟩ : ∃ r, r = l.getD a 0 := ⟨_, rfl⟩
    have HRA := hid hra
    rw [← hra] at ra0 ga
    clear hra hq2
    have hz : (ra == 0) = false := by rw [HRA.out]; simp; simpa using hj
    go_upto_region 37 with (go_at_call 33; refine (HBT.out _).mono ?_; rintro e w' ⟨rfl, hww⟩; replace hww := hww.symm; subst hww)
    have HM3 : Hid (Mo w W1 (vmC k (.slice (some ⟨qb, qo, none⟩) 8 rc) false false) bx g cap ⟨(k : Int) + 1, l, false, false⟩) := HM1.out
    generalize W1 = W3 at *
    obtain ⟨x0, x1, x2, x3⟩ := HM3.out.c
    simp only at x0 x1 x2 x3
    obtain ⟨r0, r1, r2, r3⟩ := HM3.out.r
    have s0 := HM3.out.rf 0
    have s1 := HM3.out.rf 1
    have s2 := HM3.out.rf 2
    have s3 := HM3.out.rf 3
    have nr1 : ¬ bx = w.heap.size + 1 := by have := HM3.out.ge; omega
    have nr2 : ¬ w.heap.size + 1 = bx := by have := HM3.out.ge; omega
    go_wp2_with fail
    have HE := hid HM3.out.ret
    simp only [retW, st4] at HE
    (try simp only [Exit.inBlock, Exit.then])
    refine bodyPost_ret (by simp [results, Try.results35]; rw [as_addr, Result.andThen_ok, HE.out.1, Result.andThen_ok]) rfl ?_
    exact ⟨⟨_, _, _, rfl, HE.out.2.1, .inl ⟨rfl, rfl⟩⟩, HE.out.2.2⟩
set_option maxRecDepth 20000 in
set_option maxHeartbeats 3200000 in
theorem once_8 (hp : Iss w pa p) (hpl : p.length ≤ maxLen) (hr : Row w (some q) l) (h8 : l.length = 8) (hn : ∀ x ∈ l, n32 x = true) (hi : Row w ia i) (hil : i.length ≤ maxLen) (hk100 : k ≤ 100) (a : Nat) (b : Int) (hk : k < p.length) (ha : a < 8) (hx : p.getD k zIs = (8, (a : Int), (b : Int))) (hj : l.getD a 0 < 0) :
    Calls Try.prog 35 #[.slice pa p.length pcap, .agg (vmC k (.slice (some q) 8 rc) false false), .slice ia i.length ic] w (OnceR w ⟨b, l, false, false⟩ [] 0) := by
  obtain ⟨qb, qo, hq, hql, _⟩ := Row.at hr 0 (by omega)
  simp only [Option.some.injEq] at hq
  subst hq
  have HR := hid hr
  have HI := hid hi
  have HP := hid hp
  have HNN := hid hn
  have H8 := hid h8
  have HCL := hid (fun V (hb : Below w.heap.size w V) => (by have := cloneIL_some ⟨qb, qo, none⟩ rc l V (Row.below hr hb (Nat.le_refl _)) (by rw [h8]; unfold maxLen; decide) (by rw [h8]; decide); rwa [h8] at this : Calls Try.prog 20 #[.slice (some ⟨qb, qo, none⟩) 8 rc] V fun e w' => (∃ v, e = .returned v ∧ OwnI w' V.heap.size v l) ∧ Below V.heap.size V w'))
  have hw2 : wrap64 ((k : Int) + 1) = (k : Int) + 1 := by unfold wrap64; omega
  have hw : IntKind.i64.wrap ((k : Int) + 1) = (k : Int) + 1 := by rw [IntWalk.i64_left]; exact hw2
  unfold maxLen at hpl hil
  clear hr hi hp h8 hql hn
  go_enter Try.func35, Try.ntmps35
  go_upto_region 3 with fail
  have HX := hid (B2.start w (vmC k (.slice (some ⟨qb, qo, none⟩) 8 rc) false false) zV 25 25)
  have hs := B2.size HX.out
  have y0 := HX.out.c0 0
  have y1 := HX.out.c0 1
  have e0 : (vmC k (.slice (some ⟨qb, qo, none⟩) 8 rc) false false)[0]? = some (.int .i64 k) := rfl
  have e1 : (vmC k (.slice (some ⟨qb, qo, none⟩) 8 rc) false false)[1]? = some (.slice (some ⟨qb, qo, none⟩) 8 rc) := rfl
  rw [e0] at y0
  rw [e1] at y1
  clear e0 e1
  generalize (w.alloc (.cells (vmC k (.slice (some ⟨qb, qo, none⟩) 8 rc) false false) 25)).alloc (.cells zV 25) = W0 at *
  have hs1 : w.heap.size < W0.heap.size := by omega
  have nz1 : ¬ w.heap.size = W0.heap.size := by omega
  have nz2 : ¬ W0.heap.size = w.heap.size := by omega
  go_cut [10] from 14 to 167 (fun v10 wc => ∃ bx g cap, v10 = .pointer (some ⟨bx, 0, none⟩) ∧ Hid (Mo w wc (vmC k (.slice (some ⟨qb, qo, none⟩) 8 rc) false false) bx g cap ⟨k + 1, l, false, false⟩))
  case first =>
    go_region_held3 (fun V => V.cell? ⟨w.heap.size, 0, none⟩ = some (.int .i64 k) ∧ V.cell? ⟨w.heap.size, 1, none⟩ = some (.slice (some ⟨qb, qo, none⟩) 8 rc)) (go_keep)
      (first
        | (go_at_call 20
           refine (HCL.out _ ?_).mono ?_
           · exact HX.out.bel.drew
           rintro e w5 ⟨⟨v5, rfl, ho5⟩, hb5⟩
           have hb5' : Below W0.heap.size W0 w5 := (Below.refl _ _).drew.trans hb5
           obtain ⟨g5, cap5, rfl⟩ := own8 ho5 H8.out
           have HX5 := hid (HX.out.step hb5')
           have HO5 := hid ho5
           have z0 := (hb5'.cell hs1).trans y0
           have z1 := (hb5'.cell hs1).trans y1
           clear ho5 hb5 hb5')
        | (go_at_call 20
           refine (HCL.out _ ?_).mono ?_
           · exact (HX.out.bel.alloc HX.out.bel.size _).drew
           rintro e w5 ⟨⟨v5, rfl, ho5⟩, hb5⟩
           have hb5' : Below W0.heap.size W0 w5 := (((Below.refl _ _).alloc (Nat.le_refl _) _).drew).trans (hb5.mono (by simp))
           have hn5 : w5.heap[W0.heap.size]? = some (.cells zV 25) := (hb5.block W0.heap.size (by simp)).trans (heap_alloc_new W0 _)
           obtain ⟨g5, cap5, rfl⟩ := own8 ho5 H8.out
           have HX5 := hid (HX.out.step hb5')
           have HN5 := hid hn5
           have HO5 := hid ho5
           have z0 := (hb5'.cell hs1).trans y0
           have z1 := (hb5'.cell hs1).trans y1
           have n0 := froz_box hn5 0
           have n1 := froz_box hn5 1
           have n2 := froz_box hn5 2
           have n3 := froz_box hn5 3
           have m0 := box_cell hn5 0
           have m1 := box_cell hn5 1
           have m2 := box_cell hn5 2
           have m3 := box_cell hn5 3
           simp at m0 m1 m2 m3
           clear ho5 hb5 hb5' hn5))
    all_goals (go_wp2_with fail)
    all_goals go_meet
    · exact ⟨_, _, _, rfl, ⟨HX5.out.step ((Below.refl _ _).alloc (Nat.le_refl _) _), box_new _ _ _, OwnI.below (OwnI.base' HO5.out (by simp; omega)) ((Below.refl _ _).alloc (Nat.le_refl _) _) (Nat.le_refl _), HX5.out.size, H8.out⟩⟩
    · exact ⟨_, _, _, rfl, ⟨⟨st4_below HX5.out.b hs⟩, st4_heap HN5.out, st4_own _ _ _ _ (OwnI.base' HO5.out (by simp; omega)) HN5.out (by decide), hs, H8.out⟩⟩
  case rest =>
    obtain ⟨bx, g, cap, rfl, HM⟩ := hcut
    clear hs hs1 nz1 nz2 y0 y1 HCL HX
    have v0 := HM.out.b2.c0 0
    have e0 : (vmC k (.slice (some ⟨qb, qo, none⟩) 8 rc) false false)[0]? = some (.int .i64 k) := rfl
    rw [e0] at v0
    clear e0
    have gk : ((k : Int) == (p.length : Int)) = false := by simp; omega
    have ik : (k : Int) < (p.length : Int) := by omega
    obtain ⟨pb, po, rfl, hpb, c0, c1, c2⟩ := (HP.out.below HM.out.b2.bel (Nat.le_refl _)).at k hk
    rw [show p.getD k zIs = (8, (a : Int), (b : Int)) from hx] at c0 c1 c2
    simp only at c0 c1 c2
    have HBT := hid (fun w => (by have := rbtw_any 8 2 5 w; rwa [show decide ((2 : Int) ≤ 8 ∧ (8 : Int) ≤ 5) = false from by decide] at this : Calls Try.prog 33 #[.int .i64 8, .int .i64 2, .int .i64 5] w fun e w' => e = .returned (.bool false) ∧ w' = w))
    go_upto_region 8 with fail
    have HM1 := hid (HM.out.alloc (.cells #[.int .i64 8, .int .i64 a, .int .i64 b] 45))
    have bb := box_new wc #[.int .i64 8, .int .i64 a, .int .i64 b] 45
    have hbl : wc.heap.size < (wc.alloc (.cells #[.int .i64 8, .int .i64 a, .int .i64 b] 45)).heap.size := by rw [World.size_alloc]; omega
    have hbn : w.heap.size + 2 ≤ wc.heap.size := HM.out.b2.size
    have nbx : ¬ bx = wc.heap.size := by have := HM.out.lt; omega
    have ngx : ¬ g = wc.heap.size := by have := HM.out.row; omega
    clear v0 c0 c1 c2 hpb
    generalize (wc.alloc (.cells #[.int .i64 8, .int .i64 a, .int .i64 b] 45)) = W1 at *
    generalize wc.heap.size = bn at *
    have b0 : W1.cell? ⟨bn, 0, none⟩ = some (.int .i64 8) := box_cell bb 0
    have b1 : W1.cell? ⟨bn, 1, none⟩ = some (.int .i64 a) := box_cell bb 1
    have b2 : W1.cell? ⟨bn, 2, none⟩ = some (.int .i64 b) := box_cell bb 2
    have HBB := hid bb
    clear bb
    have v0 := HM1.out.b2.c0 0
    have v1 := HM1.out.b2.c0 1
    have e0 : (vmC k (.slice (some ⟨qb, qo, none⟩) 8 rc) false false)[0]? = some (.int .i64 k) := rfl
    have e1 : (vmC k (.slice (some ⟨qb, qo, none⟩) 8 rc) false false)[1]? = some (.slice (some ⟨qb, qo, none⟩) 8 rc) := rfl
    rw [e0] at v0
    rw [e1] at v1
    clear e0 e1
    obtain ⟨qb', qo', hq1, hq2, ra0⟩ := Row.at (Row.below HR.out HM1.out.b2.bel (Nat.le_refl _)) a (by have := H8.out; omega)
    simp only [Option.some.injEq, Addr.mk.injEq, and_true] at hq1
    obtain ⟨rfl, rfl⟩ := hq1
    obtain ⟨d0, d1, d2, d3⟩ := HM1.out.c
    have ga := HM1.out.gc a ha
    have gf := HM1.out.gf a
    have k0 := HM1.out.bf 0
    have k2 := HM1.out.bf 2
    have i1 : (a : Int) < 8 := by omega
    have hgne := HM1.out.ne
    simp only at ga
    obtain ⟨ra, hra⟩ : ∃ r, r = l.getD a 0 := ⟨_, rfl⟩
    have HRA := hid hra
    rw [← hra] at ra0 ga
    clear hra hq2
    have hz : ra < 0 := by rw [HRA.out]; exact hj
    go_upto_region 37 with (go_at_call 33; refine (HBT.out _).mono ?_; rintro e w' ⟨rfl, hww⟩; replace hww := hww.symm; subst hww)
    have HM3 : Hid (Mo w (W1.setCell ⟨bx, 0, none⟩ (.int .i64 b)) (vmC k (.slice (some ⟨qb, qo, none⟩) 8 rc) false false) bx g cap ⟨b, l, false, false⟩) := HM1.out.setBox 0 (.int .i64 b) ⟨b, l, false, false⟩ rfl rfl
    generalize (W1.setCell ⟨bx, 0, none⟩ (.int .i64 b)) = W3 at *
    obtain ⟨x0, x1, x2, x3⟩ := HM3.out.c
    simp only at x0 x1 x2 x3
    obtain ⟨r0, r1, r2, r3⟩ := HM3.out.r
    have s0 := HM3.out.rf 0
    have s1 := HM3.out.rf 1
    have s2 := HM3.out.rf 2
    have s3 := HM3.out.rf 3
    have nr1 : ¬ bx = w.heap.size + 1 := by have := HM3.out.ge; omega
    have nr2 : ¬ w.heap.size + 1 = bx := by have := HM3.out.ge; omega
    go_wp2_with fail
    have HE := hid HM3.out.ret
    simp only [retW, st4] at HE
    (try simp only [Exit.inBlock, Exit.then])
    refine bodyPost_ret (by simp [results, Try.results35]; rw [as_addr, Result.andThen_ok, HE.out.1, Result.andThen_ok]) rfl ?_
    exact ⟨⟨_, _, _, rfl, HE.out.2.1, .inl ⟨rfl, rfl⟩⟩, HE.out.2.2⟩
set_option maxRecDepth 20000 in
set_option maxHeartbeats 3200000 in
theorem once_8n (hp : Iss w pa p) (hpl : p.length ≤ maxLen) (hr : Row w (some q) l) (h8 : l.length = 8) (hn : ∀ x ∈ l, n32 x = true) (hi : Row w ia i) (hil : i.length ≤ maxLen) (hk100 : k ≤ 100) (a : Nat) (b : Int) (hk : k < p.length) (ha : a < 8) (hx : p.getD k zIs = (8, (a : Int), (b : Int))) (hj : ¬ l.getD a 0 < 0) :
    Calls Try.prog 35 #[.slice pa p.length pcap, .agg (vmC k (.slice (some q) 8 rc) false false), .slice ia i.length ic] w (OnceR w ⟨(k : Int) + 1, l, false, false⟩ [] 0) := by
  obtain ⟨qb, qo, hq, hql, _⟩ := Row.at hr 0 (by omega)
  simp only [Option.some.injEq] at hq
  subst hq
  have HR := hid hr
  have HI := hid hi
  have HP := hid hp
  have HNN := hid hn
  have H8 := hid h8
  have HCL := hid (fun V (hb : Below w.heap.size w V) => (by have := cloneIL_some ⟨qb, qo, none⟩ rc l V (Row.below hr hb (Nat.le_refl _)) (by rw [h8]; unfold maxLen; decide) (by rw [h8]; decide); rwa [h8] at this : Calls Try.prog 20 #[.slice (some ⟨qb, qo, none⟩) 8 rc] V fun e w' => (∃ v, e = .returned v ∧ OwnI w' V.heap.size v l) ∧ Below V.heap.size V w'))
  have hw2 : wrap64 ((k : Int) + 1) = (k : Int) + 1 := by unfold wrap64; omega
  have hw : IntKind.i64.wrap ((k : Int) + 1) = (k : Int) + 1 := by rw [IntWalk.i64_left]; exact hw2
  unfold maxLen at hpl hil
  clear hr hi hp h8 hql hn
  go_enter Try.func35, Try.ntmps35
  go_upto_region 3 with fail
  have HX := hid (B2.start w (vmC k (.slice (some ⟨qb, qo, none⟩) 8 rc) false false) zV 25 25)
  have hs := B2.size HX.out
  have y0 := HX.out.c0 0
  have y1 := HX.out.c0 1
  have e0 : (vmC k (.slice (some ⟨qb, qo, none⟩) 8 rc) false false)[0]? = some (.int .i64 k) := rfl
  have e1 : (vmC k (.slice (some ⟨qb, qo, none⟩) 8 rc) false false)[1]? = some (.slice (some ⟨qb, qo, none⟩) 8 rc) := rfl
  rw [e0] at y0
  rw [e1] at y1
  clear e0 e1
  generalize (w.alloc (.cells (vmC k (.slice (some ⟨qb, qo, none⟩) 8 rc) false false) 25)).alloc (.cells zV 25) = W0 at *
  have hs1 : w.heap.size < W0.heap.size := by omega
  have nz1 : ¬ w.heap.size = W0.heap.size := by omega
  have nz2 : ¬ W0.heap.size = w.heap.size := by omega
  go_cut [10] from 14 to 167 (fun v10 wc => ∃ bx g cap, v10 = .pointer (some ⟨bx, 0, none⟩) ∧ Hid (Mo w wc (vmC k (.slice (some ⟨qb, qo, none⟩) 8 rc) false false) bx g cap ⟨k + 1, l, false, false⟩))
  case first =>
    go_region_held3 (fun V => V.cell? ⟨w.heap.size, 0, none⟩ = some (.int .i64 k) ∧ V.cell? ⟨w.heap.size, 1, none⟩ = some (.slice (some ⟨qb, qo, none⟩) 8 rc)) (go_keep)
      (first
        | (go_at_call 20
           refine (HCL.out _ ?_).mono ?_
           · exact HX.out.bel.drew
           rintro e w5 ⟨⟨v5, rfl, ho5⟩, hb5⟩
           have hb5' : Below W0.heap.size W0 w5 := (Below.refl _ _).drew.trans hb5
           obtain ⟨g5, cap5, rfl⟩ := own8 ho5 H8.out
           have HX5 := hid (HX.out.step hb5')
           have HO5 := hid ho5
           have z0 := (hb5'.cell hs1).trans y0
           have z1 := (hb5'.cell hs1).trans y1
           clear ho5 hb5 hb5')
        | (go_at_call 20
           refine (HCL.out _ ?_).mono ?_
           · exact (HX.out.bel.alloc HX.out.bel.size _).drew
           rintro e w5 ⟨⟨v5, rfl, ho5⟩, hb5⟩
           have hb5' : Below W0.heap.size W0 w5 := (((Below.refl _ _).alloc (Nat.le_refl _) _).drew).trans (hb5.mono (by simp))
           have hn5 : w5.heap[W0.heap.size]? = some (.cells zV 25) := (hb5.block W0.heap.size (by simp)).trans (heap_alloc_new W0 _)
           obtain ⟨g5, cap5, rfl⟩ := own8 ho5 H8.out
           have HX5 := hid (HX.out.step hb5')
           have HN5 := hid hn5
           have HO5 := hid ho5
           have z0 := (hb5'.cell hs1).trans y0
           have z1 := (hb5'.cell hs1).trans y1
           have n0 := froz_box hn5 0
           have n1 := froz_box hn5 1
           have n2 := froz_box hn5 2
           have n3 := froz_box hn5 3
           have m0 := box_cell hn5 0
           have m1 := box_cell hn5 1
           have m2 := box_cell hn5 2
           have m3 := box_cell hn5 3
           simp at m0 m1 m2 m3
           clear ho5 hb5 hb5' hn5))
    all_goals (go_wp2_with fail)
    all_goals go_meet
    · exact ⟨_, _, _, rfl, ⟨HX5.out.step ((Below.refl _ _).alloc (Nat.le_refl _) _), box_new _ _ _, OwnI.below (OwnI.base' HO5.out (by simp; omega)) ((Below.refl _ _).alloc (Nat.le_refl _) _) (Nat.le_refl _), HX5.out.size, H8.out⟩⟩
    · exact ⟨_, _, _, rfl, ⟨⟨st4_below HX5.out.b hs⟩, st4_heap HN5.out, st4_own _ _ _ _ (OwnI.base' HO5.out (by simp; omega)) HN5.out (by decide), hs, H8.out⟩⟩
  case rest =>
    obtain ⟨bx, g, cap, rfl, HM⟩ := hcut
    clear hs hs1 nz1 nz2 y0 y1 HCL HX
    have v0 := HM.out.b2.c0 0
    have e0 : (vmC k (.slice (some ⟨qb, qo, none⟩) 8 rc) false false)[0]? = some (.int .i64 k) := rfl
    rw [e0] at v0
    clear e0
    have gk : ((k : Int) == (p.length : Int)) = false := by simp; omega
    have ik : (k : Int) < (p.length : Int) := by omega
    obtain ⟨pb, po, rfl, hpb, c0, c1, c2⟩ := (HP.out.below HM.out.b2.bel (Nat.le_refl _)).at k hk
    rw [show p.getD k zIs = (8, (a : Int), (b : Int)) from hx] at c0 c1 c2
    simp only at c0 c1 c2
    have HBT := hid (fun w => (by have := rbtw_any 8 2 5 w; rwa [show decide ((2 : Int) ≤ 8 ∧ (8 : Int) ≤ 5) = false from by decide] at this : Calls Try.prog 33 #[.int .i64 8, .int .i64 2, .int .i64 5] w fun e w' => e = .returned (.bool false) ∧ w' = w))
    go_upto_region 8 with fail
    have HM1 := hid (HM.out.alloc (.cells #[.int .i64 8, .int .i64 a, .int .i64 b] 45))
    have bb := box_new wc #[.int .i64 8, .int .i64 a, .int .i64 b] 45
    have hbl : wc.heap.size < (wc.alloc (.cells #[.int .i64 8, .int .i64 a, .int .i64 b] 45)).heap.size := by rw [World.size_alloc]; omega
    have hbn : w.heap.size + 2 ≤ wc.heap.size := HM.out.b2.size
    have nbx : ¬ bx = wc.heap.size := by have := HM.out.lt; omega
    have ngx : ¬ g = wc.heap.size := by have := HM.out.row; omega
    clear v0 c0 c1 c2 hpb
    generalize (wc.alloc (.cells #[.int .i64 8, .int .i64 a, .int .i64 b] 45)) = W1 at *
    generalize wc.heap.size = bn at *
    have b0 : W1.cell? ⟨bn, 0, none⟩ = some (.int .i64 8) := box_cell bb 0
    have b1 : W1.cell? ⟨bn, 1, none⟩ = some (.int .i64 a) := box_cell bb 1
    have b2 : W1.cell? ⟨bn, 2, none⟩ = some (.int .i64 b) := box_cell bb 2
    have HBB := hid bb
    clear bb
    have v0 := HM1.out.b2.c0 0
    have v1 := HM1.out.b2.c0 1
    have e0 : (vmC k (.slice (some ⟨qb, qo, none⟩) 8 rc) false false)[0]? = some (.int .i64 k) := rfl
    have e1 : (vmC k (.slice (some ⟨qb, qo, none⟩) 8 rc) false false)[1]? = some (.slice (some ⟨qb, qo, none⟩) 8 rc) := rfl
    rw [e0] at v0
    rw [e1] at v1
    clear e0 e1
    obtain ⟨qb', qo', hq1, hq2, ra0⟩ := Row.at (Row.below HR.out HM1.out.b2.bel (Nat.le_refl _)) a (by have := H8.out; omega)
    simp only [Option.some.injEq, Addr.mk.injEq, and_true] at hq1
    obtain ⟨rfl, rfl⟩ := hq1
    obtain ⟨d0, d1, d2, d3⟩ := HM1.out.c
    have ga := HM1.out.gc a ha
    have gf := HM1.out.gf a
    have k0 := HM1.out.bf 0
    have k2 := HM1.out.bf 2
    have i1 : (a : Int) < 8 := by omega
    have hgne := HM1.out.ne
    simp only at ga
    obtain ⟨ra, hra⟩ : ∃ r, r = l.getD a 0 := ⟨_, rfl⟩
    have HRA := hid hra
    rw [← hra] at ra0 ga
    clear hra hq2
    have hz : ¬ ra < 0 := by rw [HRA.out]; exact hj
    go_upto_region 37 with (go_at_call 33; refine (HBT.out _).mono ?_; rintro e w' ⟨rfl, hww⟩; replace hww := hww.symm; subst hww)
    have HM3 : Hid (Mo w W1 (vmC k (.slice (some ⟨qb, qo, none⟩) 8 rc) false false) bx g cap ⟨(k : Int) + 1, l, false, false⟩) := HM1.out
    generalize W1 = W3 at *
    obtain ⟨x0, x1, x2, x3⟩ := HM3.out.c
    simp only at x0 x1 x2 x3
    obtain ⟨r0, r1, r2, r3⟩ := HM3.out.r
    have s0 := HM3.out.rf 0
    have s1 := HM3.out.rf 1
    have s2 := HM3.out.rf 2
    have s3 := HM3.out.rf 3
    have nr1 : ¬ bx = w.heap.size + 1 := by have := HM3.out.ge; omega
    have nr2 : ¬ w.heap.size + 1 = bx := by have := HM3.out.ge; omega
    go_wp2_with fail
    have HE := hid HM3.out.ret
    simp only [retW, st4] at HE
    (try simp only [Exit.inBlock, Exit.then])
    refine bodyPost_ret (by simp [results, Try.results35]; rw [as_addr, Result.andThen_ok, HE.out.1, Result.andThen_ok]) rfl ?_
    exact ⟨⟨_, _, _, rfl, HE.out.2.1, .inl ⟨rfl, rfl⟩⟩, HE.out.2.2⟩
set_option maxRecDepth 20000 in
set_option maxHeartbeats 3200000 in
theorem once_9 (hp : Iss w pa p) (hpl : p.length ≤ maxLen) (hr : Row w (some q) l) (h8 : l.length = 8) (hn : ∀ x ∈ l, n32 x = true) (hi : Row w ia i) (hil : i.length ≤ maxLen) (hk100 : k ≤ 100) (a : Nat) (b : Int) (hk : k < p.length) (ha : a < 8) (hx : p.getD k zIs = (9, (a : Int), (b : Int))) (hl0 : 0 < i.length) :
    Calls Try.prog 35 #[.slice pa p.length pcap, .agg (vmC k (.slice (some q) 8 rc) false false), .slice ia i.length ic] w (OnceR w ⟨(k : Int) + 1, l.set a (i.getD 0 0), false, false⟩ [] 1) := by
  obtain ⟨qb, qo, hq, hql, _⟩ := Row.at hr 0 (by omega)
  simp only [Option.some.injEq] at hq
  subst hq
  have HR := hid hr
  have HI := hid hi
  have HP := hid hp
  have HNN := hid hn
  have H8 := hid h8
  have HCL := hid (fun V (hb : Below w.heap.size w V) => (by have := cloneIL_some ⟨qb, qo, none⟩ rc l V (Row.below hr hb (Nat.le_refl _)) (by rw [h8]; unfold maxLen; decide) (by rw [h8]; decide); rwa [h8] at this : Calls Try.prog 20 #[.slice (some ⟨qb, qo, none⟩) 8 rc] V fun e w' => (∃ v, e = .returned v ∧ OwnI w' V.heap.size v l) ∧ Below V.heap.size V w'))
  have hw2 : wrap64 ((k : Int) + 1) = (k : Int) + 1 := by unfold wrap64; omega
  have hw : IntKind.i64.wrap ((k : Int) + 1) = (k : Int) + 1 := by rw [IntWalk.i64_left]; exact hw2
  unfold maxLen at hpl hil
  clear hr hi hp h8 hql hn
  go_enter Try.func35, Try.ntmps35
  go_upto_region 3 with fail
  have HX := hid (B2.start w (vmC k (.slice (some ⟨qb, qo, none⟩) 8 rc) false false) zV 25 25)
  have hs := B2.size HX.out
  have y0 := HX.out.c0 0
  have y1 := HX.out.c0 1
  have e0 : (vmC k (.slice (some ⟨qb, qo, none⟩) 8 rc) false false)[0]? = some (.int .i64 k) := rfl
  have e1 : (vmC k (.slice (some ⟨qb, qo, none⟩) 8 rc) false false)[1]? = some (.slice (some ⟨qb, qo, none⟩) 8 rc) := rfl
  rw [e0] at y0
  rw [e1] at y1
  clear e0 e1
  generalize (w.alloc (.cells (vmC k (.slice (some ⟨qb, qo, none⟩) 8 rc) false false) 25)).alloc (.cells zV 25) = W0 at *
  have hs1 : w.heap.size < W0.heap.size := by omega
  have nz1 : ¬ w.heap.size = W0.heap.size := by omega
  have nz2 : ¬ W0.heap.size = w.heap.size := by omega
  go_cut [10] from 14 to 167 (fun v10 wc => ∃ bx g cap, v10 = .pointer (some ⟨bx, 0, none⟩) ∧ Hid (Mo w wc (vmC k (.slice (some ⟨qb, qo, none⟩) 8 rc) false false) bx g cap ⟨k + 1, l, false, false⟩))
  case first =>
    go_region_held3 (fun V => V.cell? ⟨w.heap.size, 0, none⟩ = some (.int .i64 k) ∧ V.cell? ⟨w.heap.size, 1, none⟩ = some (.slice (some ⟨qb, qo, none⟩) 8 rc)) (go_keep)
      (first
        | (go_at_call 20
           refine (HCL.out _ ?_).mono ?_
           · exact HX.out.bel.drew
           rintro e w5 ⟨⟨v5, rfl, ho5⟩, hb5⟩
           have hb5' : Below W0.heap.size W0 w5 := (Below.refl _ _).drew.trans hb5
           obtain ⟨g5, cap5, rfl⟩ := own8 ho5 H8.out
           have HX5 := hid (HX.out.step hb5')
           have HO5 := hid ho5
           have z0 := (hb5'.cell hs1).trans y0
           have z1 := (hb5'.cell hs1).trans y1
           clear ho5 hb5 hb5')
        | (go_at_call 20
           refine (HCL.out _ ?_).mono ?_
           · exact (HX.out.bel.alloc HX.out.bel.size _).drew
           rintro e w5 ⟨⟨v5, rfl, ho5⟩, hb5⟩
           have hb5' : Below W0.heap.size W0 w5 := (((Below.refl _ _).alloc (Nat.le_refl _) _).drew).trans (hb5.mono (by simp))
           have hn5 : w5.heap[W0.heap.size]? = some (.cells zV 25) := (hb5.block W0.heap.size (by simp)).trans (heap_alloc_new W0 _)
           obtain ⟨g5, cap5, rfl⟩ := own8 ho5 H8.out
           have HX5 := hid (HX.out.step hb5')
           have HN5 := hid hn5
           have HO5 := hid ho5
           have z0 := (hb5'.cell hs1).trans y0
           have z1 := (hb5'.cell hs1).trans y1
           have n0 := froz_box hn5 0
           have n1 := froz_box hn5 1
           have n2 := froz_box hn5 2
           have n3 := froz_box hn5 3
           have m0 := box_cell hn5 0
           have m1 := box_cell hn5 1
           have m2 := box_cell hn5 2
           have m3 := box_cell hn5 3
           simp at m0 m1 m2 m3
           clear ho5 hb5 hb5' hn5))
    all_goals (go_wp2_with fail)
    all_goals go_meet
    · exact ⟨_, _, _, rfl, ⟨HX5.out.step ((Below.refl _ _).alloc (Nat.le_refl _) _), box_new _ _ _, OwnI.below (OwnI.base' HO5.out (by simp; omega)) ((Below.refl _ _).alloc (Nat.le_refl _) _) (Nat.le_refl _), HX5.out.size, H8.out⟩⟩
    · exact ⟨_, _, _, rfl, ⟨⟨st4_below HX5.out.b hs⟩, st4_heap HN5.out, st4_own _ _ _ _ (OwnI.base' HO5.out (by simp; omega)) HN5.out (by decide), hs, H8.out⟩⟩
  case rest =>
    obtain ⟨bx, g, cap, rfl, HM⟩ := hcut
    clear hs hs1 nz1 nz2 y0 y1 HCL HX
    have v0 := HM.out.b2.c0 0
    have e0 : (vmC k (.slice (some ⟨qb, qo, none⟩) 8 rc) false false)[0]? = some (.int .i64 k) := rfl
    rw [e0] at v0
    clear e0
    have gk : ((k : Int) == (p.length : Int)) = false := by simp; omega
    have ik : (k : Int) < (p.length : Int) := by omega
    obtain ⟨pb, po, rfl, hpb, c0, c1, c2⟩ := (HP.out.below HM.out.b2.bel (Nat.le_refl _)).at k hk
    rw [show p.getD k zIs = (9, (a : Int), (b : Int)) from hx] at c0 c1 c2
    simp only at c0 c1 c2
    have HBT := hid (fun w => (by have := rbtw_any 9 2 5 w; rwa [show decide ((2 : Int) ≤ 9 ∧ (9 : Int) ≤ 5) = false from by decide] at this : Calls Try.prog 33 #[.int .i64 9, .int .i64 2, .int .i64 5] w fun e w' => e = .returned (.bool false) ∧ w' = w))
    go_upto_region 8 with fail
    have HM1 := hid (HM.out.alloc (.cells #[.int .i64 9, .int .i64 a, .int .i64 b] 45))
    have bb := box_new wc #[.int .i64 9, .int .i64 a, .int .i64 b] 45
    have hbl : wc.heap.size < (wc.alloc (.cells #[.int .i64 9, .int .i64 a, .int .i64 b] 45)).heap.size := by rw [World.size_alloc]; omega
    have hbn : w.heap.size + 2 ≤ wc.heap.size := HM.out.b2.size
    have nbx : ¬ bx = wc.heap.size := by have := HM.out.lt; omega
    have ngx : ¬ g = wc.heap.size := by have := HM.out.row; omega
    clear v0 c0 c1 c2 hpb
    generalize (wc.alloc (.cells #[.int .i64 9, .int .i64 a, .int .i64 b] 45)) = W1 at *
    generalize wc.heap.size = bn at *
    have b0 : W1.cell? ⟨bn, 0, none⟩ = some (.int .i64 9) := box_cell bb 0
    have b1 : W1.cell? ⟨bn, 1, none⟩ = some (.int .i64 a) := box_cell bb 1
    have b2 : W1.cell? ⟨bn, 2, none⟩ = some (.int .i64 b) := box_cell bb 2
    have HBB := hid bb
    clear bb
    have v0 := HM1.out.b2.c0 0
    have v1 := HM1.out.b2.c0 1
    have e0 : (vmC k (.slice (some ⟨qb, qo, none⟩) 8 rc) false false)[0]? = some (.int .i64 k) := rfl
    have e1 : (vmC k (.slice (some ⟨qb, qo, none⟩) 8 rc) false false)[1]? = some (.slice (some ⟨qb, qo, none⟩) 8 rc) := rfl
    rw [e0] at v0
    rw [e1] at v1
    clear e0 e1
    obtain ⟨qb', qo', hq1, hq2, ra0⟩ := Row.at (Row.below HR.out HM1.out.b2.bel (Nat.le_refl _)) a (by have := H8.out; omega)
    simp only [Option.some.injEq, Addr.mk.injEq, and_true] at hq1
    obtain ⟨rfl, rfl⟩ := hq1
    obtain ⟨d0, d1, d2, d3⟩ := HM1.out.c
    have ga := HM1.out.gc a ha
    have gf := HM1.out.gf a
    have k0 := HM1.out.bf 0
    have k2 := HM1.out.bf 2
    have i1 : (a : Int) < 8 := by omega
    have hgne := HM1.out.ne
    simp only at ga
    obtain ⟨ra, hra⟩ : ∃ r, r = l.getD a 0 := ⟨_, rfl⟩
    have HRA := hid hra
    rw [← hra] at ra0 ga
    clear hra hq2
    have hz : ((i.length : Int) == 0) = false := by simp; exact fun e => by simp [e] at hl0
    have hz2 : (0 : Int) < (i.length : Int) := by omega
    obtain ⟨ib, io, rfl, hib, j0⟩ := Row.at (Row.below HI.out HM1.out.b2.bel (Nat.le_refl _)) 0 hl0
    obtain ⟨rx, hrx⟩ : ∃ r, r = i.getD 0 0 := ⟨_, rfl⟩
    have HRX := hid hrx
    rw [← hrx] at j0
    have j1 := j0
    rw [Nat.add_zero] at j1
    clear hrx hib
    go_upto_region 31 with (go_at_call 33; refine (HBT.out _).mono ?_; rintro e w' ⟨rfl, hww⟩; replace hww := hww.symm; subst hww)
    refine wp_region_still_tail 7 mixd (by kernel_rfl) ?_
    simp only [List.take_succ_cons, List.take_zero, List.drop_succ_cons, List.drop_zero]
    have hdr : ({ W1 with drawn := W1.drawn + 1 } : World) = W1.drew := rfl
    rw [hdr]
    clear hdr
    repeat still_step
    refine wpStill_nil ?_
    go_upto_region 32 with fail
    have HM3 : Hid (Mo w (W1.setCell ⟨g, a, none⟩ (.int .i64 rx)).drew (vmC k (.slice (some ⟨qb, qo, none⟩) 8 rc) false false) bx g cap ⟨(k : Int) + 1, l.set a rx, false, false⟩) := (HM1.out.setReg a _).drew
    generalize (W1.setCell ⟨g, a, none⟩ (.int .i64 rx)).drew = W3 at *
    obtain ⟨x0, x1, x2, x3⟩ := HM3.out.c
    simp only at x0 x1 x2 x3
    obtain ⟨r0, r1, r2, r3⟩ := HM3.out.r
    have s0 := HM3.out.rf 0
    have s1 := HM3.out.rf 1
    have s2 := HM3.out.rf 2
    have s3 := HM3.out.rf 3
    have nr1 : ¬ bx = w.heap.size + 1 := by have := HM3.out.ge; omega
    have nr2 : ¬ w.heap.size + 1 = bx := by have := HM3.out.ge; omega
    go_wp2_with fail
    have HE := hid HM3.out.ret
    simp only [retW, st4] at HE
    (try simp only [Exit.inBlock, Exit.then])
    refine bodyPost_ret (by simp [results, Try.results35]; rw [as_addr, Result.andThen_ok, HE.out.1, Result.andThen_ok]) rfl ?_
    exact ⟨⟨_, _, _, rfl, (by have qq := HE.out.2.1; rw [HRX.out] at qq; exact qq), .inl ⟨rfl, rfl⟩⟩, HE.out.2.2⟩
set_option maxRecDepth 20000 in
set_option maxHeartbeats 3200000 in
theorem once_9n (hp : Iss w pa p) (hpl : p.length ≤ maxLen) (hr : Row w (some q) l) (h8 : l.length = 8) (hn : ∀ x ∈ l, n32 x = true) (hi : Row w ia i) (hil : i.length ≤ maxLen) (hk100 : k ≤ 100) (a : Nat) (b : Int) (hk : k < p.length) (ha : a < 8) (hx : p.getD k zIs = (9, (a : Int), (b : Int))) (hl0 : i.length = 0) :
    Calls Try.prog 35 #[.slice pa p.length pcap, .agg (vmC k (.slice (some q) 8 rc) false false), .slice ia i.length ic] w (fun e w' => e = .returned (.tuple #[.agg (vmC k (.slice (some q) 8 rc) false false), .slice none 0 0, .int .i64 0, .bool false]) ∧ Below w.heap.size w w') := by
  have HL0 := hid hl0
  clear hl0
  obtain ⟨qb, qo, hq, hql, _⟩ := Row.at hr 0 (by omega)
  simp only [Option.some.injEq] at hq
  subst hq
  have HR := hid hr
  have HI := hid hi
  have HP := hid hp
  have HNN := hid hn
  have H8 := hid h8
  have HCL := hid (fun V (hb : Below w.heap.size w V) => (by have := cloneIL_some ⟨qb, qo, none⟩ rc l V (Row.below hr hb (Nat.le_refl _)) (by rw [h8]; unfold maxLen; decide) (by rw [h8]; decide); rwa [h8] at this : Calls Try.prog 20 #[.slice (some ⟨qb, qo, none⟩) 8 rc] V fun e w' => (∃ v, e = .returned v ∧ OwnI w' V.heap.size v l) ∧ Below V.heap.size V w'))
  have hw2 : wrap64 ((k : Int) + 1) = (k : Int) + 1 := by unfold wrap64; omega
  have hw : IntKind.i64.wrap ((k : Int) + 1) = (k : Int) + 1 := by rw [IntWalk.i64_left]; exact hw2
  unfold maxLen at hpl hil
  clear hr hi hp h8 hql hn
  go_enter Try.func35, Try.ntmps35
  go_upto_region 3 with fail
  have HX := hid (B2.start w (vmC k (.slice (some ⟨qb, qo, none⟩) 8 rc) false false) zV 25 25)
  have hs := B2.size HX.out
  have y0 := HX.out.c0 0
  have y1 := HX.out.c0 1
  have e0 : (vmC k (.slice (some ⟨qb, qo, none⟩) 8 rc) false false)[0]? = some (.int .i64 k) := rfl
  have e1 : (vmC k (.slice (some ⟨qb, qo, none⟩) 8 rc) false false)[1]? = some (.slice (some ⟨qb, qo, none⟩) 8 rc) := rfl
  rw [e0] at y0
  rw [e1] at y1
  clear e0 e1
  generalize (w.alloc (.cells (vmC k (.slice (some ⟨qb, qo, none⟩) 8 rc) false false) 25)).alloc (.cells zV 25) = W0 at *
  have hs1 : w.heap.size < W0.heap.size := by omega
  have nz1 : ¬ w.heap.size = W0.heap.size := by omega
  have nz2 : ¬ W0.heap.size = w.heap.size := by omega
  go_cut [10] from 14 to 167 (fun v10 wc => ∃ bx g cap, v10 = .pointer (some ⟨bx, 0, none⟩) ∧ Hid (Mo w wc (vmC k (.slice (some ⟨qb, qo, none⟩) 8 rc) false false) bx g cap ⟨k + 1, l, false, false⟩))
  case first =>
    go_region_held3 (fun V => V.cell? ⟨w.heap.size, 0, none⟩ = some (.int .i64 k) ∧ V.cell? ⟨w.heap.size, 1, none⟩ = some (.slice (some ⟨qb, qo, none⟩) 8 rc)) (go_keep)
      (first
        | (go_at_call 20
           refine (HCL.out _ ?_).mono ?_
           · exact HX.out.bel.drew
           rintro e w5 ⟨⟨v5, rfl, ho5⟩, hb5⟩
           have hb5' : Below W0.heap.size W0 w5 := (Below.refl _ _).drew.trans hb5
           obtain ⟨g5, cap5, rfl⟩ := own8 ho5 H8.out
           have HX5 := hid (HX.out.step hb5')
           have HO5 := hid ho5
           have z0 := (hb5'.cell hs1).trans y0
           have z1 := (hb5'.cell hs1).trans y1
           clear ho5 hb5 hb5')
        | (go_at_call 20
           refine (HCL.out _ ?_).mono ?_
           · exact (HX.out.bel.alloc HX.out.bel.size _).drew
           rintro e w5 ⟨⟨v5, rfl, ho5⟩, hb5⟩
           have hb5' : Below W0.heap.size W0 w5 := (((Below.refl _ _).alloc (Nat.le_refl _) _).drew).trans (hb5.mono (by simp))
           have hn5 : w5.heap[W0.heap.size]? = some (.cells zV 25) := (hb5.block W0.heap.size (by simp)).trans (heap_alloc_new W0 _)
           obtain ⟨g5, cap5, rfl⟩ := own8 ho5 H8.out
           have HX5 := hid (HX.out.step hb5')
           have HN5 := hid hn5
           have HO5 := hid ho5
           have z0 := (hb5'.cell hs1).trans y0
           have z1 := (hb5'.cell hs1).trans y1
           have n0 := froz_box hn5 0
           have n1 := froz_box hn5 1
           have n2 := froz_box hn5 2
           have n3 := froz_box hn5 3
           have m0 := box_cell hn5 0
           have m1 := box_cell hn5 1
           have m2 := box_cell hn5 2
           have m3 := box_cell hn5 3
           simp at m0 m1 m2 m3
           clear ho5 hb5 hb5' hn5))
    all_goals (go_wp2_with fail)
    all_goals go_meet
    · exact ⟨_, _, _, rfl, ⟨HX5.out.step ((Below.refl _ _).alloc (Nat.le_refl _) _), box_new _ _ _, OwnI.below (OwnI.base' HO5.out (by simp; omega)) ((Below.refl _ _).alloc (Nat.le_refl _) _) (Nat.le_refl _), HX5.out.size, H8.out⟩⟩
    · exact ⟨_, _, _, rfl, ⟨⟨st4_below HX5.out.b hs⟩, st4_heap HN5.out, st4_own _ _ _ _ (OwnI.base' HO5.out (by simp; omega)) HN5.out (by decide), hs, H8.out⟩⟩
  case rest =>
    obtain ⟨bx, g, cap, rfl, HM⟩ := hcut
    clear hs hs1 nz1 nz2 y0 y1 HCL HX
    have v0 := HM.out.b2.c0 0
    have e0 : (vmC k (.slice (some ⟨qb, qo, none⟩) 8 rc) false false)[0]? = some (.int .i64 k) := rfl
    rw [e0] at v0
    clear e0
    have gk : ((k : Int) == (p.length : Int)) = false := by simp; omega
    have ik : (k : Int) < (p.length : Int) := by omega
    obtain ⟨pb, po, rfl, hpb, c0, c1, c2⟩ := (HP.out.below HM.out.b2.bel (Nat.le_refl _)).at k hk
    rw [show p.getD k zIs = (9, (a : Int), (b : Int)) from hx] at c0 c1 c2
    simp only at c0 c1 c2
    have HBT := hid (fun w => (by have := rbtw_any 9 2 5 w; rwa [show decide ((2 : Int) ≤ 9 ∧ (9 : Int) ≤ 5) = false from by decide] at this : Calls Try.prog 33 #[.int .i64 9, .int .i64 2, .int .i64 5] w fun e w' => e = .returned (.bool false) ∧ w' = w))
    go_upto_region 8 with fail
    have HM1 := hid (HM.out.alloc (.cells #[.int .i64 9, .int .i64 a, .int .i64 b] 45))
    have bb := box_new wc #[.int .i64 9, .int .i64 a, .int .i64 b] 45
    have hbl : wc.heap.size < (wc.alloc (.cells #[.int .i64 9, .int .i64 a, .int .i64 b] 45)).heap.size := by rw [World.size_alloc]; omega
    have hbn : w.heap.size + 2 ≤ wc.heap.size := HM.out.b2.size
    have nbx : ¬ bx = wc.heap.size := by have := HM.out.lt; omega
    have ngx : ¬ g = wc.heap.size := by have := HM.out.row; omega
    clear v0 c0 c1 c2 hpb
    generalize (wc.alloc (.cells #[.int .i64 9, .int .i64 a, .int .i64 b] 45)) = W1 at *
    generalize wc.heap.size = bn at *
    have b0 : W1.cell? ⟨bn, 0, none⟩ = some (.int .i64 9) := box_cell bb 0
    have b1 : W1.cell? ⟨bn, 1, none⟩ = some (.int .i64 a) := box_cell bb 1
    have b2 : W1.cell? ⟨bn, 2, none⟩ = some (.int .i64 b) := box_cell bb 2
    have HBB := hid bb
    clear bb
    have v0 := HM1.out.b2.c0 0
    have v1 := HM1.out.b2.c0 1
    have e0 : (vmC k (.slice (some ⟨qb, qo, none⟩) 8 rc) false false)[0]? = some (.int .i64 k) := rfl
    have e1 : (vmC k (.slice (some ⟨qb, qo, none⟩) 8 rc) false false)[1]? = some (.slice (some ⟨qb, qo, none⟩) 8 rc) := rfl
    rw [e0] at v0
    rw [e1] at v1
    clear e0 e1
    obtain ⟨qb', qo', hq1, hq2, ra0⟩ := Row.at (Row.below HR.out HM1.out.b2.bel (Nat.le_refl _)) a (by have := H8.out; omega)
    simp only [Option.some.injEq, Addr.mk.injEq, and_true] at hq1
    obtain ⟨rfl, rfl⟩ := hq1
    obtain ⟨d0, d1, d2, d3⟩ := HM1.out.c
    have ga := HM1.out.gc a ha
    have gf := HM1.out.gf a
    have k0 := HM1.out.bf 0
    have k2 := HM1.out.bf 2
    have i1 : (a : Int) < 8 := by omega
    have hgne := HM1.out.ne
    simp only at ga
    obtain ⟨ra, hra⟩ : ∃ r, r = l.getD a 0 := ⟨_, rfl⟩
    have HRA := hid hra
    rw [← hra] at ra0 ga
    clear hra hq2
    have hz : ((i.length : Int) == 0) = true := by rw [HL0.out]; rfl
    have v2 := HM1.out.b2.c0 2
    have v3 := HM1.out.b2.c0 3
    have e2 : (vmC k (.slice (some ⟨qb, qo, none⟩) 8 rc) false false)[2]? = some (.bool false) := rfl
    have e3 : (vmC k (.slice (some ⟨qb, qo, none⟩) 8 rc) false false)[3]? = some (.bool false) := rfl
    rw [e2] at v2
    rw [e3] at v3
    clear e2 e3
    obtain ⟨r0, r1, r2, r3⟩ := HM1.out.r
    have s0 := HM1.out.rf 0
    have s1 := HM1.out.rf 1
    have s2 := HM1.out.rf 2
    have s3 := HM1.out.rf 3
    go_wp2_with (go_at_call 33; refine (HBT.out _).mono ?_; rintro e w' ⟨rfl, hww⟩; replace hww := hww.symm; subst hww)
    have HE := hid (st4_heap (x0 := .int .i64 k) (x1 := .slice (some ⟨qb, qo, none⟩) 8 rc) (x2 := .bool false) (x3 := .bool false) (B2.box1 HM1.out.b2))
    have HB := hid (st4_below (x0 := .int .i64 k) (x1 := .slice (some ⟨qb, qo, none⟩) 8 rc) (x2 := .bool false) (x3 := .bool false) HM1.out.b2.bel (show w.heap.size ≤ w.heap.size + 1 by omega))
    have HL := hid (load_vm HE.out)
    simp only [st4] at HL HB
    (try simp only [Exit.inBlock, Exit.then])
    refine bodyPost_ret (by simp [results, Try.results35]; rw [as_addr, Result.andThen_ok, HL.out, Result.andThen_ok]) rfl ?_
    exact ⟨rfl, HB.out⟩
set_option maxRecDepth 20000 in
set_option maxHeartbeats 3200000 in
theorem once_10 (hp : Iss w pa p) (hpl : p.length ≤ maxLen) (hr : Row w (some q) l) (h8 : l.length = 8) (hn : ∀ x ∈ l, n32 x = true) (hi : Row w ia i) (hil : i.length ≤ maxLen) (hk100 : k ≤ 100) (a : Nat) (b : Int) (hk : k < p.length) (ha : a < 8) (hx : p.getD k zIs = (10, (a : Int), (b : Int))) :
    Calls Try.prog 35 #[.slice pa p.length pcap, .agg (vmC k (.slice (some q) 8 rc) false false), .slice ia i.length ic] w (OnceR w ⟨(k : Int) + 1, l, false, false⟩ [(b, l.getD a 0)] 0) := by
  obtain ⟨qb, qo, hq, hql, _⟩ := Row.at hr 0 (by omega)
  simp only [Option.some.injEq] at hq
  subst hq
  have HR := hid hr
  have HI := hid hi
  have HP := hid hp
  have HNN := hid hn
  have H8 := hid h8
  have HCL := hid (fun V (hb : Below w.heap.size w V) => (by have := cloneIL_some ⟨qb, qo, none⟩ rc l V (Row.below hr hb (Nat.le_refl _)) (by rw [h8]; unfold maxLen; decide) (by rw [h8]; decide); rwa [h8] at this : Calls Try.prog 20 #[.slice (some ⟨qb, qo, none⟩) 8 rc] V fun e w' => (∃ v, e = .returned v ∧ OwnI w' V.heap.size v l) ∧ Below V.heap.size V w'))
  have hw2 : wrap64 ((k : Int) + 1) = (k : Int) + 1 := by unfold wrap64; omega
  have hw : IntKind.i64.wrap ((k : Int) + 1) = (k : Int) + 1 := by rw [IntWalk.i64_left]; exact hw2
  unfold maxLen at hpl hil
  clear hr hi hp h8 hql hn
  go_enter Try.func35, Try.ntmps35
  go_upto_region 3 with fail
  have HX := hid (B2.start w (vmC k (.slice (some ⟨qb, qo, none⟩) 8 rc) false false) zV 25 25)
  have hs := B2.size HX.out
  have y0 := HX.out.c0 0
  have y1 := HX.out.c0 1
  have e0 : (vmC k (.slice (some ⟨qb, qo, none⟩) 8 rc) false false)[0]? = some (.int .i64 k) := rfl
  have e1 : (vmC k (.slice (some ⟨qb, qo, none⟩) 8 rc) false false)[1]? = some (.slice (some ⟨qb, qo, none⟩) 8 rc) := rfl
  rw [e0] at y0
  rw [e1] at y1
  clear e0 e1
  generalize (w.alloc (.cells (vmC k (.slice (some ⟨qb, qo, none⟩) 8 rc) false false) 25)).alloc (.cells zV 25) = W0 at *
  have hs1 : w.heap.size < W0.heap.size := by omega
  have nz1 : ¬ w.heap.size = W0.heap.size := by omega
  have nz2 : ¬ W0.heap.size = w.heap.size := by omega
  go_cut [10] from 14 to 167 (fun v10 wc => ∃ bx g cap, v10 = .pointer (some ⟨bx, 0, none⟩) ∧ Hid (Mo w wc (vmC k (.slice (some ⟨qb, qo, none⟩) 8 rc) false false) bx g cap ⟨k + 1, l, false, false⟩))
  case first =>
    go_region_held3 (fun V => V.cell? ⟨w.heap.size, 0, none⟩ = some (.int .i64 k) ∧ V.cell? ⟨w.heap.size, 1, none⟩ = some (.slice (some ⟨qb, qo, none⟩) 8 rc)) (go_keep)
      (first
        | (go_at_call 20
           refine (HCL.out _ ?_).mono ?_
           · exact HX.out.bel.drew
           rintro e w5 ⟨⟨v5, rfl, ho5⟩, hb5⟩
           have hb5' : Below W0.heap.size W0 w5 := (Below.refl _ _).drew.trans hb5
           obtain ⟨g5, cap5, rfl⟩ := own8 ho5 H8.out
           have HX5 := hid (HX.out.step hb5')
           have HO5 := hid ho5
           have z0 := (hb5'.cell hs1).trans y0
           have z1 := (hb5'.cell hs1).trans y1
           clear ho5 hb5 hb5')
        | (go_at_call 20
           refine (HCL.out _ ?_).mono ?_
           · exact (HX.out.bel.alloc HX.out.bel.size _).drew
           rintro e w5 ⟨⟨v5, rfl, ho5⟩, hb5⟩
           have hb5' : Below W0.heap.size W0 w5 := (((Below.refl _ _).alloc (Nat.le_refl _) _).drew).trans (hb5.mono (by simp))
           have hn5 : w5.heap[W0.heap.size]? = some (.cells zV 25) := (hb5.block W0.heap.size (by simp)).trans (heap_alloc_new W0 _)
           obtain ⟨g5, cap5, rfl⟩ := own8 ho5 H8.out
           have HX5 := hid (HX.out.step hb5')
           have HN5 := hid hn5
           have HO5 := hid ho5
           have z0 := (hb5'.cell hs1).trans y0
           have z1 := (hb5'.cell hs1).trans y1
           have n0 := froz_box hn5 0
           have n1 := froz_box hn5 1
           have n2 := froz_box hn5 2
           have n3 := froz_box hn5 3
           have m0 := box_cell hn5 0
           have m1 := box_cell hn5 1
           have m2 := box_cell hn5 2
           have m3 := box_cell hn5 3
           simp at m0 m1 m2 m3
           clear ho5 hb5 hb5' hn5))
    all_goals (go_wp2_with fail)
    all_goals go_meet
    · exact ⟨_, _, _, rfl, ⟨HX5.out.step ((Below.refl _ _).alloc (Nat.le_refl _) _), box_new _ _ _, OwnI.below (OwnI.base' HO5.out (by simp; omega)) ((Below.refl _ _).alloc (Nat.le_refl _) _) (Nat.le_refl _), HX5.out.size, H8.out⟩⟩
    · exact ⟨_, _, _, rfl, ⟨⟨st4_below HX5.out.b hs⟩, st4_heap HN5.out, st4_own _ _ _ _ (OwnI.base' HO5.out (by simp; omega)) HN5.out (by decide), hs, H8.out⟩⟩
  case rest =>
    obtain ⟨bx, g, cap, rfl, HM⟩ := hcut
    clear hs hs1 nz1 nz2 y0 y1 HCL HX
    have v0 := HM.out.b2.c0 0
    have e0 : (vmC k (.slice (some ⟨qb, qo, none⟩) 8 rc) false false)[0]? = some (.int .i64 k) := rfl
    rw [e0] at v0
    clear e0
    have gk : ((k : Int) == (p.length : Int)) = false := by simp; omega
    have ik : (k : Int) < (p.length : Int) := by omega
    obtain ⟨pb, po, rfl, hpb, c0, c1, c2⟩ := (HP.out.below HM.out.b2.bel (Nat.le_refl _)).at k hk
    rw [show p.getD k zIs = (10, (a : Int), (b : Int)) from hx] at c0 c1 c2
    simp only at c0 c1 c2
    have HBT := hid (fun w => (by have := rbtw_any 10 2 5 w; rwa [show decide ((2 : Int) ≤ 10 ∧ (10 : Int) ≤ 5) = false from by decide] at this : Calls Try.prog 33 #[.int .i64 10, .int .i64 2, .int .i64 5] w fun e w' => e = .returned (.bool false) ∧ w' = w))
    go_upto_region 8 with fail
    have HM1 := hid (HM.out.alloc (.cells #[.int .i64 10, .int .i64 a, .int .i64 b] 45))
    have bb := box_new wc #[.int .i64 10, .int .i64 a, .int .i64 b] 45
    have hbl : wc.heap.size < (wc.alloc (.cells #[.int .i64 10, .int .i64 a, .int .i64 b] 45)).heap.size := by rw [World.size_alloc]; omega
    have hbn : w.heap.size + 2 ≤ wc.heap.size := HM.out.b2.size
    have nbx : ¬ bx = wc.heap.size := by have := HM.out.lt; omega
    have ngx : ¬ g = wc.heap.size := by have := HM.out.row; omega
    clear v0 c0 c1 c2 hpb
    generalize (wc.alloc (.cells #[.int .i64 10, .int .i64 a, .int .i64 b] 45)) = W1 at *
    generalize wc.heap.size = bn at *
    have b0 : W1.cell? ⟨bn, 0, none⟩ = some (.int .i64 10) := box_cell bb 0
    have b1 : W1.cell? ⟨bn, 1, none⟩ = some (.int .i64 a) := box_cell bb 1
    have b2 : W1.cell? ⟨bn, 2, none⟩ = some (.int .i64 b) := box_cell bb 2
    have HBB := hid bb
    clear bb
    have v0 := HM1.out.b2.c0 0
    have v1 := HM1.out.b2.c0 1
    have e0 : (vmC k (.slice (some ⟨qb, qo, none⟩) 8 rc) false false)[0]? = some (.int .i64 k) := rfl
    have e1 : (vmC k (.slice (some ⟨qb, qo, none⟩) 8 rc) false false)[1]? = some (.slice (some ⟨qb, qo, none⟩) 8 rc) := rfl
    rw [e0] at v0
    rw [e1] at v1
    clear e0 e1
    obtain ⟨qb', qo', hq1, hq2, ra0⟩ := Row.at (Row.below HR.out HM1.out.b2.bel (Nat.le_refl _)) a (by have := H8.out; omega)
    simp only [Option.some.injEq, Addr.mk.injEq, and_true] at hq1
    obtain ⟨rfl, rfl⟩ := hq1
    obtain ⟨d0, d1, d2, d3⟩ := HM1.out.c
    have ga := HM1.out.gc a ha
    have gf := HM1.out.gf a
    have k0 := HM1.out.bf 0
    have k2 := HM1.out.bf 2
    have i1 : (a : Int) < 8 := by omega
    have hgne := HM1.out.ne
    simp only at ga
    obtain ⟨ra, hra⟩ : ∃ r, r = l.getD a 0 := ⟨_, rfl⟩
    have HRA := hid hra
    rw [← hra] at ra0 ga
    clear hra hq2
    go_upto_region 34 with (go_at_call 33; refine (HBT.out _).mono ?_; rintro e w' ⟨rfl, hww⟩; replace hww := hww.symm; subst hww)
    obtain ⟨r0, r1, r2, r3⟩ := HM1.out.r
    have s0 := HM1.out.rf 0
    have s1 := HM1.out.rf 1
    have s2 := HM1.out.rf 2
    have s3 := HM1.out.rf 3
    have nr1 : ¬ bx = w.heap.size + 1 := by have := HM1.out.ge; omega
    have nr2 : ¬ w.heap.size + 1 = bx := by have := HM1.out.ge; omega
    have nb1 : ¬ bn = w.heap.size + 1 := by omega
    have nb2 : ¬ w.heap.size + 1 = bn := by omega
    have HA := hid (fun o => HM1.out.alloc o)
    have qa0 := fun o => (HA.out o).r.1
    have qa1 := fun o => (HA.out o).r.2.1
    have qa2 := fun o => (HA.out o).r.2.2.1
    have qa3 := fun o => (HA.out o).r.2.2.2
    have qf0 := fun o => (HA.out o).rf 0
    have qf1 := fun o => (HA.out o).rf 1
    have qf2 := fun o => (HA.out o).rf 2
    have qf3 := fun o => (HA.out o).rf 3
    go_region_held3 (fun V => V.cell? ⟨bx, 0, none⟩ = some (.int .i64 ((k : Int) + 1)) ∧ V.cell? ⟨bx, 1, none⟩ = some (vS g 8 cap) ∧ V.cell? ⟨bx, 2, none⟩ = some (.bool false) ∧ V.cell? ⟨bx, 3, none⟩ = some (.bool false) ∧ V.cell? ⟨bn, 2, none⟩ = some (.int .i64 b)) (go_keep) (fail)
    all_goals go_wp2_with fail
    · obtain ⟨w7, hw7⟩ : ∃ y, y = (retW w (W1.alloc (.cells #[.int .i64 b, .int .i64 ra] 39)) g cap ⟨(k : Int) + 1, l, false, false⟩).drew := ⟨_, rfl⟩
      have hw8 := hw7
      simp only [retW, st4] at hw8
      rw [← hw8]
      clear hw8
      have HE := hid (HM1.out.alloc (.cells #[.int .i64 b, .int .i64 ra] 39)).ret
      have HB7 : Hid (Below w.heap.size w w7) := by rw [hw7]; exact HE.out.2.2.drew
      have HO7 : Hid (OwnI w7 w.heap.size (vS g 8 cap) l) := by rw [hw7]; exact World.ownsRow.drew HE.out.2.1
      have HRES : Hid (Sem.run Try.prog (loadVar 25 ⟨w.heap.size + 1, 0, none⟩) w7 = .ok (.agg (vmC ((k : Int) + 1) (vS g 8 cap) false false)) w7) := by
        refine load_vm ?_
        rw [hw7]
        exact st4_heap (B2.box1 (HM1.out.alloc (.cells #[.int .i64 b, .int .i64 ra] 39)).b2)
      have HEM : Hid (w7.heap[W1.heap.size]? = some (.cells #[.int .i64 b, .int .i64 ra] 39)) := by
        rw [hw7]
        exact (st4_other _ _ _ _ (by omega)).trans (heap_alloc_new W1 _)
      (try simp only [Exit.inBlock, Exit.then])
      refine bodyPost_ret (by simp [results, Try.results35]; rw [as_addr, Result.andThen_ok, HRES.out, Result.andThen_ok]) rfl ?_
      exact ⟨⟨_, _, _, rfl, HO7.out, .inr ⟨W1.heap.size, (b, l.getD a 0), rfl, rfl, by omega, by rw [← HRA.out]; exact HEM.out⟩⟩, HB7.out⟩
    · obtain ⟨w7, hw7⟩ : ∃ y, y = ((retW w W1 g cap ⟨(k : Int) + 1, l, false, false⟩).alloc (.cells #[.int .i64 b, .int .i64 ra] 39)).drew := ⟨_, rfl⟩
      have hw8 := hw7
      simp only [retW, st4] at hw8
      rw [← hw8]
      clear hw8
      have HE := hid HM1.out.ret
      have HB7 : Hid (Below w.heap.size w w7) := by rw [hw7]; exact (HE.out.2.2.alloc HE.out.2.2.size _).drew
      have HO7 : Hid (OwnI w7 w.heap.size (vS g 8 cap) l) := by rw [hw7]; exact World.ownsRow.drew (OwnI.below HE.out.2.1 ((Below.refl _ _).alloc (Nat.le_refl _) _) (Nat.le_refl _))
      have HRES : Hid (Sem.run Try.prog (loadVar 25 ⟨w.heap.size + 1, 0, none⟩) w7 = .ok (.agg (vmC ((k : Int) + 1) (vS g 8 cap) false false)) w7) := by
        refine load_vm ?_
        rw [hw7]
        exact box_alloc (st4_heap (B2.box1 HM1.out.b2)) _
      have hsz : (retW w W1 g cap ⟨(k : Int) + 1, l, false, false⟩).heap.size = W1.heap.size := by simp [retW, st4]
      have HEM : Hid (w7.heap[W1.heap.size]? = some (.cells #[.int .i64 b, .int .i64 ra] 39)) := by
        rw [hw7, ← hsz]
        exact heap_alloc_new (retW w W1 g cap ⟨(k : Int) + 1, l, false, false⟩) _
      (try simp only [Exit.inBlock, Exit.then])
      refine bodyPost_ret (by simp [results, Try.results35]; rw [as_addr, Result.andThen_ok, HRES.out, Result.andThen_ok]) rfl ?_
      exact ⟨⟨_, _, _, rfl, HO7.out, .inr ⟨W1.heap.size, (b, l.getD a 0), rfl, rfl, by omega, by rw [← HRA.out]; exact HEM.out⟩⟩, HB7.out⟩
set_option maxRecDepth 20000 in
set_option maxHeartbeats 3200000 in
theorem once_11 (hp : Iss w pa p) (hpl : p.length ≤ maxLen) (hr : Row w (some q) l) (h8 : l.length = 8) (hn : ∀ x ∈ l, n32 x = true) (hi : Row w ia i) (hil : i.length ≤ maxLen) (hk100 : k ≤ 100) (a : Nat) (b : Int) (hk : k < p.length) (ha : a < 8) (hx : p.getD k zIs = (11, (a : Int), (b : Int))) :
    Calls Try.prog 35 #[.slice pa p.length pcap, .agg (vmC k (.slice (some q) 8 rc) false false), .slice ia i.length ic] w (OnceR w ⟨(k : Int), l, true, false⟩ [] 0) := by
  obtain ⟨qb, qo, hq, hql, _⟩ := Row.at hr 0 (by omega)
  simp only [Option.some.injEq] at hq
  subst hq
  have HR := hid hr
  have HI := hid hi
  have HP := hid hp
  have HNN := hid hn
  have H8 := hid h8
  have HCL := hid (fun V (hb : Below w.heap.size w V) => (by have := cloneIL_some ⟨qb, qo, none⟩ rc l V (Row.below hr hb (Nat.le_refl _)) (by rw [h8]; unfold maxLen; decide) (by rw [h8]; decide); rwa [h8] at this : Calls Try.prog 20 #[.slice (some ⟨qb, qo, none⟩) 8 rc] V fun e w' => (∃ v, e = .returned v ∧ OwnI w' V.heap.size v l) ∧ Below V.heap.size V w'))
  have hw2 : wrap64 ((k : Int) + 1) = (k : Int) + 1 := by unfold wrap64; omega
  have hw : IntKind.i64.wrap ((k : Int) + 1) = (k : Int) + 1 := by rw [IntWalk.i64_left]; exact hw2
  unfold maxLen at hpl hil
  clear hr hi hp h8 hql hn
  go_enter Try.func35, Try.ntmps35
  go_upto_region 3 with fail
  have HX := hid (B2.start w (vmC k (.slice (some ⟨qb, qo, none⟩) 8 rc) false false) zV 25 25)
  have hs := B2.size HX.out
  have y0 := HX.out.c0 0
  have y1 := HX.out.c0 1
  have e0 : (vmC k (.slice (some ⟨qb, qo, none⟩) 8 rc) false false)[0]? = some (.int .i64 k) := rfl
  have e1 : (vmC k (.slice (some ⟨qb, qo, none⟩) 8 rc) false false)[1]? = some (.slice (some ⟨qb, qo, none⟩) 8 rc) := rfl
  rw [e0] at y0
  rw [e1] at y1
  clear e0 e1
  generalize (w.alloc (.cells (vmC k (.slice (some ⟨qb, qo, none⟩) 8 rc) false false) 25)).alloc (.cells zV 25) = W0 at *
  have hs1 : w.heap.size < W0.heap.size := by omega
  have nz1 : ¬ w.heap.size = W0.heap.size := by omega
  have nz2 : ¬ W0.heap.size = w.heap.size := by omega
  go_cut [10] from 14 to 167 (fun v10 wc => ∃ bx g cap, v10 = .pointer (some ⟨bx, 0, none⟩) ∧ Hid (Mo w wc (vmC k (.slice (some ⟨qb, qo, none⟩) 8 rc) false false) bx g cap ⟨k + 1, l, false, false⟩))
  case first =>
    go_region_held3 (fun V => V.cell? ⟨w.heap.size, 0, none⟩ = some (.int .i64 k) ∧ V.cell? ⟨w.heap.size, 1, none⟩ = some (.slice (some ⟨qb, qo, none⟩) 8 rc)) (go_keep)
      (first
        | (go_at_call 20
           refine (HCL.out _ ?_).mono ?_
           · exact HX.out.bel.drew
           rintro e w5 ⟨⟨v5, rfl, ho5⟩, hb5⟩
           have hb5' : Below W0.heap.size W0 w5 := (Below.refl _ _).drew.trans hb5
           obtain ⟨g5, cap5, rfl⟩ := own8 ho5 H8.out
           have HX5 := hid (HX.out.step hb5')
           have HO5 := hid ho5
           have z0 := (hb5'.cell hs1).trans y0
           have z1 := (hb5'.cell hs1).trans y1
           clear ho5 hb5 hb5')
        | (go_at_call 20
           refine (HCL.out _ ?_).mono ?_
           · exact (HX.out.bel.alloc HX.out.bel.size _).drew
           rintro e w5 ⟨⟨v5, rfl, ho5⟩, hb5⟩
           have hb5' : Below W0.heap.size W0 w5 := (((Below.refl _ _).alloc (Nat.le_refl _) _).drew).trans (hb5.mono (by simp))
           have hn5 : w5.heap[W0.heap.size]? = some (.cells zV 25) := (hb5.block W0.heap.size (by simp)).trans (heap_alloc_new W0 _)
           obtain ⟨g5, cap5, rfl⟩ := own8 ho5 H8.out
           have HX5 := hid (HX.out.step hb5')
           have HN5 := hid hn5
           have HO5 := hid ho5
           have z0 := (hb5'.cell hs1).trans y0
           have z1 := (hb5'.cell hs1).trans y1
           have n0 := froz_box hn5 0
           have n1 := froz_box hn5 1
           have n2 := froz_box hn5 2
           have n3 := froz_box hn5 3
           have m0 := box_cell hn5 0
           have m1 := box_cell hn5 1
           have m2 := box_cell hn5 2
           have m3 := box_cell hn5 3
           simp at m0 m1 m2 m3
           clear ho5 hb5 hb5' hn5))
    all_goals (go_wp2_with fail)
    all_goals go_meet
    · exact ⟨_, _, _, rfl, ⟨HX5.out.step ((Below.refl _ _).alloc (Nat.le_refl _) _), box_new _ _ _, OwnI.below (OwnI.base' HO5.out (by simp; omega)) ((Below.refl _ _).alloc (Nat.le_refl _) _) (Nat.le_refl _), HX5.out.size, H8.out⟩⟩
    · exact ⟨_, _, _, rfl, ⟨⟨st4_below HX5.out.b hs⟩, st4_heap HN5.out, st4_own _ _ _ _ (OwnI.base' HO5.out (by simp; omega)) HN5.out (by decide), hs, H8.out⟩⟩
  case rest =>
    obtain ⟨bx, g, cap, rfl, HM⟩ := hcut
    clear hs hs1 nz1 nz2 y0 y1 HCL HX
    have v0 := HM.out.b2.c0 0
    have e0 : (vmC k (.slice (some ⟨qb, qo, none⟩) 8 rc) false false)[0]? = some (.int .i64 k) := rfl
    rw [e0] at v0
    clear e0
    have gk : ((k : Int) == (p.length : Int)) = false := by simp; omega
    have ik : (k : Int) < (p.length : Int) := by omega
    obtain ⟨pb, po, rfl, hpb, c0, c1, c2⟩ := (HP.out.below HM.out.b2.bel (Nat.le_refl _)).at k hk
    rw [show p.getD k zIs = (11, (a : Int), (b : Int)) from hx] at c0 c1 c2
    simp only at c0 c1 c2
    have HBT := hid (fun w => (by have := rbtw_any 11 2 5 w; rwa [show decide ((2 : Int) ≤ 11 ∧ (11 : Int) ≤ 5) = false from by decide] at this : Calls Try.prog 33 #[.int .i64 11, .int .i64 2, .int .i64 5] w fun e w' => e = .returned (.bool false) ∧ w' = w))
    go_upto_region 8 with fail
    have HM1 := hid (HM.out.alloc (.cells #[.int .i64 11, .int .i64 a, .int .i64 b] 45))
    have bb := box_new wc #[.int .i64 11, .int .i64 a, .int .i64 b] 45
    have hbl : wc.heap.size < (wc.alloc (.cells #[.int .i64 11, .int .i64 a, .int .i64 b] 45)).heap.size := by rw [World.size_alloc]; omega
    have hbn : w.heap.size + 2 ≤ wc.heap.size := HM.out.b2.size
    have nbx : ¬ bx = wc.heap.size := by have := HM.out.lt; omega
    have ngx : ¬ g = wc.heap.size := by have := HM.out.row; omega
    clear v0 c0 c1 c2 hpb
    generalize (wc.alloc (.cells #[.int .i64 11, .int .i64 a, .int .i64 b] 45)) = W1 at *
    generalize wc.heap.size = bn at *
    have b0 : W1.cell? ⟨bn, 0, none⟩ = some (.int .i64 11) := box_cell bb 0
    have b1 : W1.cell? ⟨bn, 1, none⟩ = some (.int .i64 a) := box_cell bb 1
    have b2 : W1.cell? ⟨bn, 2, none⟩ = some (.int .i64 b) := box_cell bb 2
    have HBB := hid bb
    clear bb
    have v0 := HM1.out.b2.c0 0
    have v1 := HM1.out.b2.c0 1
    have e0 : (vmC k (.slice (some ⟨qb, qo, none⟩) 8 rc) false false)[0]? = some (.int .i64 k) := rfl
    have e1 : (vmC k (.slice (some ⟨qb, qo, none⟩) 8 rc) false false)[1]? = some (.slice (some ⟨qb, qo, none⟩) 8 rc) := rfl
    rw [e0] at v0
    rw [e1] at v1
    clear e0 e1
    obtain ⟨qb', qo', hq1, hq2, ra0⟩ := Row.at (Row.below HR.out HM1.out.b2.bel (Nat.le_refl _)) a (by have := H8.out; omega)
    simp only [Option.some.injEq, Addr.mk.injEq, and_true] at hq1
    obtain ⟨rfl, rfl⟩ := hq1
    obtain ⟨d0, d1, d2, d3⟩ := HM1.out.c
    have ga := HM1.out.gc a ha
    have gf := HM1.out.gf a
    have k0 := HM1.out.bf 0
    have k2 := HM1.out.bf 2
    have i1 : (a : Int) < 8 := by omega
    have hgne := HM1.out.ne
    simp only at ga
    obtain ⟨ra, hra⟩ : ∃ r, r = l.getD a 0 := ⟨_, rfl⟩
    have HRA := hid hra
    rw [← hra] at ra0 ga
    clear hra hq2
    go_upto_region 37 with (go_at_call 33; refine (HBT.out _).mono ?_; rintro e w' ⟨rfl, hww⟩; replace hww := hww.symm; subst hww)
    have HM3 : Hid (Mo w ((W1.setCell ⟨bx, 0, none⟩ (.int .i64 k)).setCell ⟨bx, 2, none⟩ (.bool true)) (vmC k (.slice (some ⟨qb, qo, none⟩) 8 rc) false false) bx g cap ⟨(k : Int), l, true, false⟩) := (HM1.out.setBox 0 (.int .i64 k) ⟨k, l, false, false⟩ rfl rfl).setBox 2 (.bool true) ⟨k, l, true, false⟩ rfl rfl
    generalize ((W1.setCell ⟨bx, 0, none⟩ (.int .i64 k)).setCell ⟨bx, 2, none⟩ (.bool true)) = W3 at *
    obtain ⟨x0, x1, x2, x3⟩ := HM3.out.c
    simp only at x0 x1 x2 x3
    obtain ⟨r0, r1, r2, r3⟩ := HM3.out.r
    have s0 := HM3.out.rf 0
    have s1 := HM3.out.rf 1
    have s2 := HM3.out.rf 2
    have s3 := HM3.out.rf 3
    have nr1 : ¬ bx = w.heap.size + 1 := by have := HM3.out.ge; omega
    have nr2 : ¬ w.heap.size + 1 = bx := by have := HM3.out.ge; omega
    go_wp2_with fail
    have HE := hid HM3.out.ret
    simp only [retW, st4] at HE
    (try simp only [Exit.inBlock, Exit.then])
    refine bodyPost_ret (by simp [results, Try.results35]; rw [as_addr, Result.andThen_ok, HE.out.1, Result.andThen_ok]) rfl ?_
    exact ⟨⟨_, _, _, rfl, HE.out.2.1, .inl ⟨rfl, rfl⟩⟩, HE.out.2.2⟩
set_option maxRecDepth 20000 in
set_option maxHeartbeats 3200000 in
theorem once_end (hp : Iss w pa p) (hpl : p.length ≤ maxLen) (hr : Row w (some q) l) (h8 : l.length = 8) (hn : ∀ x ∈ l, n32 x = true) (hi : Row w ia i) (hil : i.length ≤ maxLen) (hk100 : k ≤ 100) (hk : k = p.length) :
    Calls Try.prog 35 #[.slice pa p.length pcap, .agg (vmC k (.slice (some q) 8 rc) false false), .slice ia i.length ic] w (OnceR w ⟨(k : Int), l, false, true⟩ [] 0) := by
  have HKE := hid hk
  clear hk
  obtain ⟨qb, qo, hq, hql, _⟩ := Row.at hr 0 (by omega)
  simp only [Option.some.injEq] at hq
  subst hq
  have HR := hid hr
  have HI := hid hi
  have HP := hid hp
  have HNN := hid hn
  have H8 := hid h8
  have HCL := hid (fun V (hb : Below w.heap.size w V) => (by have := cloneIL_some ⟨qb, qo, none⟩ rc l V (Row.below hr hb (Nat.le_refl _)) (by rw [h8]; unfold maxLen; decide) (by rw [h8]; decide); rwa [h8] at this : Calls Try.prog 20 #[.slice (some ⟨qb, qo, none⟩) 8 rc] V fun e w' => (∃ v, e = .returned v ∧ OwnI w' V.heap.size v l) ∧ Below V.heap.size V w'))
  have hw2 : wrap64 ((k : Int) + 1) = (k : Int) + 1 := by unfold wrap64; omega
  have hw : IntKind.i64.wrap ((k : Int) + 1) = (k : Int) + 1 := by rw [IntWalk.i64_left]; exact hw2
  unfold maxLen at hpl hil
  clear hr hi hp h8 hql hn
  go_enter Try.func35, Try.ntmps35
  go_upto_region 3 with fail
  have HX := hid (B2.start w (vmC k (.slice (some ⟨qb, qo, none⟩) 8 rc) false false) zV 25 25)
  have hs := B2.size HX.out
  have y0 := HX.out.c0 0
  have y1 := HX.out.c0 1
  have e0 : (vmC k (.slice (some ⟨qb, qo, none⟩) 8 rc) false false)[0]? = some (.int .i64 k) := rfl
  have e1 : (vmC k (.slice (some ⟨qb, qo, none⟩) 8 rc) false false)[1]? = some (.slice (some ⟨qb, qo, none⟩) 8 rc) := rfl
  rw [e0] at y0
  rw [e1] at y1
  clear e0 e1
  generalize (w.alloc (.cells (vmC k (.slice (some ⟨qb, qo, none⟩) 8 rc) false false) 25)).alloc (.cells zV 25) = W0 at *
  have hs1 : w.heap.size < W0.heap.size := by omega
  have nz1 : ¬ w.heap.size = W0.heap.size := by omega
  have nz2 : ¬ W0.heap.size = w.heap.size := by omega
  go_cut [10] from 14 to 167 (fun v10 wc => ∃ bx g cap, v10 = .pointer (some ⟨bx, 0, none⟩) ∧ Hid (Mo w wc (vmC k (.slice (some ⟨qb, qo, none⟩) 8 rc) false false) bx g cap ⟨k + 1, l, false, false⟩))
  case first =>
    go_region_held3 (fun V => V.cell? ⟨w.heap.size, 0, none⟩ = some (.int .i64 k) ∧ V.cell? ⟨w.heap.size, 1, none⟩ = some (.slice (some ⟨qb, qo, none⟩) 8 rc)) (go_keep)
      (first
        | (go_at_call 20
           refine (HCL.out _ ?_).mono ?_
           · exact HX.out.bel.drew
           rintro e w5 ⟨⟨v5, rfl, ho5⟩, hb5⟩
           have hb5' : Below W0.heap.size W0 w5 := (Below.refl _ _).drew.trans hb5
           obtain ⟨g5, cap5, rfl⟩ := own8 ho5 H8.out
           have HX5 := hid (HX.out.step hb5')
           have HO5 := hid ho5
           have z0 := (hb5'.cell hs1).trans y0
           have z1 := (hb5'.cell hs1).trans y1
           clear ho5 hb5 hb5')
        | (go_at_call 20
           refine (HCL.out _ ?_).mono ?_
           · exact (HX.out.bel.alloc HX.out.bel.size _).drew
           rintro e w5 ⟨⟨v5, rfl, ho5⟩, hb5⟩
           have hb5' : Below W0.heap.size W0 w5 := (((Below.refl _ _).alloc (Nat.le_refl _) _).drew).trans (hb5.mono (by simp))
           have hn5 : w5.heap[W0.heap.size]? = some (.cells zV 25) := (hb5.block W0.heap.size (by simp)).trans (heap_alloc_new W0 _)
           obtain ⟨g5, cap5, rfl⟩ := own8 ho5 H8.out
           have HX5 := hid (HX.out.step hb5')
           have HN5 := hid hn5
           have HO5 := hid ho5
           have z0 := (hb5'.cell hs1).trans y0
           have z1 := (hb5'.cell hs1).trans y1
           have n0 := froz_box hn5 0
           have n1 := froz_box hn5 1
           have n2 := froz_box hn5 2
           have n3 := froz_box hn5 3
           have m0 := box_cell hn5 0
           have m1 := box_cell hn5 1
           have m2 := box_cell hn5 2
           have m3 := box_cell hn5 3
           simp at m0 m1 m2 m3
           clear ho5 hb5 hb5' hn5))
    all_goals (go_wp2_with fail)
    all_goals go_meet
    · exact ⟨_, _, _, rfl, ⟨HX5.out.step ((Below.refl _ _).alloc (Nat.le_refl _) _), box_new _ _ _, OwnI.below (OwnI.base' HO5.out (by simp; omega)) ((Below.refl _ _).alloc (Nat.le_refl _) _) (Nat.le_refl _), HX5.out.size, H8.out⟩⟩
    · exact ⟨_, _, _, rfl, ⟨⟨st4_below HX5.out.b hs⟩, st4_heap HN5.out, st4_own _ _ _ _ (OwnI.base' HO5.out (by simp; omega)) HN5.out (by decide), hs, H8.out⟩⟩
  case rest =>
    obtain ⟨bx, g, cap, rfl, HM⟩ := hcut
    clear hs hs1 nz1 nz2 y0 y1 HCL HX
    have v0 := HM.out.b2.c0 0
    have e0 : (vmC k (.slice (some ⟨qb, qo, none⟩) 8 rc) false false)[0]? = some (.int .i64 k) := rfl
    rw [e0] at v0
    clear e0
    have gk : ((k : Int) == (p.length : Int)) = true := by rw [HKE.out]; simp
    obtain ⟨d0, d1, d2, d3⟩ := HM.out.c
    have k0 := HM.out.bf 0
    have k3 := HM.out.bf 3
    go_upto_region 6 with fail
    have HM3 : Hid (Mo w ((wc.setCell ⟨bx, 0, none⟩ (.int .i64 k)).setCell ⟨bx, 3, none⟩ (.bool true)) (vmC k (.slice (some ⟨qb, qo, none⟩) 8 rc) false false) bx g cap ⟨(k : Int), l, false, true⟩) := (HM.out.setBox 0 (.int .i64 k) ⟨k, l, false, false⟩ rfl rfl).setBox 3 (.bool true) ⟨k, l, false, true⟩ rfl rfl
    generalize ((wc.setCell ⟨bx, 0, none⟩ (.int .i64 k)).setCell ⟨bx, 3, none⟩ (.bool true)) = W3 at *
    obtain ⟨x0, x1, x2, x3⟩ := HM3.out.c
    simp only at x0 x1 x2 x3
    obtain ⟨r0, r1, r2, r3⟩ := HM3.out.r
    have s0 := HM3.out.rf 0
    have s1 := HM3.out.rf 1
    have s2 := HM3.out.rf 2
    have s3 := HM3.out.rf 3
    have nr1 : ¬ bx = w.heap.size + 1 := by have := HM3.out.ge; omega
    have nr2 : ¬ w.heap.size + 1 = bx := by have := HM3.out.ge; omega
    go_wp2_with fail
    have HE := hid HM3.out.ret
    simp only [retW, st4] at HE
    (try simp only [Exit.inBlock, Exit.then])
    refine bodyPost_ret (by simp [results, Try.results35]; rw [as_addr, Result.andThen_ok, HE.out.1, Result.andThen_ok]) rfl ?_
    exact ⟨⟨_, _, _, rfl, HE.out.2.1, .inl ⟨rfl, rfl⟩⟩, HE.out.2.2⟩
end
end VmC
end Go.Proofs.Ytceflfdpbgnfjaa
