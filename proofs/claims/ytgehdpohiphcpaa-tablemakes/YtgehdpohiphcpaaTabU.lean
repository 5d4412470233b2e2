/- Contracts of package table: cut, turnsOfFrame. -/
import Derived.Test.YtgehdpohiphcpaaTabW
import Derived.Test.YtgehdpohiphcpaaTabM2
set_option linter.unusedVariables false
namespace Go.Proofs.Ytgehdpohiphcpaa
open Go.RowKit
open SpanM SpanC TabM
namespace TabC
theorem set30 {W : World} {R : Nat} {x : Value} (h : W.cell? ⟨R, 0, none⟩ = some x) (u : Value) : (W.setCell ⟨R, 0, none⟩ u).cell? ⟨R, 0, none⟩ = some u := World.cell?_setCell_same _ _ _ h
theorem set31 {W : World} {R : Nat} {x : Value} (h : W.cell? ⟨R, 1, none⟩ = some x) (u u' : Value) : ((W.setCell ⟨R, 0, none⟩ u).setCell ⟨R, 1, none⟩ u').cell? ⟨R, 1, none⟩ = some u' :=
  World.cell?_setCell_same _ _ _ ((World.cell?_setCell_other _ _ _ _ (by simp)).trans h)
theorem set32 {W : World} {R : Nat} {x : Value} (h : W.cell? ⟨R, 2, none⟩ = some x) (u u' u'' : Value) : (((W.setCell ⟨R, 0, none⟩ u).setCell ⟨R, 1, none⟩ u').setCell ⟨R, 2, none⟩ u'').cell? ⟨R, 2, none⟩ = some u'' :=
  World.cell?_setCell_same _ _ _ ((World.cell?_setCell_other _ _ _ _ (by simp)).trans ((World.cell?_setCell_other _ _ _ _ (by simp)).trans h))
set_option maxHeartbeats 800000 in
theorem cut_any (f n o a b : Int) (w : World) (hf : 0 ≤ f) (hf2 : f ≤ 2000000000000) (hn : 0 ≤ n) (hn2 : n ≤ 2000000000000) (ha : 0 ≤ a) (ha2 : a ≤ 2000000000000) (hb : 0 ≤ b) (hb2 : b ≤ 2000000000000) :
    Calls Try.prog 53 #[.agg #[.int .i64 f, .int .i64 n, .int .i64 o], .int .i64 a, .int .i64 b] w fun e w' => e = .returned (.agg #[.int .i64 (max f a), .int .i64 (min (f + n) b - max f a), .int .i64 o]) ∧ Below w.heap.size w w' := by
  obtain ⟨x, hx⟩ : ∃ x, max f a = x := ⟨_, rfl⟩
  obtain ⟨y, hy⟩ : ∃ y, min (f + n) b = y := ⟨_, rfl⟩
  have x1 : 0 ≤ x := by omega
  have x2 : x ≤ 2000000000000 := by omega
  have y1 : 0 ≤ y := by omega
  have y2 : y ≤ 4000000000000 := by omega
  rw [hx, hy]
  go_enter Try.func53, Try.ntmps53
  go_wp2_with fail
  have c0 : ((w.alloc (.cells #[.int .i64 f, .int .i64 n, .int .i64 o] 50)).alloc (.cells #[.int .i64 0, .int .i64 0, .int .i64 0] 50)).cell? ⟨w.heap.size, 0, none⟩ = some (.int .i64 f) := (World.cell?_alloc_lt _ _ _ (by simp)).trans (World.cell?_alloc_at _ _ _ _ rfl)
  have c1 : ((w.alloc (.cells #[.int .i64 f, .int .i64 n, .int .i64 o] 50)).alloc (.cells #[.int .i64 0, .int .i64 0, .int .i64 0] 50)).cell? ⟨w.heap.size, 1, none⟩ = some (.int .i64 n) := (World.cell?_alloc_lt _ _ _ (by simp)).trans (World.cell?_alloc_at _ _ _ _ rfl)
  have c2 : ((w.alloc (.cells #[.int .i64 f, .int .i64 n, .int .i64 o] 50)).alloc (.cells #[.int .i64 0, .int .i64 0, .int .i64 0] 50)).cell? ⟨w.heap.size, 2, none⟩ = some (.int .i64 o) := (World.cell?_alloc_lt _ _ _ (by simp)).trans (World.cell?_alloc_at _ _ _ _ rfl)
  have HC2 := hid c2
  have p0 := BelowOf.cell c0
  have p1 := BelowOf.cell c1
  have p2 := BelowOf.cell c2
  clear c0 c1 c2
  refine wp_region_quiet_below (by kernel_rfl) (by kernel_rfl) ?_
  repeat (quiet_step (first | (rename_i p; refine Calls.below_of p (endOf_any _ _ _ _ (by omega) (by omega)))))
  refine wpQuiet_nil ?_
  rintro wq ⟨⟨_, hbq⟩, rfl⟩
  have e2 := (hbq.cell (p := ⟨w.heap.size, 2, none⟩) (by simp; omega)).trans HC2.out
  have r0 := (hbq.cell (p := ⟨w.heap.size + 1, 0, none⟩) (by simp)).trans (World.cell?_alloc_at _ _ _ _ (by simp))
  have r1 := (hbq.cell (p := ⟨w.heap.size + 1, 1, none⟩) (by simp)).trans (World.cell?_alloc_at _ _ _ _ (by simp))
  have r2 := (hbq.cell (p := ⟨w.heap.size + 1, 2, none⟩) (by simp)).trans (World.cell?_alloc_at _ _ _ _ (by simp))
  have f0 := (hbq.frozen (p := ⟨w.heap.size + 1, 0, none⟩) (by simp)).trans (World.frozen?_alloc_at _ _ _ _ (by simp))
  have f1 := (hbq.frozen (p := ⟨w.heap.size + 1, 1, none⟩) (by simp)).trans (World.frozen?_alloc_at _ _ _ _ (by simp))
  have f2 := (hbq.frozen (p := ⟨w.heap.size + 1, 2, none⟩) (by simp)).trans (World.frozen?_alloc_at _ _ _ _ (by simp))
  have hsz := hbq.size
  simp only [World.size_alloc] at hsz
  have HB := hid (bel_al (Below.alloc (Below.refl w.heap.size w) (Nat.le_refl _) _) (by simp) hbq)
  clear hbq p0 p1 p2
  go_wp2_with fail
  all_goals
    have z0 := set30 (x := .int .i64 0) r0
    have z1 := set31 (x := .int .i64 0) r1
    have z2 := set32 (x := .int .i64 0) r2
    have hr : w.heap.size + 1 < wq.heap.size := by omega
    have ex : (f < a ∧ x = a) ∨ (¬ f < a ∧ x = f) := by omega
    have ey : (f + n ≤ b ∧ y = f + n) ∨ (¬ f + n ≤ b ∧ y = b) := by omega
    clear hx hy
    rcases ex with ⟨ex, rfl⟩ | ⟨ex, rfl⟩ <;> rcases ey with ⟨ey, rfl⟩ | ⟨ey, rfl⟩
    all_goals
      first
      | (exfalso; omega)
      | (refine bodyPost_ret (v := .agg #[.int .i64 x, .int .i64 (f + n - x), .int .i64 o]) (by simp [results, Try.results53, go_sem, z0, z1, z2]) rfl ⟨rfl, by have := HB.out; go_grown⟩; done)
      | (refine bodyPost_ret (v := .agg #[.int .i64 x, .int .i64 (y - x), .int .i64 o]) (by simp [results, Try.results53, go_sem, z0, z1, z2]) rfl ⟨rfl, by have := HB.out; go_grown⟩; done)
      | (refine bodyPost_ret (v := .agg #[.int .i64 x, .int .i64 (x + n - x), .int .i64 o]) (by simp [results, Try.results53, go_sem, z0, z1, z2]) rfl ⟨rfl, by have := HB.out; go_grown⟩; done)
set_option maxHeartbeats 1600000 in
theorem tof_any (size : Int) (a : Option Addr) (cap : Nat) (l : List Win) (w : World) (hr : Wns w a l) (hk : tchk size l = 0) :
    Calls Try.prog 51 #[.agg #[.int .i64 size, .slice a l.length cap]] w fun e w' => (∃ v L, e = .returned v ∧ OwnW w' w.heap.size v L ∧ Rle (wown l) none 0 L size ∧ L.length ≤ 401) ∧ Below w.heap.size w w' := by
  obtain ⟨s1, s2, s3, s4⟩ := tchk_zero hk
  have HG := hid (wgood_each s4)
  have HS := hid s4
  have HR := hid hr
  clear hr hk s4
  go_enter Try.func51, Try.ntmps51
  go_wp2_with fail
  go_loopw [3, 4, 10] (fun v3 v4 v10 wr => ∃ (k : Nat) (E : Int) (acc : List Win), k ≤ l.length ∧ v4 = .int .i64 E ∧ v10 = .int .i64 k ∧ Hid (E = wend 0 (l.take k)) ∧ 0 ≤ E ∧ E ≤ size ∧ Hid (Rle (wown l) none 0 acc E) ∧ acc.length ≤ 2 * k ∧ OwnW wr (w.heap.size + 1) v3 acc ∧ Below (w.heap.size + 1) (w.alloc (.cells #[.int .i64 size, .slice a l.length cap] 24)) wr) (fun _ _ v10 _ => l.length - (intOf v10).toNat)
  case atStart => exact ⟨0, 0, [], by omega, rfl, rfl, by show _ = _; simp [wend], by omega, by omega, by show Rle _ _ _ _ _; simp [Rle], by simp, OwnW.nil _ _, Below.refl _ _⟩
  case round =>
    obtain ⟨k, E, acc, hk, rfl, rfl, hE, hE0, hE1, hL, hal, ho, hb⟩ := hrel
    have HO := hid ho
    have HB := hid hb
    have hsz := hb.size
    simp only [World.size_alloc] at hsz
    have HY : Hid (∀ y ∈ acc, 0 ≤ y.2.1 ∧ y.2.1 ≤ 2000000000000) := fun y hy => by
      obtain ⟨q1, q2, q3, _⟩ := hL.out.each y hy
      omega
    obtain ⟨p3, n3, c3, hv3⟩ := ho.slice
    subst hv3
    by_cases hlt : k < l.length
    · obtain ⟨b, off, rfl, hbw, d1, d2, d3⟩ := HR.out.get hb k hlt
      have hge := HG.out (l.getD k z3) (by simp [List.getD, hlt])
      have hd := take_snoc z3 l k hlt
      have hd2 := drop_get z3 l k hlt
      have hsp : l = l.take k ++ l.getD k z3 :: l.drop (k + 1) := by rw [← hd2, List.take_append_drop]
      have hfit : wfit size (wend 0 (l.take k)) (l.getD k z3) := by
        have := HS.out
        rw [hsp, wgood_append] at this
        exact (wgood_cons.1 this.2).1
      have hmem : l.getD k z3 ∈ l := by simp [List.getD, hlt]
      clear ho hb hd2
      generalize l.getD k z3 = z at d1 d2 d3 hd hge hsp hfit hmem
      obtain ⟨f, n, o⟩ := z
      have HSP := hid hsp
      have HM := hid hmem
      have HD := hid hd
      rw [← hE.out] at hfit
      clear hd hsp hmem
      simp only [wfit] at d1 d2 d3 hge hfit
      obtain ⟨g1, g2, g3, g4, g5⟩ := hge
      have g6 : E ≤ f := hfit.2.2.1
      clear hfit
      -- what the first add makes of it
      have hL1 : Rle (wown l) none 0 (addW acc (E, f - E, -1)) f := by
        have := hL.out.add (w := (E, f - E, -1)) (fun _ => rfl) (fun t ht => by
          unfold inW at ht
          simp only at ht ⊢
          have e := HSP.out
          have hs := HS.out
          rw [e] at hs ⊢
          exact wown_gap hs (by rw [← hE.out]; omega) (by simp only; omega))
        simp only at this
        rwa [show E + max 0 (f - E) = f by omega] at this
      have hL2 : Rle (wown l) none 0 (addW (addW acc (E, f - E, -1)) (f, n, o)) (f + n) := by
        have := hL1.add (w := (f, n, o)) (fun _ => rfl) (fun t ht => wown_in (wgood_apart HS.out) HM.out ht)
        simp only at this
        rwa [show f + max 0 n = f + n by omega] at this
      have l1 := addW_len acc (E, f - E, -1)
      have l2 := addW_len (addW acc (E, f - E, -1)) (f, n, o)
      have HY1 : Hid (∀ y ∈ addW acc (E, f - E, -1), 0 ≤ y.2.1 ∧ y.2.1 ≤ 2000000000000) := fun y hy => by
        obtain ⟨q1, q2, q3, _⟩ := hL1.each y hy
        omega
      have HL2 := hid hL2
      clear hL1 hL2
      obtain ⟨A1, hA1⟩ : ∃ A1, addW acc (E, f - E, -1) = A1 := ⟨_, rfl⟩
      rw [hA1] at l1 l2 HY1 HL2
      obtain ⟨A2, hA2⟩ : ∃ A2, addW A1 (f, n, o) = A2 := ⟨_, rfl⟩
      rw [hA2] at l2 HL2
      have HA1 := hid hA1
      have HA2 := hid hA2
      have l3 : A2.length ≤ 2 * (k + 1) := by omega
      have l4 : A1.length ≤ 1000 := by omega
      have l5 : acc.length ≤ 1000 := by omega
      clear hA1 hA2 l1 l2 hal
      go_wp2_with fail
      refine (add_any _ acc E (f - E) (-1) (w.heap.size + 1) _ (HO.out.below (Below.alloc (Below.refl _ _) (Nat.le_refl _) _) (Nat.le_refl _)) (by simp; omega) l5 HY.out (by omega)).mono ?_
      rintro e w2 ⟨v2, rfl, ho2, hg2, hst2⟩
      rw [HA1.out] at ho2
      have HOa := hid (HO.out.below (Below.alloc (Below.refl _ _) (Nat.le_refl _) (.cells #[.int .i64 f, .int .i64 n, .int .i64 o] 50)) (Nat.le_refl _))
      have HB2 := hid (((Below.alloc HB.out hsz (.cells #[.int .i64 f, .int .i64 n, .int .i64 o] 50))).trans (HOa.out.to_below hg2 (Nat.le_refl _) (by simp; omega)))
      have hfr := HO.out.fresh (Nat.le_refl _)
      have hfr2 := hid (hst2 wr.heap.size (by simp) hfr)
      have hs2 := hg2.size
      simp only [World.size_alloc] at hs2
      have c0 := hg2.cell (a := ⟨wr.heap.size, 0, none⟩) (World.cell?_alloc_at _ _ _ _ rfl) hfr
      have c1 := hg2.cell (a := ⟨wr.heap.size, 1, none⟩) (World.cell?_alloc_at _ _ _ _ rfl) hfr
      have c2 := hg2.cell (a := ⟨wr.heap.size, 2, none⟩) (World.cell?_alloc_at _ _ _ _ rfl) hfr
      obtain ⟨p4, n4, c4, hv4⟩ := ho2.slice
      subst hv4
      have HO2 := hid ho2
      have HG2 := hid hg2
      clear ho2 hg2 hfr hst2
      go_wp2_with fail
      refine (add_any _ A1 f n o (w.heap.size + 1) _ HO2.out (by omega) l4 HY1.out (by omega)).mono ?_
      rintro e w3 ⟨v3, rfl, ho3, hg3, hst3⟩
      rw [HA2.out] at ho3
      have HB3 := hid (HB2.out.trans (HO2.out.to_below hg3 (Nat.le_refl _) (by omega)))
      have hs3 := hg3.size
      have c0' := hg3.cell (a := ⟨wr.heap.size, 0, none⟩) c0 hfr2.out
      have c1' := hg3.cell (a := ⟨wr.heap.size, 1, none⟩) c1 hfr2.out
      have c2' := hg3.cell (a := ⟨wr.heap.size, 2, none⟩) c2 hfr2.out
      obtain ⟨p5, n5, c5, hv5⟩ := ho3.slice
      subst hv5
      have HO3 := hid ho3
      clear ho3 hg3 hst3 c0 c1 c2
      go_wp2_with fail
      refine (endOf_any _ _ _ _ (by omega) (by omega)).mono ?_
      rintro e w4 ⟨rfl, hb4⟩
      have HO4 := hid (HO3.out.below hb4 (Nat.le_refl _))
      have HB4 := hid (HB3.out.trans (hb4.mono (by omega)))
      clear hb4 c0' c1' c2'
      go_wp2_with fail
      go_roundw
      case rel =>
        refine ⟨k + 1, f + n, A2, by omega, rfl, by go_num, ?_, by omega, by omega, HL2, l3, HO4.out, HB4.out⟩
        show _ = _
        rw [HD.out, wend_snoc]
      case measure => simp [intOf]; omega
    · have he : l.take k = l := List.take_of_length_le (by omega)
      have hEl : E = wend 0 l := by rw [hE.out, he]
      have hLl : Rle (wown l) none 0 (addW acc (E, size - E, -1)) size := by
        have := hL.out.add (w := (E, size - E, -1)) (fun _ => rfl) (fun t ht => by
          unfold inW at ht
          simp only at ht ⊢
          exact wown_last HS.out (by omega))
        simp only at this
        rwa [show E + max 0 (size - E) = size by omega] at this
      have l1 := addW_len acc (E, size - E, -1)
      have HLl := hid hLl
      have hl401 : (addW acc (E, size - E, -1)).length ≤ 401 := by omega
      have l5 : acc.length ≤ 1000 := by omega
      have d4 : wr.cell? ⟨w.heap.size, 0, none⟩ = some (.int .i64 size) := (hb.cell (by simp)).trans (World.cell?_alloc_at _ _ _ _ rfl)
      clear ho hb hLl l1 hEl he
      obtain ⟨A1, hA1⟩ : ∃ A1, addW acc (E, size - E, -1) = A1 := ⟨_, rfl⟩
      rw [hA1] at HLl hl401
      have HA1 := hid hA1
      clear hA1
      go_wp2_with fail
      refine (add_any _ acc E (size - E) (-1) (w.heap.size + 1) _ HO.out (by omega) l5 HY.out (by omega)).mono ?_
      rintro e w2 ⟨v2, rfl, ho2, hg2, hst2⟩
      rw [HA1.out] at ho2
      have HB2 := hid (HB.out.trans (HO.out.to_below hg2 (Nat.le_refl _) (by omega)))
      obtain ⟨p4, n4, c4, hv4⟩ := ho2.slice
      subst hv4
      have HO2 := hid ho2
      clear ho2 hg2 hst2
      go_wp2_with fail
      go_ret
      exact ⟨⟨_, A1, rfl, HO2.out.base (by omega), HLl.out, hl401⟩, of_alloc HB2.out⟩
end TabC
end Go.Proofs.Ytgehdpohiphcpaa
