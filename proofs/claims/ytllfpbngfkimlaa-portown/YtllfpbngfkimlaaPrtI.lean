/- Package port: Play. -/
import Derived.Test.YtllfpbngfkimlaaPrtH
set_option linter.unusedVariables false
namespace Go.Proofs.Ytllfpbngfkimlaa
open Go.RowKit
open Go.Shelf Go.Sort
open SpanM SpanC IntsC
namespace PortC
open PrtM
set_option maxRecDepth 20000 in
set_option maxHeartbeats 400000 in
theorem Play_chk (kd sz rm fr E : Int) (a : Option Addr) (n c : Nat) (w : World) (hE : (E != 0) = true)
    (HC : ∀ wx, Below w.heap.size w wx → Calls Try.prog 18 #[.agg #[.int .i64 kd, .int .i64 sz, .int .i64 rm, .int .i64 fr, .slice none 0 0, .int .i64 0]] wx fun e w' => e = .returned (.int .i64 E) ∧ Below wx.heap.size wx w') :
    Calls Try.prog 21 #[.int .i64 kd, .int .i64 sz, .int .i64 rm, .int .i64 fr, .slice a n c] w fun e w' => e = .returned (.tuple #[.agg z6, .slice none 0 0, .int .i64 E]) ∧ Below w.heap.size w w' := by
  have HM := hid HC
  clear HC
  go_enter Try.func21, Try.ntmps21
  go_wp2_with (go_at_call 18; refine (HM.out _ (by go_grown)).mono ?_; rintro e w2 ⟨rfl, b2⟩; obtain ⟨q1, q2, hb, hs⟩ := two_ports b2; have Q1 := hid q1; have HB := hid hb; obtain ⟨y0, y1, y2, y3, y4, y5⟩ := six_of q1; have y6 := froz_of q1 0; have y7 := froz_of q1 1; have y8 := froz_of q1 2; have y9 := froz_of q1 3; have y10 := froz_of q1 4; have y11 := froz_of q1 5; clear b2 q1 q2 hb hs)
  obtain ⟨w7, hw7⟩ : ∃ y, y = st6 w2 w.heap.size (.int .i64 0) (.int .i64 0) (.int .i64 0) (.int .i64 0) (.slice none 0 0) (.int .i64 0) := ⟨_, rfl⟩
  have hw8 := hw7
  simp only [st6] at hw8
  rw [← hw8]
  clear hw8
  have HR1 : Hid (Sem.run Try.prog (loadVar 36 ⟨w.heap.size, 0, none⟩) w7 = .ok (.agg z6) w7) := by rw [hw7]; exact load_port (st6_heap Q1.out)
  have HB7 : Hid (Below w.heap.size w w7) := by rw [hw7]; exact st6_below HB.out (Nat.le_refl _)
  (try simp only [Exit.inBlock, Exit.then])
  refine bodyPost_ret (by simp [results, Try.results21]; rw [as_addr, Result.andThen_ok, HR1.out, Result.andThen_ok]) rfl ?_
  exact ⟨rfl, HB7.out⟩
set_option maxRecDepth 20000 in
set_option maxHeartbeats 400000 in
theorem Play_large (kd sz rm fr : Int) (a : Option Addr) (n c : Nat) (w : World) (hn : (500 : Int) < (n : Int))
    (HC : ∀ wx, Below w.heap.size w wx → Calls Try.prog 18 #[.agg #[.int .i64 kd, .int .i64 sz, .int .i64 rm, .int .i64 fr, .slice none 0 0, .int .i64 0]] wx fun e w' => e = .returned (.int .i64 0) ∧ Below wx.heap.size wx w') :
    Calls Try.prog 21 #[.int .i64 kd, .int .i64 sz, .int .i64 rm, .int .i64 fr, .slice a n c] w fun e w' => e = .returned (.tuple #[.agg z6, .slice none 0 0, .int .i64 2]) ∧ Below w.heap.size w w' := by
  have HM := hid HC
  clear HC
  go_enter Try.func21, Try.ntmps21
  go_wp2_with (go_at_call 18; refine (HM.out _ (by go_grown)).mono ?_; rintro e w2 ⟨rfl, b2⟩; obtain ⟨q1, q2, hb, hs⟩ := two_ports b2; have Q1 := hid q1; have HB := hid hb; obtain ⟨y0, y1, y2, y3, y4, y5⟩ := six_of q1; have y6 := froz_of q1 0; have y7 := froz_of q1 1; have y8 := froz_of q1 2; have y9 := froz_of q1 3; have y10 := froz_of q1 4; have y11 := froz_of q1 5; clear b2 q1 q2 hb hs)
  obtain ⟨w7, hw7⟩ : ∃ y, y = st6 w2 w.heap.size (.int .i64 0) (.int .i64 0) (.int .i64 0) (.int .i64 0) (.slice none 0 0) (.int .i64 0) := ⟨_, rfl⟩
  have hw8 := hw7
  simp only [st6] at hw8
  rw [← hw8]
  clear hw8
  have HR1 : Hid (Sem.run Try.prog (loadVar 36 ⟨w.heap.size, 0, none⟩) w7 = .ok (.agg z6) w7) := by rw [hw7]; exact load_port (st6_heap Q1.out)
  have HB7 : Hid (Below w.heap.size w w7) := by rw [hw7]; exact st6_below HB.out (Nat.le_refl _)
  (try simp only [Exit.inBlock, Exit.then])
  refine bodyPost_ret (by simp [results, Try.results21]; rw [as_addr, Result.andThen_ok, HR1.out, Result.andThen_ok]) rfl ?_
  exact ⟨rfl, HB7.out⟩
theorem own_pick {w4 : World} {B C : Nat} {u v : Value} {p p' : Pt} (h : u = v ∧ p' = p ∨ OwnS w4 C u p'.texts) (h1 : OwnS w4 B v p.texts) (hC : B ≤ C) : OwnS w4 B u p'.texts := by
  rcases h with ⟨rfl, e⟩ | h
  · rw [e]; exact h1
  · exact RowG.Own.base h hC
set_option maxRecDepth 20000 in
set_option maxHeartbeats 800000 in
theorem Play_ok (kd sz rm fr : Int) (a : Option Addr) (c : Nat) (l : List PrtM.Op) (w : World) (hl : l.length ≤ 500) (hr : RdO w a l)
    (HC : ∀ wx, Below w.heap.size w wx → Calls Try.prog 18 #[.agg #[.int .i64 kd, .int .i64 sz, .int .i64 rm, .int .i64 fr, .slice none 0 0, .int .i64 0]] wx fun e w' => e = .returned (.int .i64 0) ∧ Below wx.heap.size wx w') :
    Calls Try.prog 21 #[.int .i64 kd, .int .i64 sz, .int .i64 rm, .int .i64 fr, .slice a l.length c] w fun e w' => (∃ u g, e = .returned (.tuple #[vP (fin ⟨kd, sz, rm, fr, [], 0⟩ l) u, vS g l.length l.length, .int .i64 0]) ∧ OwnS w' w.heap.size u (fin ⟨kd, sz, rm, fr, [], 0⟩ l).texts ∧ OwnA w' w.heap.size (vS g l.length l.length) (told ⟨kd, sz, rm, fr, [], 0⟩ l)) ∧ Below w.heap.size w w' := by
  have HM := hid HC
  obtain ⟨i0, hi, hz0, hz1, hz2⟩ := info_parts infoAn
  have Hi := hid hi
  have Hz0 := hid hz0
  have Hz1 := hid hz1
  have Hz2 := hid hz2
  obtain ⟨p0, hp0⟩ : ∃ p0 : Pt, p0 = ⟨kd, sz, rm, fr, [], 0⟩ := ⟨_, rfl⟩
  rw [← hp0]
  have HP0 := hid hp0
  obtain ⟨F, hF⟩ : ∃ F : Nat → Pt, ∀ k, F k = fin p0 (l.take k) := ⟨_, fun _ => rfl⟩
  obtain ⟨tb, htb⟩ : ∃ tb : Nat → List An, ∀ k, tb k = TB p0 l k := ⟨_, fun _ => rfl⟩
  have HT0 : Hid (tb 0 = List.replicate l.length zAn) := by show _ = _; rw [htb, TB_zero]
  have HF0 : Hid (F 0 = p0) := by show _ = _; rw [hF, List.take_zero]; rfl
  have HTL : Hid (∀ k, k ≤ l.length → (tb k).length = l.length) := fun k h => by rw [htb]; exact TB_len p0 l h
  have HTS : Hid (∀ k, k < l.length → (tb k).set k (doA (F k) (l.getD k zOp)) = tb (k + 1)) := fun k h => by rw [htb, htb, hF]; exact TB_set p0 l h
  have HTA : Hid (tb l.length = told p0 l) := by show _ = _; rw [htb]; exact TB_all p0 l
  have HFS : Hid (∀ k, k < l.length → F (k + 1) = doP (F k) (l.getD k zOp)) := fun k h => by rw [hF, hF]; exact fin_step p0 l k h
  have HFA : Hid (F l.length = fin p0 l) := by show _ = _; rw [hF, List.take_length]
  have HMADE := hid (madeAn l.length)
  have HRD := hid (fun k (hk : k < l.length) => RdO.get hr k hk)
  have HBL : Hid (∀ k, k < l.length → ∀ b off, a = some ⟨b, off, none⟩ → b < w.heap.size) := fun k hk b off e => by
    obtain ⟨b', off', e', c1, _⟩ := RdO.get hr k hk
    rw [e] at e'
    cases e'
    exact World.block_lt_of_cell? w _ c1
  generalize fin p0 l = FF at *
  generalize told p0 l = TT at *
  obtain ⟨n, hn⟩ : ∃ n, n = l.length := ⟨_, rfl⟩
  rw [← hn] at HT0 HTL HTS HTA HFS HFA HMADE HRD HBL hl ⊢
  clear hi hz0 hz1 hz2 hr HC hp0 hF htb hn
  go_enter Try.func21, Try.ntmps21
  go_wp2_with (first | (go_at_call 18; refine (HM.out _ (by go_grown)).mono ?_; rintro e w2 ⟨rfl, b2⟩; obtain ⟨q1, q2, hb, hs⟩ := two_ports b2; have Q1 := hid q1; have Q2 := hid q2; have HB := hid hb; have HS := hid hs; clear b2 q1 q2 hb hs) | (at_make; refine wpList_make_full _ rfl _ _ 51 rfl w.heap.size 44 i0 (.agg #[.string e0, .bool false, .int .i64 0]) 3 Try.underlying51 Hi.out Hz0.out Hz1.out _ _ _ _ n rfl rfl (by rfl) (by rfl) (by rw [Hz2.out]; omega) (by unfold maxLen; omega) HB.out.size ?_; intro w3 hown hgrow; have HOWN := hid hown; have HGR := hid hgrow; clear hown hgrow))
  have hst : Hid (PL w w3 p0 (tb 0) w2.heap.size n) := by
    refine ⟨box_grown Q1.out HGR.out (by simp), ⟨.slice none 0 0, ?_, ?_⟩, ?_, Below.grown HB.out HGR.out HB.out.size (fun k hk => by simp at hk), HS.out⟩
    · rw [HP0.out]; exact box_grown Q2.out HGR.out (by simp)
    · rw [HP0.out]; exact RowG.Own.nil _ _ _ _
    · rw [HT0.out]
      unfold OwnA RowG.Own
      rw [List.length_replicate, ← HMADE.out]
      exact HOWN.out
  generalize w2.heap.size = g at *
  have HB3 := hid hst.out.bel
  go_loopw [38] (fun v38 wr => ∃ k : Nat, k ≤ n ∧ v38 = .int .i64 k ∧ Hid (PL w wr (F k) (tb k) g n)) (fun v38 _ => n - (intOf v38).toNat)
  case atStart => exact ⟨0, by omega, rfl, by rw [HF0.out]; exact hst⟩
  case round =>
    obtain ⟨k, hk, rfl, HPL⟩ := hrel
    by_cases hlt : k < n
    · obtain ⟨b, off, hab, c1, c2, c3⟩ := HRD.out k hlt
      have hbw := HBL.out k hlt b off hab
      have hb := HPL.out.bel
      replace c1 := (hb.cell hbw).trans c1
      replace c2 := (hb.cell hbw).trans c2
      replace c3 := (hb.cell hbw).trans c3
      subst hab
      have HTS2 := hid (HTS.out k hlt)
      have HFS2 := hid (HFS.out k hlt)
      have HTL2 := hid (HTL.out k hk)
      have i1 : (k : Int) < (n : Int) := by omega
      generalize l.getD k zOp = o at *
      obtain ⟨ok, onow, os⟩ := o
      simp only at c1 c2 c3
      obtain ⟨v, hbx, hov⟩ := HPL.out.box
      obtain ⟨av, cv, rfl, hrv, hnv, hcv⟩ := own_rd hov
      have HDO := hid (fun wx (hx : Below wr.heap.size wr wx) => do_any (F k) (ok, onow, os) av cv wx (hrv.below hx (Nat.le_refl _)) hnv hcv)
      have HOV := hid hov
      have HBX := hid hbx
      generalize doA (F k) (ok, onow, os) = A at *
      generalize doP (F k) (ok, onow, os) = p' at *
      generalize F k = p at *
      obtain ⟨a0, a1, a2⟩ := A
      obtain ⟨k0, k1, k2, k3, lt, k5⟩ := p
      obtain ⟨j0, j1, j2, j3, lt', j5⟩ := p'
      simp only at HOV hbx HBX hrv hnv hcv
      simp only [vP, cP] at HDO
      have hq := box_alloc hbx (.cells #[.int .i64 ok, .int .i64 onow, .string os] 48)
      obtain ⟨d0, d1, d2, d3, d4, d5⟩ := six_of hq
      have HW1 := hid ((Below.refl wr.heap.size wr).alloc (Nat.le_refl _) (.cells #[.int .i64 ok, .int .i64 onow, .string os] 48))
      clear hb hbx hov hq hrv hnv hcv hbw
      have ng1 : ¬ g = w.heap.size + 1 := by have := HPL.out.hg; omega
      have ng2 : ¬ w.heap.size + 1 = g := by have := HPL.out.hg; omega
      go_wp2_with (go_at_call 45; refine (HDO.out _ HW1.out).mono ?_; rintro e w4 ⟨⟨u, rfl, hu⟩, b4⟩; have hb4 := HW1.out.trans (b4.mono HW1.out.size); have ho4 : OwnS w4 w.heap.size u lt' := own_pick hu (RowG.Own.below HOV.out hb4 (Nat.le_refl _)) (Nat.le_trans HPL.out.bel.size HW1.out.size); obtain ⟨au, nu, cu, hu2⟩ : ∃ au nu cu, u = .slice au nu cu := (by obtain ⟨a9, c9, e9⟩ := RowG.Own.slice ho4; exact ⟨_, _, _, e9⟩); subst hu2; have HO4 := hid ho4; have HP4 := hid (PL.below HPL.out hb4); have hq4 := box_below HBX.out hb4 (Nat.le_refl _); obtain ⟨p0', p1', p2', p3', p4', p5'⟩ := six_of hq4; have m0 := froz_of hq4 0; have m1 := froz_of hq4 1; have m2 := froz_of hq4 2; have m3 := froz_of hq4 3; have m4 := froz_of hq4 4; have m5 := froz_of hq4 5; have y0 := RowG.Own.cell HP4.out.told k 0 (by rw [HTL2.out]; exact hlt) (by decide); have y1 := RowG.Own.cell HP4.out.told k 1 (by rw [HTL2.out]; exact hlt) (by decide); have y2 := RowG.Own.cell HP4.out.told k 2 (by rw [HTL2.out]; exact hlt) (by decide); obtain ⟨z0, hz0⟩ : ∃ u, (EA.enc ((tb k)[k]'(by rw [HTL2.out]; exact hlt)))[0]? = some u := ⟨_, rfl⟩; obtain ⟨z1, hz1⟩ : ∃ u, (EA.enc ((tb k)[k]'(by rw [HTL2.out]; exact hlt)))[1]? = some u := ⟨_, rfl⟩; obtain ⟨z2, hz2⟩ : ∃ u, (EA.enc ((tb k)[k]'(by rw [HTL2.out]; exact hlt)))[2]? = some u := ⟨_, rfl⟩; rw [hz0] at y0; rw [hz1] at y1; rw [hz2] at y2; have hk3 : EA.k = 3 := rfl; rw [hk3] at y0 y1 y2; simp only [Nat.add_zero] at y0; have hfg := fun j => RowG.Own.frozen HP4.out.told j; clear hz0 hz1 hz2 hk3 hq4 hb4 b4 ho4 hu d0 d1 d2 d3 d4 d5 c1 c2 c3)
      refine ⟨⟨k + 1, by omega, by go_num, ?_⟩, by simp [intOf]; omega⟩
      have hput := PL.put (p' := ⟨j0, j1, j2, j3, lt', j5⟩) HP4.out (.slice au nu cu) HO4.out (by rw [HTL2.out]; exact hlt) (a0, a1, a2)
      rw [HTS2.out] at hput
      rw [HFS2.out]
      exact hput
    · obtain rfl : k = n := by omega
      have HPF := hid HPL.out
      rw [HFA.out, HTA.out] at HPF
      obtain ⟨v, hbx, hov⟩ := HPF.out.box
      obtain ⟨av, nv, cv, hv⟩ : ∃ av nv cv, v = .slice av nv cv := by obtain ⟨a9, c9, e9⟩ := RowG.Own.slice hov; exact ⟨_, _, _, e9⟩
      subst hv
      have HOV := hid hov
      obtain ⟨k0, k1, k2, k3, lt, k5⟩ := FF
      simp only at HOV hbx hov
      have HBX := hid hbx
      obtain ⟨p0', p1', p2', p3', p4', p5'⟩ := six_of hbx
      have hq4 := HPF.out.res
      obtain ⟨d0, d1, d2, d3, d4, d5⟩ := six_of hq4
      have m0 := froz_of hq4 0
      have m1 := froz_of hq4 1
      have m2 := froz_of hq4 2
      have m3 := froz_of hq4 3
      have m4 := froz_of hq4 4
      have m5 := froz_of hq4 5
      clear hbx hov hq4
      go_wp2_with fail
      obtain ⟨w7, hw7⟩ : ∃ y, y = st6 wr w.heap.size (.int .i64 k0) (.int .i64 k1) (.int .i64 k2) (.int .i64 k3) (.slice av nv cv) (.int .i64 k5) := ⟨_, rfl⟩
      have hw8 := hw7
      simp only [st6] at hw8
      rw [← hw8]
      clear hw8
      have HB7 : Hid (Below w.heap.size w w7) := by rw [hw7]; exact st6_below HPF.out.bel (Nat.le_refl _)
      have HO7 : Hid (OwnS w7 w.heap.size (.slice av nv cv) lt) := by rw [hw7]; exact st6_own HOV.out (orow_ne_box HOV.out HPF.out.res (by decide))
      have HA7 : Hid (OwnA w7 w.heap.size (vS g k k) TT) := by rw [hw7]; exact st6_own HPF.out.told (orow_ne_box HPF.out.told HPF.out.res (by decide))
      have HRES : Hid (Sem.run Try.prog (loadVar 36 ⟨w.heap.size, 0, none⟩) w7 = .ok (.agg #[.int .i64 k0, .int .i64 k1, .int .i64 k2, .int .i64 k3, .slice av nv cv, .int .i64 k5]) w7) := by rw [hw7]; exact load_port (st6_heap HPF.out.res)
      (try simp only [Exit.inBlock, Exit.then])
      refine bodyPost_ret (by simp [results, Try.results21]; rw [as_addr, Result.andThen_ok, HRES.out, Result.andThen_ok]) rfl ?_
      exact ⟨⟨_, g, rfl, HO7.out, HA7.out⟩, HB7.out⟩
theorem Play_any (kd sz rm fr : Int) (a : Option Addr) (c : Nat) (l : List PrtM.Op) (w : World) (hr : RdO w a l) :
    Calls Try.prog 21 #[.int .i64 kd, .int .i64 sz, .int .i64 rm, .int .i64 fr, .slice a l.length c] w fun e w' => ((plE ⟨kd, sz, rm, fr, [], 0⟩ l ≠ 0 ∧ e = .returned (.tuple #[.agg z6, .slice none 0 0, .int .i64 (plE ⟨kd, sz, rm, fr, [], 0⟩ l)])) ∨ (plE ⟨kd, sz, rm, fr, [], 0⟩ l = 0 ∧ ∃ u g, e = .returned (.tuple #[vP (fin ⟨kd, sz, rm, fr, [], 0⟩ l) u, vS g l.length l.length, .int .i64 0]) ∧ OwnS w' w.heap.size u (fin ⟨kd, sz, rm, fr, [], 0⟩ l).texts ∧ OwnA w' w.heap.size (vS g l.length l.length) (told ⟨kd, sz, rm, fr, [], 0⟩ l))) ∧ Below w.heap.size w w' := by
  have HC := fun wx (hb : Below w.heap.size w wx) => Check_any ⟨kd, sz, rm, fr, [], 0⟩ none 0 wx (.inl rfl)
  unfold plE
  by_cases h0 : chk ⟨kd, sz, rm, fr, [], 0⟩ = 0
  · rw [if_neg (by simp [h0])]
    rw [h0] at HC
    by_cases h1 : 500 < l.length
    · rw [if_pos h1]
      exact (Play_large kd sz rm fr a l.length c w (by omega) HC).mono fun e w' h => ⟨.inl ⟨by decide, h.1⟩, h.2⟩
    · rw [if_neg h1]
      exact (Play_ok kd sz rm fr a c l w (by omega) hr HC).mono fun e w' h => ⟨.inr ⟨rfl, h.1⟩, h.2⟩
  · rw [if_pos h0]
    exact (Play_chk kd sz rm fr _ a l.length c w (by simp [h0]) HC).mono fun e w' h => ⟨.inl ⟨h0, h.1⟩, h.2⟩
end PortC
end Go.Proofs.Ytllfpbngfkimlaa
