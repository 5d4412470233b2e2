/- The law PortPlays. -/
import Derived.Test.YtllfpbngfkimlaaPrtV
import Derived.Test.YtllfpbngfkimlaaPrtL1
set_option linter.unusedVariables false
namespace Go.Proofs.Ytllfpbngfkimlaa
open Go.RowKit
open Go.Shelf Go.Sort
open SpanM SpanC IntsC
namespace PortC
open PrtM
theorem TX.keep {w w' : World} {u : Value} {l : List ByteArray} (h : TX w u l) (hk : l = [] ∨ ∀ b o n c, u = .slice (some ⟨b, o, none⟩) n c → w'.heap[b]? = w.heap[b]?) : TX w' u l := by
  obtain ⟨a, c, rfl, hr, hn, hc⟩ := h
  refine ⟨a, c, rfl, ?_, hn, hc⟩
  rcases hk with rfl | hk
  · exact .inl rfl
  · rcases hr with rfl | ⟨b, off, rfl, hr⟩
    · exact .inl rfl
    · refine .inr ⟨b, off, rfl, fun i j hi hj => ?_⟩
      rw [← hr i j hi hj]
      simp [World.cell?, hk b off _ _ rfl]
/-- what PortPlays has behind so many ops -/
structure RL (w1 w2 wr : World) (q : Pt) (v : Value) : Prop where
  box : wr.heap[w1.heap.size + 1]? = some (.cells (cP q v) 36)
  tx : TX wr v q.texts
  blk : ∀ b o n c, v = .slice (some ⟨b, o, none⟩) n c → b < wr.heap.size ∧ b ≠ w1.heap.size + 1
  bel : Below (w1.heap.size + 1) w2 wr
theorem RL.next {w1 w2 wr w4 : World} {q q' : Pt} {v u : Value} {o1 o2 : Obj} {A : An} (h : RL w1 w2 wr q v) (b4 : Below ((wr.alloc o1).alloc o2).heap.size ((wr.alloc o1).alloc o2) w4) (tx : TX w4 u q'.texts) (bk : BK v u ((wr.alloc o1).alloc o2).heap.size w4.heap.size) (ho2 : ∃ y0 y1 y2, o2 = .cells #[y0, y1, y2] 44) :
    RL w1 w2 (st3 (st6 w4 (w1.heap.size + 1) (.int .i64 q'.kind) (.int .i64 q'.size) (.int .i64 q'.room) (.int .i64 q'.fresh) u (.int .i64 q'.tm)) (wr.heap.size + 1) (.string A.1) (.bool A.2.1) (.int .i64 A.2.2)) q' u ∧
    (st3 (st6 w4 (w1.heap.size + 1) (.int .i64 q'.kind) (.int .i64 q'.size) (.int .i64 q'.room) (.int .i64 q'.fresh) u (.int .i64 q'.tm)) (wr.heap.size + 1) (.string A.1) (.bool A.2.1) (.int .i64 A.2.2)).heap[wr.heap.size + 1]? = some (.cells #[.string A.1, .bool A.2.1, .int .i64 A.2.2] 44) := by
  have l1 := (Array.getElem?_eq_some_iff.1 h.box).1
  have hs : wr.heap.size + 1 + 1 ≤ w4.heap.size := by have := b4.size; simp only [World.size_alloc] at this; exact this
  simp only [World.size_alloc] at bk
  have hbw : Below wr.heap.size wr w4 := (((Below.refl _ wr).alloc (Nat.le_refl _) o1).alloc (by rw [World.size_alloc]; omega) o2).trans (b4.mono (by simp only [World.size_alloc]; omega))
  have hb : ∀ b o n c, u = .slice (some ⟨b, o, none⟩) n c → b ≠ w1.heap.size + 1 ∧ b ≠ wr.heap.size + 1 ∧ b < w4.heap.size := fun b o n c e => by
    rcases bk b o n c e with ⟨k1, k2⟩ | ⟨o', n', c', e'⟩
    · exact ⟨by omega, by omega, k2⟩
    · have := h.blk b o' n' c' e'
      exact ⟨this.2, by omega, by omega⟩
  obtain ⟨y0, y1, y2, rfl⟩ := ho2
  have hab : w4.heap[wr.heap.size + 1]? = some (.cells #[y0, y1, y2] 44) := (b4.block _ (by simp only [World.size_alloc]; omega)).trans (by have := (al2 wr o1 (.cells #[y0, y1, y2] 44)).2; exact this)
  refine ⟨⟨?_, ?_, ?_, ?_⟩, st3_heap ((st6_other _ _ _ _ _ _ (by omega)).trans hab)⟩
  · exact (st3_other _ _ _ (by omega)).trans (st6_heap (box_below h.box hbw (Nat.le_refl _)))
  · refine tx.keep (.inr fun b o n c e => ?_)
    obtain ⟨k1, k2, _⟩ := hb b o n c e
    exact (st3_other _ _ _ k2).trans (st6_other _ _ _ _ _ _ k1)
  · intro b o n c e
    obtain ⟨k1, _, k3⟩ := hb b o n c e
    exact ⟨by simpa using k3, k1⟩
  · exact st3_below (st6_below (h.bel.trans (hbw.mono (by omega))) (Nat.le_refl _)) (by omega)
theorem RL.drewN {w1 w2 wr : World} {q : Pt} {v : Value} (h : RL w1 w2 wr q v) (n : Nat) : RL w1 w2 (wr.drewN n) q v :=
  ⟨h.box, h.tx, h.blk, below_drewN h.bel n⟩
theorem wf_zero : wf64 0 := ⟨by decide, by decide⟩
set_option maxRecDepth 20000 in
set_option maxHeartbeats 800000 in
theorem portPlays_no (n0 n1 n2 n3 : Int) (a : Option Addr) (c : Nat) (l : List PrtM.Op) (w : World) (hk : wf64 n0) (hr : RdO w a l) (h : plE ⟨n0, n1, n2, n3, [], 0⟩ l ≠ 0) :
    Calls Try.prog 5 #[.int .i64 n0, .int .i64 n1, .int .i64 n2, .int .i64 n3, .slice a l.length c] w fun e w' => e = .returned (.bool true) ∧ Below w.heap.size w w' := by
  have HP := hid (Play_no n0 n1 n2 n3 a c l w hr h)
  have HRT := hid (fun wx => Right_any ⟨n0, n1, n2, n3, [], 0⟩ hk none 0 wx (.inl rfl) (by simp))
  have HSM := hid (fun wx => same_yes 0 0 0 0 0 none none 0 0 0 [] wx (.inl rfl) (.inl rfl) rfl (by omega))
  simp only [vP, cP] at HRT
  have hE : (plE ⟨n0, n1, n2, n3, [], 0⟩ l != 0) = true := by simp [h]
  have hcs : (chk ⟨n0, n1, n2, n3, [], 0⟩ ≠ 0 ∧ plE ⟨n0, n1, n2, n3, [], 0⟩ l = chk ⟨n0, n1, n2, n3, [], 0⟩) ∨ (chk ⟨n0, n1, n2, n3, [], 0⟩ = 0 ∧ 500 < l.length ∧ plE ⟨n0, n1, n2, n3, [], 0⟩ l = 2) := by
    unfold plE at h ⊢
    by_cases q : chk ⟨n0, n1, n2, n3, [], 0⟩ = 0
    · rw [if_neg (by simp [q])] at h ⊢
      by_cases q2 : 500 < l.length
      · rw [if_pos q2]; exact .inr ⟨q, q2, rfl⟩
      · rw [if_neg q2] at h; exact absurd rfl h
    · rw [if_pos q]; exact .inl ⟨q, rfl⟩
  generalize plE ⟨n0, n1, n2, n3, [], 0⟩ l = E at *
  generalize chk ⟨n0, n1, n2, n3, [], 0⟩ = C at *
  generalize l.length = n at *
  clear hr h
  rcases hcs with ⟨q1, q2⟩ | ⟨q1, q2, q3⟩
  · subst q2
    have hC : (E == 0) = false := by simp [q1]
    clear q1
    go_enter Try.func5, Try.ntmps5
    go_wp2_with fail
    refine HP.out.mono ?_
    rintro e w1 ⟨rfl, b1⟩
    have HB1 := hid b1
    clear b1
    go_wp2_with fail
    refine (HRT.out _).mono ?_
    rintro e w2 ⟨rfl, b2⟩
    obtain ⟨t1, t2, t3, t4⟩ := two_ports b2
    have HB2 := hid (bel_of HB1.out t3)
    obtain ⟨d0, d1, d2, d3, d4, d5⟩ := six_of t1
    clear b2 t1 t2 t3 t4
    go_wp2_with fail
    refine (HSM.out _).mono ?_
    rintro e w3 ⟨rfl, b3⟩
    have HB3 := hid (bel_of HB2.out b3)
    clear b3
    go_wp2_with fail
    go_ret
    exact ⟨rfl, HB3.out⟩
  · subst q1
    subst q3
    have hn5 : (500 : Int) < (n : Int) := by omega
    clear q2
    go_enter Try.func5, Try.ntmps5
    go_wp2_with fail
    refine HP.out.mono ?_
    rintro e w1 ⟨rfl, b1⟩
    have HB1 := hid b1
    clear b1
    go_wp2_with fail
    refine (HRT.out _).mono ?_
    rintro e w2 ⟨rfl, b2⟩
    obtain ⟨t1, t2, t3, t4⟩ := two_ports b2
    have HB2 := hid (bel_of HB1.out t3)
    obtain ⟨d0, d1, d2, d3, d4, d5⟩ := six_of t1
    clear b2 t1 t2 t3 t4
    go_wp2_with fail
    refine (HSM.out _).mono ?_
    rintro e w3 ⟨rfl, b3⟩
    have HB3 := hid (bel_of HB2.out b3)
    clear b3
    go_wp2_with fail
    go_ret
    exact ⟨rfl, HB3.out⟩
set_option maxRecDepth 20000 in
set_option maxHeartbeats 1600000 in
theorem portPlays_yes (n0 n1 n2 n3 : Int) (a : Option Addr) (c : Nat) (l : List PrtM.Op) (w : World) (hk : wf64 n0) (hr : RdO w a l) (h : plE ⟨n0, n1, n2, n3, [], 0⟩ l = 0) :
    Calls Try.prog 5 #[.int .i64 n0, .int .i64 n1, .int .i64 n2, .int .i64 n3, .slice a l.length c] w fun e w' => e = .returned (.bool true) ∧ Below w.heap.size w w' := by
  have HP := hid (Play_yes n0 n1 n2 n3 a c l w hr h)
  have HRT := hid (fun wx => Right_any ⟨n0, n1, n2, n3, [], 0⟩ hk none 0 wx (.inl rfl) (by simp))
  obtain ⟨hc0, hl⟩ := plE_zero h
  rw [hc0] at HRT
  simp only [vP, cP, List.length_nil] at HRT
  obtain ⟨p0, hp0⟩ : ∃ p0 : Pt, p0 = ⟨n0, n1, n2, n3, [], 0⟩ := ⟨_, rfl⟩
  rw [← hp0] at HP hc0
  have HP0 := hid hp0
  have HCK := hid (fun k => fin_ok hc0 (l.take k))
  have HRD := hid hr
  have HTO := hid (fun k (hk : k < l.length) => told_at p0 l k hk)
  have HTL := hid (told_length l p0)
  have HFS := hid (fun k (hk : k < l.length) => fin_step p0 l k hk)
  have HFA : Hid (fin p0 (l.take l.length) = fin p0 l) := by show _ = _; rw [List.take_length]
  obtain ⟨n, hn⟩ : ∃ n, n = l.length := ⟨_, rfl⟩
  rw [← hn] at HP hl HTO HTL HFS HFA ⊢
  have HN := hid hn
  have hne : ((n : Int) != (n : Int)) = false := by simp
  have h500 : ¬ (500 : Int) < (n : Int) := by omega
  clear hr h hc0 hp0 hn
  go_enter Try.func5, Try.ntmps5
  go_wp2_with fail
  refine HP.out.mono ?_
  rintro e w1 ⟨⟨k0, k1, k2, k3, au, nu, cu, k5, g, rfl, hot, hoa, heq⟩, b1⟩
  have HEQ := hid heq
  have HB1 := hid b1
  have HA1 := hid (own_rdA hoa)
  have HGL := hid (show g < w1.heap.size from (hoa.lt g rfl).2)
  have HT1 := hid hot
  clear b1 hoa hot heq
  go_wp2_with fail
  refine (HRT.out _).mono ?_
  rintro e w2 ⟨rfl, b2⟩
  obtain ⟨t1, t2, t3, t4⟩ := two_ports b2
  have HX1 := hid t1
  have HX2 := hid t2
  have HB2 := hid t3
  have HS2 := hid t4
  clear b2 t1 t2 t3 t4
  go_wp2_with fail
  go_loopw [65] (fun v65 wr => ∃ (k : Nat) (v : Value), k ≤ n ∧ v65 = .int .i64 k ∧ Hid (RL w1 w2 wr (fin p0 (l.take k)) v)) (fun v65 _ => n - (intOf v65).toNat)
  case atStart =>
    refine ⟨0, .slice none 0 0, by omega, rfl, ⟨?_, ?_, (fun b o n c e => by cases e), Below.refl _ _⟩⟩
    · rw [List.take_zero]
      show _ = some (Obj.cells (cP p0 _) _)
      rw [HP0.out]
      exact HX2.out
    · rw [List.take_zero]
      show TX _ _ p0.texts
      rw [HP0.out]
      exact ⟨none, 0, rfl, .inl rfl, fun _ => ⟨rfl, rfl⟩, Nat.le_refl _⟩
  case round =>
    obtain ⟨k, v, hk, rfl, HI⟩ := hrel
    have HW1 := hid ((HB2.out.mono (Nat.le_refl _)).trans (HI.out.bel.mono (by omega)))
    by_cases hlt : k < n
    · obtain ⟨b, off, hab, c1, c2, c3⟩ := RdO.get ((HRD.out.below HB1.out (Nat.le_refl _)).below HW1.out (Nat.le_refl _)) k (by have := HN.out; omega)
      obtain ⟨b', off', hab', y0, y1, y2⟩ := RdA.get HA1.out k (by rw [HTL.out]; exact hlt)
      simp only [Option.some.injEq, Addr.mk.injEq, and_true] at hab'
      obtain ⟨hb1, hb2⟩ := hab'
      subst hb1
      subst hb2
      rw [Nat.zero_add] at y0 y1 y2
      subst hab
      rw [HTO.out k hlt] at y0 y1 y2
      have HFS1 := HFS.out k hlt
      have i1 : (k : Int) < (n : Int) := by omega
      have HDN := hid (fun wx (hx : Below wr.heap.size wr wx) => Done_any (fin p0 (l.take k)) (l.getD k zOp) v wx (HCK.out k) (HI.out.tx.below hx))
      rw [← HFS1] at HDN
      generalize l.getD k zOp = o at *
      obtain ⟨ok, onow, os⟩ := o
      simp only at c1 c2 c3 y0 y1 y2 HDN
      have hbx := HI.out.box
      generalize doA (fin p0 (l.take k)) (ok, onow, os) = A at *
      generalize hq9 : fin p0 (l.take (k + 1)) = q' at *
      have HQ9 := hid hq9
      generalize fin p0 (l.take k) = q at *
      obtain ⟨au2, nu2, cu2, hv⟩ : ∃ a2 n2 c2, v = .slice a2 n2 c2 := by obtain ⟨a9, c9, e9, _⟩ := HI.out.tx; exact ⟨_, _, _, e9⟩
      subst hv
      obtain ⟨a0, a1, a2⟩ := A
      obtain ⟨x0, x1, x2, x3, T, x5⟩ := q
      obtain ⟨z0, z1, z2, z3, T', z5⟩ := q'
      simp only [vP, cP] at HDN hbx
      simp only at y0 y1 y2
      have hqa := box_alloc (box_alloc hbx (.cells #[.int .i64 ok, .int .i64 onow, .string os] 48)) (.cells PortC.z3 44)
      obtain ⟨d0, d1, d2, d3, d4, d5⟩ := six_of hqa
      have hW := ((Below.refl wr.heap.size wr).alloc (Nat.le_refl _) (.cells #[.int .i64 ok, .int .i64 onow, .string os] 48)).alloc (by rw [World.size_alloc]; omega) (.cells PortC.z3 44)
      have HWW := hid hW
      have HY0 := hid y0
      have HY1 := hid y1
      have HY2 := hid y2
      have HLW := hid (show w1.heap.size + 1 < wr.heap.size from (Array.getElem?_eq_some_iff.1 hbx).1)
      clear hbx hqa hq9 HFS1 hW y0 y1 y2
      go_wp2_with fail
      refine (HDN.out _ HWW.out).mono ?_
      rintro e w4 ⟨⟨u, rfl, htx, hbk⟩, b4⟩
      obtain ⟨bu, mu, du, hu⟩ : ∃ a2 n2 c2, u = .slice a2 n2 c2 := by obtain ⟨a9, c9, e9, _⟩ := htx; exact ⟨_, _, _, e9⟩
      subst hu
      have hb4 : Below wr.heap.size wr w4 := HWW.out.trans (b4.mono HWW.out.size)
      have hq4 := box_below HI.out.box hb4 (Nat.le_refl _)
      have ha4 : w4.heap[wr.heap.size + 1]? = some (.cells PortC.z3 44) := (b4.block _ (by simp only [World.size_alloc]; omega)).trans (al2 wr _ _).2
      obtain ⟨hR, hRa⟩ := RL.next (q' := ⟨z0, z1, z2, z3, T', z5⟩) (A := (a0, a1, a2)) HI.out b4 htx hbk ⟨_, _, _, rfl⟩
      simp only at hR hRa
      have HRL := hid hR
      have HRA := hid hRa
      clear d0 d1 d2 d3 d4 d5 c1 c2 c3
      obtain ⟨d0, d1, d2, d3, d4, d5⟩ := six_of hq4
      have m0 := froz_of hq4 0
      have m1 := froz_of hq4 1
      have m2 := froz_of hq4 2
      have m3 := froz_of hq4 3
      have m4 := froz_of hq4 4
      have m5 := froz_of hq4 5
      obtain ⟨e0', e1', e2'⟩ := three_of ha4
      have f0 := froz_of ha4 0
      have f1 := froz_of ha4 1
      have f2 := froz_of ha4 2
      have nn1 : ¬ w1.heap.size + 1 = wr.heap.size + 1 := by have := HLW.out; omega
      have nn2 : ¬ wr.heap.size + 1 = w1.heap.size + 1 := by have := HLW.out; omega
      have nn3 : ¬ w1.heap.size = wr.heap.size := by have := HLW.out; omega
      have nn4 : ¬ wr.heap.size = w1.heap.size := by have := HLW.out; omega
      clear hq4 ha4 b4 hb4 htx hbk hR hRa
      go_wp2_with fail
      obtain ⟨w5, hw5⟩ : ∃ y, y = st3 (st6 w4 (w1.heap.size + 1) (.int .i64 z0) (.int .i64 z1) (.int .i64 z2) (.int .i64 z3) (.slice bu mu du) (.int .i64 z5)) (wr.heap.size + 1) (.string a0) (.bool a1) (.int .i64 a2) := ⟨_, rfl⟩
      rw [← hw5] at HRL HRA
      have hw6 := hw5
      simp only [st6, st3] at hw6
      rw [← hw6]
      clear hw5 hw6 d0 d1 d2 d3 d4 d5 m0 m1 m2 m3 m4 m5 e0' e1' e2' f0 f1 f2 nn1 nn2 nn3 nn4
      have hlt1 := HGL.out
      have y0 := (HRL.out.bel.cell (show g < w1.heap.size + 1 by omega)).trans ((HB2.out.cell hlt1).trans HY0.out)
      have y1 := (HRL.out.bel.cell (show g < w1.heap.size + 1 by omega)).trans ((HB2.out.cell hlt1).trans HY1.out)
      have y2 := (HRL.out.bel.cell (show g < w1.heap.size + 1 by omega)).trans ((HB2.out.cell hlt1).trans HY2.out)
      obtain ⟨r0, r1, r2⟩ := three_of HRA.out
      have hq := fun W => neqAn_same W (a0, a1, a2)
      simp only at hq
      clear hlt1
      go_quiet (fail)
      go_wp2_with fail
      exact ⟨⟨k + 1, .slice bu mu du, by omega, by go_num, by rw [HQ9.out]; exact HRL.out.drewN _⟩, by simp [intOf]; omega⟩
    · obtain rfl : k = n := by omega
      have HI2 := hid HI.out
      rw [HFA.out] at HI2
      have hbx := HI2.out.box
      have hpx := (HI.out.bel.block w1.heap.size (by omega)).trans HX1.out
      obtain ⟨au2, cu2, hv, hrq, _⟩ := HI2.out.tx
      have hlt := HT1.out.lt
      obtain ⟨au', cu', ev, hrT, _⟩ := RowG.Own.rd HT1.out
      simp only [Value.slice.injEq] at ev
      obtain ⟨ev1, ev2, ev3⟩ := ev
      subst ev1
      subst ev3
      have HEQ2 := HEQ.out
      have HLT : Hid ((fin p0 l).texts.length ≤ 100000) := by
        show _ ≤ _
        have h1 := HCK.out k
        rw [HFA.out] at h1
        obtain ⟨⟨k12, _, q1, q2⟩, ⟨f1, _⟩, _⟩ := chk_zero h1
        rcases k12 with q | q
        · have := (q1 q).1; omega
        · have := (q2 q).2.1; omega
      have HBW := hid ((HB2.out).trans (HI.out.bel.mono (Nat.le_succ _)))
      have HRT2 := hid (hrT.below HBW.out (Nat.le_refl _))
      have HRQ := hid hrq
      subst hv
      subst ev2
      generalize fin p0 l = P at *
      obtain ⟨x0, x1, x2, x3, T, x5⟩ := P
      simp only [cP] at hbx
      simp only at HEQ2 HLT HRT2 HRQ
      obtain ⟨q5, q0, q1, q2, q3⟩ := HEQ2
      replace q0 := q0.symm
      replace q1 := q1.symm
      replace q2 := q2.symm
      replace q3 := q3.symm
      replace q5 := q5.symm
      subst q0 q1 q2 q3 q5
      have HSM := hid (same_yes x0 x1 x2 x3 x5 au au2 T.length cu cu2 T wr HRT2.out HRQ.out rfl HLT.out)
      obtain ⟨d0, d1, d2, d3, d4, d5⟩ := six_of hbx
      obtain ⟨y0, y1, y2, y3, y4, y5⟩ := six_of hpx
      clear hbx hpx hrq hrT hlt HEQ
      go_wp2_with fail
      refine HSM.out.mono ?_
      rintro e w5 ⟨rfl, b5⟩
      have HB5 := hid (HB1.out.trans ((bel_of HBW.out b5).mono HB1.out.size))
      clear b5
      go_wp2_with fail
      go_ret
      exact ⟨rfl, HB5.out⟩
theorem portPlays_walk (n0 n1 n2 n3 : Int) (a4 : Option Addr) (len4 cap4 : Nat) (l4 : List PrtM.Op) (w : World) (h0 : SpanC.wf64 n0) (h1 : SpanC.wf64 n1) (h2 : SpanC.wf64 n2) (h3 : SpanC.wf64 n3) (h4 : RowsO.IsPos w a4 len4 cap4 l4) :
    Calls Try.prog 5 #[.int .i64 n0, .int .i64 n1, .int .i64 n2, .int .i64 n3, .slice a4 len4 cap4] w fun e w' => e = .returned (.bool true) ∧ Below w.heap.size w w' := by
  obtain ⟨rfl, _, _, hr, _⟩ := h4
  by_cases h : plE ⟨n0, n1, n2, n3, [], 0⟩ l4 = 0
  · exact portPlays_yes n0 n1 n2 n3 a4 cap4 l4 w h0 hr h
  · exact portPlays_no n0 n1 n2 n3 a4 cap4 l4 w h0 hr h
end PortC
end Go.Proofs.Ytllfpbngfkimlaa
