/- The law VmStops, where fuel is left. -/
import Derived.Test.YtceflfdpbgnfjaaVmS
set_option linter.unusedVariables false
namespace Go.Proofs.Ytceflfdpbgnfjaa
open Go.RowKit
open Go.Shelf Go.Sort
open SpanM hiding good
open SpanC IntsC
open RowsO hiding Em
namespace VmC
open VmP VmM
open NumC (Row)
section
variable (w : World) (pa ra ia : Option Addr) (p : List In) (l i : List Int) (pc : Int) (pcap rc ic : Nat) (h f : Bool) (a b : Int)
set_option maxRecDepth 20000 in
set_option maxHeartbeats 3200000 in
theorem vmStops_yes (q : Addr) (hq : ia = some q) (k : AR w pa ra ia p l i) (hic : i.length ≤ ic) (hic2 : ic ≤ maxLen) (hE : rE p ⟨pc, l, h, f⟩ i a = 0) (R : Ran St Em) (hR : run (act p) a.toNat ⟨pc, l, h, f⟩ i = R) (hu : (R.used : Int) ≠ a) :
    Calls Try.prog 5 #[.slice pa p.length pcap, .agg (vmC pc (.slice ra l.length rc) h f), .slice ia i.length ic, .int .i64 a, .int .i64 b] w fun e w' => e = .returned (.bool true) ∧ Below w.heap.size w w' := by
  subst hq
  obtain ⟨hck, hok, hin, ha0, ha1, hi5⟩ := rE_zero hE
  have hle := run_le (act := act p) a.toNat ⟨pc, l, h, f⟩ i
  have hro := run_ok hck a.toNat ⟨pc, l, h, f⟩ i hok hin
  have hend := run_end (act := act p) a.toNat ⟨pc, l, h, f⟩ i (by rw [hR] at hle ⊢; omega)
  have hst := fun m => run_still (act := act p) (n := a.toNat) (s := ⟨pc, l, h, f⟩) (i := i) (by rw [hR] at hle ⊢; omega) m
  rw [hR] at hle hro hend
  simp only [hR] at hst
  have hwt : R.s.halts = true ∨ R.s.fault = true ∨ waitsB p R.s (decide (R.took = i.length)) = true := by
    rcases hend with e | ⟨⟨k, e⟩, e2⟩
    · rcases stop_of e with e | e
      · exact .inl e
      · exact .inr (.inl e)
    · right; right
      obtain ⟨h1, h2⟩ := take_of hro.1 e
      unfold waitsB
      rw [decide_eq_true h1, decide_eq_true h2, decide_eq_true e2]; rfl
  obtain ⟨m5, hm5⟩ : ∃ m5, (if (5000 : Int) < b then (5000 : Int) else b) = m5 := ⟨_, rfl⟩
  have hm6 : m5 ≤ 5000 := by rw [← hm5]; split <;> omega
  obtain ⟨M, hM⟩ : ∃ M, (if (0 : Int) < m5 then m5 else (0 : Int)) = M := ⟨_, rfl⟩
  have hM0 : 0 ≤ M := by rw [← hM]; split <;> omega
  have hM1 : M ≤ 5000 := by rw [← hM]; split <;> omega
  have hE2 : rE p R.s (i.drop R.took) M = 0 := rE_ok hck hro.1 (fun x hx => hin x (List.mem_of_mem_drop hx)) hM0 hM1 (by rw [List.length_drop]; omega)
  have hR2 := hst M.toNat
  have HRG := hid (hro.1.rgt (chk_zero hck).1)
  have HR1 := hid (fun V (hb : Below w.heap.size w V) => k.ok (pcap := pcap) (rc := rc) (ic := ic) hE hR hb)
  have HX := hid (B1.start w (vmC pc (.slice ra l.length rc) h f) 25)
  unfold maxLen at hic2
  have i1 : (R.took : Int) ≤ (i.length : Int) := by omega
  have i2 : ¬ (R.took : Int) < 0 := by omega
  have i3 : ¬ (R.used : Int) < 0 := by omega
  have i4 : (R.used : Int) ≤ a := by omega
  have i5 : (R.out.length : Int) ≤ (R.used : Int) := by have := hro.2; omega
  have i6 : (R.took : Int) ≤ (R.used : Int) := by omega
  have i7 : ((R.used : Int) == a) = false := by simp [hu]
  have i8 : (0 : Int) ≤ (R.took : Int) := by omega
  have i9 : (i.length : Int) ≤ (ic : Int) := by omega
  have HK := hid k
  have HRO := hid hro
  have HWT := hid hwt
  clear hro hE hok hin hck k hR hu hend hst hwt
  go_enter Try.func5, Try.ntmps5
  go_wp2_with (go_at_call 8; refine (HR1.out _ HX.out.bel).mono ?_; rintro e w2 ⟨⟨g, cap, oa, oc, rfl, ho2, hl2⟩, hb2⟩; have HX2 := hid (HX.out.step hb2); have HKX := hid (KX.new ho2); clear hb2 ho2 hl2)
  refine (vmLives_any _).mono ?_
  rintro e w3 ⟨rfl, hb3⟩
  have HKX3 := hid (HKX.out.below hb3 (Nat.le_refl _))
  have hbz := ((Below.refl w2.heap.size w2).alloc (Nat.le_refl _) (.cells (vmC R.s.pc (vS g 8 cap) R.s.halts R.s.fault) 25)).trans (hb3.mono (by rw [World.size_alloc]; omega))
  have HX3 := hid (HX2.out.step hbz)
  clear hb3 hbz
  generalize hbx : w2.heap.size = bx at *
  clear hbx
  obtain ⟨y0, y1, y2, y3⟩ := KX.c HKX3.out
  have hrc := right_any R.s.pc (some ⟨g, 0, none⟩) cap R.s.regs R.s.halts R.s.fault w3 HKX3.out.row (by rw [HKX3.out.len]; unfold maxLen; decide)
  rw [HKX3.out.len, show rgt ⟨R.s.pc, R.s.regs, R.s.halts, R.s.fault⟩ = 0 from HRG.out] at hrc
  have HRC := hid hrc
  clear hrc
  go_upto_region 8 with (go_at_call 11; refine HRC.out.mono ?_; rintro e w4 ⟨rfl, hb4⟩; have HX4 := hid (HX3.out.step hb4); have HKX4 := hid (HKX3.out.below hb4 (Nat.le_refl _)); clear hb4)
  clear y0 y1 y2 y3
  obtain ⟨y0, y1, y2, y3⟩ := KX.c HKX4.out
  have hblt := KX.lt HKX4.out
  go_cut [16] from 22 to 145 (fun v16 wc => v16 = .bool (waitsB p R.s (decide (R.took = i.length))) ∧ Hid (Below w4.heap.size w4 wc))
  case first =>
    have hkp := HRO.out.1.lo
    obtain ⟨kp, hk⟩ : ∃ kp : Nat, R.s.pc = kp := ⟨R.s.pc.toNat, by omega⟩
    have hkn : R.s.pc.toNat = kp := by omega
    by_cases hlt : kp < p.length
    · obtain ⟨cb, co, hpa, hcb, d0, d1, d2⟩ := (HK.out.hp.below HX4.out.bel (Nat.le_refl _)).at kp hlt
      have hzd : p.getD kp zIs = p.getD kp zIn := rfl
      rw [hzd] at d0
      have j1 : (kp : Int) < (p.length : Int) := by omega
      have HW0 : Hid (waitsB p R.s (decide (R.took = i.length)) = (decide ((p.getD kp zIn).1 = 9) && decide (R.took = i.length))) := by
        show _ = _
        unfold waitsB
        rw [hkn, decide_eq_true (show R.s.pc < (p.length : Int) by omega), Bool.true_and]
      rw [hk] at y0
      clear hk hkn hkp hzd d1 d2
      have HPA := hid hpa
      by_cases h9 : (p.getD kp zIn).1 = 9
      · have HW1 : Hid (waitsB p R.s (decide (R.took = i.length)) = ((R.took : Int) == (i.length : Int))) := by
          show _ = _
          rw [HW0.out, decide_eq_true h9]
          simp only [Bool.true_and]
          rw [Bool.beq_eq_decide_eq]; simp; omega
        rw [h9] at d0
        clear h9
        subst hpa
        go_wp2_with fail
        go_meet
        exact ⟨by rw [HW1.out], Below.refl _ _⟩
      · have HW1 : Hid (waitsB p R.s (decide (R.took = i.length)) = false) := by
          show _ = _
          rw [HW0.out, decide_eq_false h9]; rfl
        have n9 : ((p.getD kp zIn).1 == 9) = false := by simp only [beq_eq_false_iff_ne]; exact h9
        generalize (p.getD kp zIn).1 = cd at *
        clear h9
        subst hpa
        go_wp2_with fail
        go_meet
        exact ⟨by rw [HW1.out], Below.refl _ _⟩
    · have HW1 : Hid (waitsB p R.s (decide (R.took = i.length)) = false) := by
        show _ = _
        unfold waitsB
        rw [decide_eq_false (show ¬ R.s.pc < (p.length : Int) by omega)]; rfl
      have j1 : ¬ (kp : Int) < (p.length : Int) := by omega
      rw [hk] at y0
      clear hk hkn hkp
      go_wp2_with fail
      go_meet
      exact ⟨by rw [HW1.out], Below.refl _ _⟩
  case rest =>
    obtain ⟨rfl, hbc⟩ := hcut
    obtain ⟨wb, hwb⟩ : ∃ y, y = wc := ⟨_, rfl⟩
    subst hwb
    have HC := hid hbc
    have HKXC := hid (HKX4.out.below hbc.out (Nat.le_refl _))
    have HXC := hid (HX4.out.step hbc.out)
    clear hbc y0 y1 y2 y3 hblt
    obtain ⟨y0, y1, y2, y3⟩ := KX.c HKXC.out
    have hblt := KX.lt HKXC.out
    obtain ⟨A, hA⟩ : ∃ A, (if ic = R.took then some q else some (q.add R.took)) = A := ⟨_, rfl⟩
    have HR2 : Hid (∀ V, Below wb.heap.size wb V → Calls Try.prog 8 #[.slice pa p.length pcap, .agg (vmC R.s.pc (vS g 8 cap) R.s.halts R.s.fault), .slice A (i.length - R.took) (ic - R.took), .int .i64 M] V fun e w' => (∃ g2 c2 oa2 oc2, e = .returned (.tuple #[.agg (vmC R.s.pc (vS g2 8 c2) R.s.halts R.s.fault), .slice oa2 0 oc2, .int .i64 0, .int .i64 0, .int .i64 0]) ∧ OwnI w' V.heap.size (vS g2 8 c2) R.s.regs ∧ OwnEm w' V.heap.size (.slice oa2 0 oc2) []) ∧ Below V.heap.size V w') := fun V hV => by
      have ka : AR wb pa (some ⟨g, 0, none⟩) A p R.s.regs (i.drop R.took) := by
        have k3 := HK.out.below HXC.out.bel
        exact ⟨k3.hp, k3.pl, HKXC.out.row, by rw [HKXC.out.len]; unfold maxLen; decide, by rw [← hA]; exact row_slice k3.hi hle.2.1 hic, by rw [List.length_drop]; have := k3.il; omega⟩
      have := ka.ok (pcap := pcap) (rc := cap) (ic := ic - R.took) (pc := R.s.pc) (h := R.s.halts) (f := R.s.fault) hE2 hR2 hV
      rw [List.length_drop, HKXC.out.len] at this
      exact this
    clear hE2 hR2
    go_upto_region 9 with fail
    go_cut [17, 18, 19, 20, 21] from 22 to 145 (fun v17 v18 v19 v20 v21 wd => ∃ by_ g2 c2 oa2 oc2, v17 = .pointer (some ⟨by_, 0, none⟩) ∧ v18 = .slice oa2 0 oc2 ∧ v19 = .int .i64 0 ∧ v20 = .int .i64 0 ∧ v21 = .int .i64 0 ∧ Hid (KX wd by_ R.s g2 c2) ∧ Hid (Below wb.heap.size wb wd))
    case first =>
      go_region_held3 (fun V => V.cell? ⟨bx, 0, none⟩ = some (.int .i64 R.s.pc) ∧ V.cell? ⟨bx, 1, none⟩ = some (vS g 8 cap) ∧ V.cell? ⟨bx, 2, none⟩ = some (.bool R.s.halts) ∧ V.cell? ⟨bx, 3, none⟩ = some (.bool R.s.fault)) (go_keep)
        (first
          | (go_at_call 8
             refine (HR2.out _ ?_).mono ?_
             · exact (Below.refl _ _).drew
             rintro e w5 ⟨⟨g2, c2, oa2, oc2, rfl, ho5, hl5⟩, hb5⟩
             have hb5' : Below wb.heap.size wb w5 := (Below.refl _ _).drew.trans hb5
             have HY5 := hid (KX.new ho5)
             have HL5 := hid hl5
             have HBW := hid hb5'
             obtain ⟨z0, z1, z2, z3⟩ := KX.c (HKXC.out.below hb5' (Nat.le_refl _))
             clear ho5 hl5 hb5 hb5')
          | (go_at_call 8
             refine (HR2.out _ ?_).mono ?_
             · exact ((Below.refl _ _).alloc (Nat.le_refl _) _).drew
             rintro e w5 ⟨⟨g2, c2, oa2, oc2, rfl, ho5, hl5⟩, hb5⟩
             have hb5' : Below wb.heap.size wb w5 := (((Below.refl _ _).alloc (Nat.le_refl _) _).drew).trans (hb5.mono (by simp))
             have hn5 : w5.heap[wb.heap.size]? = some (.cells zV 25) := (hb5.block wb.heap.size (by simp)).trans (heap_alloc_new wb _)
             have HO5 := hid ho5
             have HN5 := hid hn5
             have HL5 := hid hl5
             have HBW := hid hb5'
             obtain ⟨z0, z1, z2, z3⟩ := KX.c (HKXC.out.below hb5' (Nat.le_refl _))
             have n0 := froz_box hn5 0
             have n1 := froz_box hn5 1
             have n2 := froz_box hn5 2
             have n3 := froz_box hn5 3
             have m0 := box_cell hn5 0
             have m1 := box_cell hn5 1
             have m2 := box_cell hn5 2
             have m3 := box_cell hn5 3
             simp at m0 m1 m2 m3
             have ne5 : ¬ wb.heap.size = bx := (by omega)
             have ne6 : ¬ bx = wb.heap.size := (by omega)
             clear ho5 hl5 hb5 hb5' hn5))
      all_goals (go_wp2_with fail)
      all_goals go_meet
      all_goals first
        | exact ⟨_, _, _, _, _, rfl, rfl, rfl, rfl, rfl, HY5.out, HBW.out.alloc HBW.out.size _⟩
        | exact ⟨_, _, _, _, _, rfl, rfl, rfl, rfl, rfl, KX.put HN5.out HO5.out, st4_below HBW.out (Nat.le_refl _)⟩
    case rest =>
      obtain ⟨by_, g2, c2, oa2, oc2, rfl, rfl, rfl, rfl, rfl, HY, HBC⟩ := hcut
      have HKX9 := hid (HKXC.out.below HBC.out (Nat.le_refl _))
      have HX9 := hid (HXC.out.step HBC.out)
      clear y0 y1 y2 y3
      obtain ⟨y0, y1, y2, y3⟩ := KX.c HKX9.out
      obtain ⟨u0, u1, u2, u3⟩ := KX.c HY.out
      have hsm := KX.same HKX9.out HY.out (Below.refl _ _)
      rw [sameB_refl] at hsm
      have HSM := hid hsm
      clear hsm hM hm5 hA
      have HW := HWT.out
      generalize waitsB p R.s (decide (R.took = i.length)) = wt at *
      have hcs : (R.s.halts = true) ∨ (R.s.halts = false ∧ R.s.fault = true) ∨ (R.s.halts = false ∧ R.s.fault = false ∧ wt = true) := by
        rcases HW with e | e | e
        · exact .inl e
        · cases hh : R.s.halts
          · exact .inr (.inl ⟨rfl, e⟩)
          · exact .inl rfl
        · cases hh : R.s.halts
          · cases hf : R.s.fault
            · exact .inr (.inr ⟨rfl, rfl, e⟩)
            · exact .inr (.inl ⟨rfl, rfl⟩)
          · exact .inl rfl
      clear HW HWT
      rcases hcs with e1 | ⟨e1, e2⟩ | ⟨e1, e2, e3⟩
      · rw [e1] at y2 u2 HSM
        go_wp2_with fail
        refine HSM.out.mono ?_
        rintro e w9 ⟨rfl, hb9⟩
        have HB9 := hid (HX9.out.step hb9)
        clear hb9
        go_wp2_with fail
        go_ret
        exact ⟨rfl, HB9.out.bel⟩
      · rw [e1] at y2 u2 HSM
        rw [e2] at y3 u3 HSM
        go_wp2_with fail
        refine HSM.out.mono ?_
        rintro e w9 ⟨rfl, hb9⟩
        have HB9 := hid (HX9.out.step hb9)
        clear hb9
        go_wp2_with fail
        go_ret
        exact ⟨rfl, HB9.out.bel⟩
      · rw [e1] at y2 u2 HSM
        rw [e2] at y3 u3 HSM
        subst e3
        go_wp2_with fail
        refine HSM.out.mono ?_
        rintro e w9 ⟨rfl, hb9⟩
        have HB9 := hid (HX9.out.step hb9)
        clear hb9
        go_wp2_with fail
        go_ret
        exact ⟨rfl, HB9.out.bel⟩
end
end VmC
end Go.Proofs.Ytceflfdpbgnfjaa
