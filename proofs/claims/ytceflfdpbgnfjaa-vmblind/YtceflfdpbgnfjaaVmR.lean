/- The law VmCuts. -/
import Derived.Test.YtceflfdpbgnfjaaVmQ
import Derived.Test.YtceflfdpbgnfjaaRowEmg
import Derived.Deep.RegionHeld3
import Derived.Deep.CutRange
set_option linter.unusedVariables false
namespace Go.Proofs.Ytceflfdpbgnfjaa
open Go.RowKit
open Go.Shelf Go.Sort
open SpanM hiding good
open SpanC IntsC
open RowsO hiding Em
namespace VmC
open VmP VmM
open NumC (Row)
theorem KX.put {W : World} {bn B g cap : Nat} {s : St} (hb : W.heap[bn]? = some (.cells zV 25)) (ho : OwnI W B (vS g 8 cap) s.regs) : KX (st4 W bn (.int .i64 s.pc) (vS g 8 cap) (.bool s.halts) (.bool s.fault)) bn s g cap := by
  refine ⟨st4_heap hb, OwnI.row8 (st4_own _ _ _ _ ho hb (by decide)), ?_⟩
  rcases ho.form with ⟨e, _⟩ | ⟨g', c', e, _⟩
  · simp [vS] at e
  · simp only [vS, Value.slice.injEq] at e; exact e.2.1.symm
theorem OwnEm.nz {w : World} {B n c : Nat} {a : Option Addr} {l : List Em} (h : OwnEm w B (.slice a n c) l) : Ems w a l ∧ (a = none → n = 0 ∧ c = 0) := by
  rcases h.form with ⟨e, rfl⟩ | ⟨g, cap, e, _⟩
  · simp only [Value.slice.injEq] at e
    exact ⟨.inl rfl, fun _ => e.2⟩
  · obtain ⟨a', c', e2, hr⟩ := h.rows
    simp only [Value.slice.injEq] at e e2
    refine ⟨by rw [e2.1]; exact hr, fun q => ?_⟩
    rw [e.1] at q; cases q
theorem row_slice {w : World} {q : Addr} {i : List Int} {n c : Nat} (h : Row w (some q) i) (hn : n ≤ i.length) (hc : i.length ≤ c) : Row w (if c = n then some q else some (q.add n)) (i.drop n) := by
  by_cases e : i.length = n
  · left; rw [List.drop_of_length_le (by omega)]
  · rw [if_neg (by omega)]
    rcases h with h | ⟨b, off, e1, h⟩
    · rw [h] at e hn; simp at hn; exact absurd (by rw [hn]; rfl) e
    · simp only [Option.some.injEq] at e1
      subst e1
      refine .inr ⟨b, off + n, by rw [add_none], fun j hj => ?_⟩
      rw [List.length_drop] at hj
      rw [Nat.add_assoc, h (n + j) (by omega)]
      simp [List.getD, List.getElem?_drop]
section
variable (w : World) (pa ra ia : Option Addr) (p : List In) (l i : List Int) (pc : Int) (pcap rc ic : Nat) (h f : Bool) (a b : Int)
set_option maxRecDepth 20000 in
set_option maxHeartbeats 1600000 in
theorem vmCuts_yes (q : Addr) (hq : ia = some q) (k : AR w pa ra ia p l i) (hic : i.length ≤ ic) (hic2 : ic ≤ maxLen) (hE : rE p ⟨pc, l, h, f⟩ i a = 0) (hb0 : 0 ≤ b) (hl : a ≤ 5000 - b) :
    Calls Try.prog 4 #[.slice pa p.length pcap, .agg (vmC pc (.slice ra l.length rc) h f), .slice ia i.length ic, .int .i64 a, .int .i64 b] w fun e w' => e = .returned (.bool true) ∧ Below w.heap.size w w' := by
  subst hq
  obtain ⟨hck, hok, hin, ha0, ha1, hi5⟩ := rE_zero hE
  obtain ⟨R, hR⟩ : ∃ R, run (act p) a.toNat ⟨pc, l, h, f⟩ i = R := ⟨_, rfl⟩
  have hle := run_le (act := act p) a.toNat ⟨pc, l, h, f⟩ i
  have hro := run_ok hck a.toNat ⟨pc, l, h, f⟩ i hok hin
  rw [hR] at hle hro
  have hE2 : rE p R.s (i.drop R.took) b = 0 := rE_ok hck hro.1 (fun x hx => hin x (List.mem_of_mem_drop hx)) hb0 (by omega) (by rw [List.length_drop]; omega)
  obtain ⟨R2, hR2⟩ : ∃ R2, run (act p) b.toNat R.s (i.drop R.took) = R2 := ⟨_, rfl⟩
  have hE3 : rE p ⟨pc, l, h, f⟩ i (a + b) = 0 := rE_ok hck hok hin (by omega) (by omega) hi5
  have hR3 : run (act p) (a + b).toNat ⟨pc, l, h, f⟩ i = R.then R2 := by
    rw [show (a + b).toNat = a.toNat + b.toNat by omega, run_cut, hR, hR2]
  obtain ⟨R3, hR3e⟩ : ∃ R3, R3 = R.then R2 := ⟨_, rfl⟩
  rw [← hR3e] at hR3
  have hq : R3.s = R2.s ∧ R3.out = R.out ++ R2.out ∧ R3.took = R.took + R2.took ∧ R3.used = R.used + R2.used := by rw [hR3e]; exact ⟨rfl, rfl, rfl, rfl⟩
  have HQ := hid hq
  have hle2 := run_le (act := act p) b.toNat R.s (i.drop R.took)
  rw [hR2, List.length_drop] at hle2
  have hro2 := run_ok hck b.toNat R.s (i.drop R.took) hro.1 (fun x hx => hin x (List.mem_of_mem_drop hx))
  rw [hR2] at hro2
  have hol : R.out.length ≤ 5000 ∧ R2.out.length ≤ 5000 ∧ R2.took ≤ 5000 ∧ R2.used ≤ 5000 := by have := hro.2; have := hro2.2; omega
  have HOL := hid hol
  clear hR3e hq hle2 hro2 hol
  unfold maxLen at hic2
  have i1 : (R.took : Int) ≤ (i.length : Int) := by omega
  have i2 : ¬ (R.took : Int) < 0 := by omega
  have i3 : (0 : Int) ≤ (R.took : Int) := by omega
  have i4 : (i.length : Int) ≤ (ic : Int) := by omega
  have i5 : ¬ b < 0 := by omega
  have HK := hid k
  have HR3 := hid (fun V (hb : Below w.heap.size w V) => k.ok (pcap := pcap) (rc := rc) (ic := ic) hE3 hR3 hb)
  have HR1 := hid (fun V (hb : Below w.heap.size w V) => k.ok (pcap := pcap) (rc := rc) (ic := ic) hE hR hb)
  have HX := hid (B1.start w (vmC pc (.slice ra l.length rc) h f) 25)
  have HIN := hid hin
  have HRO := hid hro
  clear hin hro hE hok hck hR hE3 hR3 k
  go_enter Try.func4, Try.ntmps4
  go_wp2_with (go_at_call 8; refine (HR1.out _ HX.out.bel).mono ?_; rintro e w2 ⟨⟨g, cap, oa, oc, rfl, ho2, hl2⟩, hb2⟩; have HX2 := hid (HX.out.step hb2); have HKX := hid (KX.new ho2); have HL2 := hid hl2; clear hb2 ho2 hl2)
  refine (vmLives_any _).mono ?_
  rintro e w3 ⟨rfl, hb3⟩
  have HKX3 := hid (HKX.out.below hb3 (Nat.le_refl _))
  have hbz := ((Below.refl w2.heap.size w2).alloc (Nat.le_refl _) (.cells (vmC R.s.pc (vS g 8 cap) R.s.halts R.s.fault) 25)).trans (hb3.mono (by rw [World.size_alloc]; omega))
  have HB3 := hid hbz
  have HX3 := hid (HX2.out.step hbz)
  clear hb3 hbz
  generalize hbx : w2.heap.size = bx at *
  have HBX := hid hbx
  clear hbx
  obtain ⟨y0, y1, y2, y3⟩ := KX.c HKX3.out
  have hblt := KX.lt HKX3.out
  go_upto_region 4 with fail
  obtain ⟨A, hA⟩ : ∃ A, (if ic = R.took then some q else some (q.add R.took)) = A := ⟨_, rfl⟩
  have HR2 : Hid (∀ V, Below w3.heap.size w3 V → Calls Try.prog 8 #[.slice pa p.length pcap, .agg (vmC R.s.pc (vS g 8 cap) R.s.halts R.s.fault), .slice A (i.length - R.took) (ic - R.took), .int .i64 b] V fun e w' => (∃ g2 c2 oa2 oc2, e = .returned (.tuple #[.agg (vmC R2.s.pc (vS g2 8 c2) R2.s.halts R2.s.fault), .slice oa2 R2.out.length oc2, .int .i64 R2.took, .int .i64 R2.used, .int .i64 0]) ∧ OwnI w' V.heap.size (vS g2 8 c2) R2.s.regs ∧ OwnEm w' V.heap.size (.slice oa2 R2.out.length oc2) R2.out) ∧ Below V.heap.size V w') := fun V hV => by
    have ka : AR w3 pa (some ⟨g, 0, none⟩) A p R.s.regs (i.drop R.took) := by
      have k3 := HK.out.below HX3.out.bel
      exact ⟨k3.hp, k3.pl, HKX3.out.row, by rw [HKX3.out.len]; unfold maxLen; decide, by rw [← hA]; exact row_slice k3.hi hle.2.1 hic, by rw [List.length_drop]; have := k3.il; omega⟩
    have := ka.ok (pcap := pcap) (rc := cap) (ic := ic - R.took) (pc := R.s.pc) (h := R.s.halts) (f := R.s.fault) hE2 hR2 hV
    rw [List.length_drop, HKX3.out.len] at this
    exact this
  clear hE2 hR2
  go_cut [16, 17, 18, 19, 20] from 26 to 136 (fun v16 v17 v18 v19 v20 wc => ∃ by_ g2 c2 oa2 oc2, v16 = .pointer (some ⟨by_, 0, none⟩) ∧ v17 = .slice oa2 R2.out.length oc2 ∧ v18 = .int .i64 R2.took ∧ v19 = .int .i64 R2.used ∧ v20 = .int .i64 0 ∧ Hid (KX wc by_ R2.s g2 c2) ∧ Hid (∃ B, OwnEm wc B (.slice oa2 R2.out.length oc2) R2.out) ∧ Hid (Below w3.heap.size w3 wc))
  case first =>
    go_region_held3 (fun V => V.cell? ⟨bx, 0, none⟩ = some (.int .i64 R.s.pc) ∧ V.cell? ⟨bx, 1, none⟩ = some (vS g 8 cap) ∧ V.cell? ⟨bx, 2, none⟩ = some (.bool R.s.halts) ∧ V.cell? ⟨bx, 3, none⟩ = some (.bool R.s.fault)) (go_keep)
      (first
        | (go_at_call 8
           refine (HR2.out _ ?_).mono ?_
           · exact (Below.refl _ _).drew
           rintro e w5 ⟨⟨g2, c2, oa2, oc2, rfl, ho5, hl5⟩, hb5⟩
           have hb5' : Below w3.heap.size w3 w5 := (Below.refl _ _).drew.trans hb5
           have HY5 := hid (KX.new ho5)
           have HL5 := hid hl5
           have HBW := hid hb5'
           obtain ⟨z0, z1, z2, z3⟩ := KX.c (HKX3.out.below hb5' (Nat.le_refl _))
           clear ho5 hl5 hb5 hb5')
        | (go_at_call 8
           refine (HR2.out _ ?_).mono ?_
           · exact ((Below.refl _ _).alloc (Nat.le_refl _) _).drew
           rintro e w5 ⟨⟨g2, c2, oa2, oc2, rfl, ho5, hl5⟩, hb5⟩
           have hb5' : Below w3.heap.size w3 w5 := (((Below.refl _ _).alloc (Nat.le_refl _) _).drew).trans (hb5.mono (by simp))
           have hn5 : w5.heap[w3.heap.size]? = some (.cells zV 25) := (hb5.block w3.heap.size (by simp)).trans (heap_alloc_new w3 _)
           have HO5 := hid ho5
           have HN5 := hid hn5
           have HL5 := hid hl5
           have HBW := hid hb5'
           obtain ⟨z0, z1, z2, z3⟩ := KX.c (HKX3.out.below hb5' (Nat.le_refl _))
           have n0 := froz_box hn5 0
           have n1 := froz_box hn5 1
           have n2 := froz_box hn5 2
           have n3 := froz_box hn5 3
           have m0 := box_cell hn5 0
           have m1 := box_cell hn5 1
           have m2 := box_cell hn5 2
           have m3 := box_cell hn5 3
           simp at m0 m1 m2 m3
           have ne5 : ¬ w3.heap.size = bx := (by omega)
           have ne6 : ¬ bx = w3.heap.size := (by omega)
           clear ho5 hl5 hb5 hb5' hn5))
    all_goals (go_wp2_with fail)
    all_goals go_meet
    · exact ⟨_, _, _, _, _, rfl, rfl, rfl, rfl, rfl, HY5.out, ⟨_, OwnEm.below HL5.out ((Below.refl _ _).alloc (Nat.le_refl _) _) (Nat.le_refl _)⟩, HBW.out.alloc HBW.out.size _⟩
    · exact ⟨_, _, _, _, _, rfl, rfl, rfl, rfl, rfl, KX.put HN5.out HO5.out, ⟨_, st4_own _ _ _ _ HL5.out HN5.out (by decide)⟩, st4_below HBW.out (Nat.le_refl _)⟩
  case rest =>
    obtain ⟨by_, g2, c2, oa2, oc2, rfl, rfl, rfl, rfl, rfl, HY, HLM, HBC⟩ := hcut
    have HXC := hid (HX3.out.step HBC.out)
    have v0 := HXC.out.c0 0
    have v1 := HXC.out.c0 1
    have v2 := HXC.out.c0 2
    have v3 := HXC.out.c0 3
    simp at v0 v1 v2 v3
    have i6 : b ≤ 5000 := by omega
    have hyl := KX.lt HY.out
    go_wp2_with (go_at_call 8; refine (HR3.out _ HXC.out.bel).mono ?_; rintro e w6 ⟨⟨g3, c3, oa3, oc3, rfl, ho6, hl6⟩, hb6⟩; have HZ := hid (KX.new ho6); have HL6 := hid hl6; have HB6 := hid hb6; obtain ⟨u0, u1, u2, u3⟩ := KX.c (HY.out.below hb6 (Nat.le_refl _)); have hy6 : by_ < w6.heap.size := (Nat.lt_of_lt_of_le hyl hb6.size); have ney : ¬ by_ = w6.heap.size := (by omega); clear ho6 hl6 hb6)
    obtain ⟨q1, q2, q3, q4⟩ := HQ.out
    have hb67 := HB6.out.trans ((Below.refl w6.heap.size w6).alloc (Nat.le_refl _) (.cells (vmC R3.s.pc (vS g3 8 c3) R3.s.halts R3.s.fault) 25) |>.mono HB6.out.size)
    have HY7 := hid (HY.out.below hb67 (Nat.le_refl _))
    have hsm := KX.same HY7.out HZ.out (Below.refl _ _)
    rw [show sameB R2.s R3.s = true by rw [q1]; exact sameB_refl _] at hsm
    have HSM := hid hsm
    have HB37 := hid (HBC.out.trans (hb67.mono HBC.out.size))
    have HL7 := hid (OwnEm.below HL6.out ((Below.refl w6.heap.size w6).alloc (Nat.le_refl _) (.cells (vmC R3.s.pc (vS g3 8 c3) R3.s.halts R3.s.fault) 25)) (Nat.le_refl _))
    have HQ2 := hid q2
    have g1 : ((R3.took : Int) == (R.took : Int) + (R2.took : Int)) = true := by rw [q3]; simp
    have g2' : ((R3.used : Int) == (R.used : Int) + (R2.used : Int)) = true := by rw [q4]; simp
    have j1 : (R.took : Int) ≤ 5000 := by omega
    have j2 : (R2.took : Int) ≤ 5000 := by have := HOL.out; omega
    have j3 : (R.used : Int) ≤ 5000 := by omega
    have j4 : (R2.used : Int) ≤ 5000 := by have := HOL.out; omega
    have HXW := hid HXC.out.bel
    have HC7 := hid hb67
    clear hb67 hsm q1 q2 q3 q4
    generalize w6.alloc (.cells (vmC R3.s.pc (vS g3 8 c3) R3.s.halts R3.s.fault) 25) = w7 at *
    refine HSM.out.mono ?_
    rintro e w8 ⟨rfl, hb8⟩
    have hb38 := HB37.out.trans (hb8.mono HB37.out.size)
    have HL8 := hid (OwnEm.below (OwnEm.below HL2.out HB3.out (by have := HBX.out; omega)) hb38 (Nat.le_refl _))
    have HB38 := hid hb38
    have HA8 := hid (OwnEm.below HL7.out hb8 (Nat.le_refl _))
    obtain ⟨B5, hlm⟩ := HLM.out
    have HM8 := hid (OwnEm.below hlm (HC7.out.trans (hb8.mono HC7.out.size)) (Nat.le_refl _))
    clear hb8 hb38 hlm
    go_wp2_with fail
    refine (cloneEm_any oa oc R.out w8 (OwnEm.nz HL8.out).1 (fun e => ((OwnEm.nz HL8.out).2 e).2) (by have := HOL.out; unfold maxLen; omega) (by have := HOL.out; omega)).mono ?_
    rintro e w9 ⟨⟨v9, rfl, ho9⟩, hb9⟩
    have HO9 := hid ho9
    have HM9 := hid (OwnEm.below HM8.out hb9 (Nat.le_refl _))
    have HA9 := hid (OwnEm.below HA8.out hb9 (Nat.le_refl _))
    have HB39 := hid (HB38.out.trans (hb9.mono HB38.out.size))
    have HB9 := hid hb9
    clear ho9 hb9
    go_wp2_with (at_builtin; refine wpList_appendEm_g (by rfl) _ _ rfl w8.heap.size v9 R.out R2.out oa2 R2.out.length oc2 rfl HO9.out rfl rfl (OwnEm.nz HM9.out).1 (OwnEm.nz HM9.out).2 (by have := HOL.out; unfold maxLen; omega) (by have := HOL.out; omega) HB9.out.size ?_; intro v10 w10 ho10 hg10; obtain ⟨a10, c10, e10⟩ := OwnEm.len ho10; subst e10; have HO10 := hid ho10; have HG10 := hid hg10; clear ho10 hg10)
    have hb810 : Below w8.heap.size w8 w10 := HB9.out.grown HG10.out HB9.out.size (fun q hq => (World.ownsRow.lt HO9.out q hq).1)
    have HB310 := hid (HB38.out.trans (hb810.mono HB38.out.size))
    have heq := equalEm_any a10 oa3 c10 oc3 (R.out ++ R2.out) R3.out w10 (OwnEm.nz HO10.out).1 ((OwnEm.nz HA8.out).1.below hb810 (Nat.le_refl _)) (by have := HOL.out; rw [List.length_append]; unfold maxLen; omega)
    rw [decide_eq_true HQ2.out.symm, List.length_append] at heq
    refine heq.mono ?_
    rintro e w11 ⟨rfl, hb11⟩
    have HB := hid (HB310.out.trans (hb11.mono HB310.out.size))
    clear heq hb11 hb810
    go_wp2_with fail
    go_ret
    exact ⟨rfl, HX3.out.bel.trans (HB.out.mono HX3.out.bel.size)⟩
end
end VmC
end Go.Proofs.Ytceflfdpbgnfjaa
