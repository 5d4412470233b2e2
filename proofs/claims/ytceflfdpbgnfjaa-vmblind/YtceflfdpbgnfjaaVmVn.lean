/- The law VmBlind, where what comes in is nil (gen_vmw.py writes this text). -/
import Derived.Test.YtceflfdpbgnfjaaVmV
import Derived.Deep.DeepAppendWide
set_option linter.unusedVariables false
namespace Go.Proofs.Ytceflfdpbgnfjaa
open Go.RowKit
open Go.Shelf Go.Sort
open SpanM hiding good
open SpanC IntsC
open RowsO hiding Em
namespace VmC
open VmP VmM
open NumC (Row)
section
variable (w : World) (pa ra ia ja : Option Addr) (p : List In) (l i j : List Int) (pc : Int) (pcap rc ic jc : Nat) (h f : Bool) (a : Int)
set_option maxRecDepth 20000 in
set_option maxHeartbeats 3200000 in
theorem vmBlind_yes_nil (hq : ia = none) (hic0 : ic = 0) (k : AR w pa ra ia p l i) (hic : i.length ≤ ic) (hic2 : ic ≤ maxLen) (hj : Row w ja j) (hjz : ja = none → j.length = 0 ∧ jc = 0) (hjb : j.length * 8 ≤ 140737488355328) (hE : rE p ⟨pc, l, h, f⟩ i a = 0) (R : Ran St Em) (hR : run (act p) a.toNat ⟨pc, l, h, f⟩ i = R) (hu : (R.used : Int) = a ∨ R.took < i.length)
    (hE2 : rE p ⟨pc, l, h, f⟩ (i.take R.took ++ j) a = 0) :
    Calls Try.prog 6 #[.slice pa p.length pcap, .agg (vmC pc (.slice ra l.length rc) h f), .slice ia i.length ic, .slice ja j.length jc, .int .i64 a] w fun e w' => e = .returned (.bool true) ∧ Below w.heap.size w w' := by
  subst hq
  have HIC := hid hic0
  clear hic0
  obtain ⟨hck, hok, hin, ha0, ha1, hi5⟩ := rE_zero hE
  have hle := run_le (act := act p) a.toNat ⟨pc, l, h, f⟩ i
  have hro := run_ok hck a.toNat ⟨pc, l, h, f⟩ i hok hin
  have hbl := run_blind (act := act p) a.toNat ⟨pc, l, h, f⟩ i j (by rw [hR]; omega)
  rw [hR] at hle hro hbl
  obtain ⟨L, hL⟩ : ∃ L, L = i.take R.took ++ j := ⟨_, rfl⟩
  rw [← hL] at hbl hE2
  have hll : L.length = R.took + j.length := by rw [hL, List.length_append, List.length_take]; omega
  obtain ⟨N, hN⟩ : ∃ N, N = L.length := ⟨_, rfl⟩
  unfold maxLen at hic2
  have HLL := hid hL
  have HN := hid hN
  have HNL := hid hll
  have i1 : (R.took : Int) ≤ (i.length : Int) := by omega
  have i2 : ¬ (R.took : Int) < 0 := by omega
  have i3 : (0 : Int) ≤ (R.took : Int) := by omega
  have i4 : (i.length : Int) ≤ (ic : Int) := by omega
  have i5 : (R.took : Int) ≤ (ic : Int) := by omega
  have HS : Hid (R.took + j.length ≤ maxLen ∧ ((R.took + j.length) + (R.took + j.length) / 4 + 192) * 8 ≤ 281474976710656) := hid ⟨by unfold maxLen; omega, by omega⟩
  have HK := hid k
  have HJ := hid hj
  have HJZ := hid hjz
  have HJB := hid hjb
  have HRO := hid hro
  have HR1 := hid (fun V (hb : Below w.heap.size w V) => k.ok (pcap := pcap) (rc := rc) (ic := ic) hE hR hb)
  have HR2 : Hid (∀ V a10 c10 B, Below w.heap.size w V → OwnI V B (.slice a10 N c10) L → Calls Try.prog 8 #[.slice pa p.length pcap, .agg (vmC pc (.slice ra l.length rc) h f), .slice a10 N c10, .int .i64 a] V fun e w' => (∃ g2 c2 oa2 oc2, e = .returned (.tuple #[.agg (vmC R.s.pc (vS g2 8 c2) R.s.halts R.s.fault), .slice oa2 R.out.length oc2, .int .i64 R.took, .int .i64 R.used, .int .i64 0]) ∧ OwnI w' V.heap.size (vS g2 8 c2) R.s.regs ∧ OwnEm w' V.heap.size (.slice oa2 R.out.length oc2) R.out) ∧ Below V.heap.size V w') := fun V a10 c10 B hV ho => by
    have k3 := k.below hV
    obtain ⟨a', c', e, hr, _⟩ := OwnI.row ho
    simp only [Value.slice.injEq] at e
    have ka : AR V pa ra a10 p l L := ⟨k3.hp, k3.pl, k3.hr, k3.rl, by rw [e.1]; exact hr, by rw [hll]; unfold maxLen; omega⟩
    have := ka.ok (pcap := pcap) (rc := rc) (ic := c10) hE2 hbl (Below.refl _ _)
    rw [← hN] at this
    exact this
  have HX := hid (B1.start w (vmC pc (.slice ra l.length rc) h f) 25)
  have hcon : (((R.used : Int) < a) ∧ ((R.took : Int) == (i.length : Int)) = false) ∨ ¬ (R.used : Int) < a := by
    rcases hu with e | e
    · exact .inr (by omega)
    · by_cases e2 : (R.used : Int) < a
      · exact .inl ⟨e2, by simp; omega⟩
      · exact .inr e2
  clear hro hE hok hin hck k hR hL hN hll hj hjz hjb hbl hE2 hu
  go_enter Try.func6, Try.ntmps6
  go_wp2_with (go_at_call 8; refine (HR1.out _ HX.out.bel).mono ?_; rintro e w2 ⟨⟨g, cap, oa, oc, rfl, ho2, hl2⟩, hb2⟩; have HX2 := hid (HX.out.step hb2); have HKX := hid (KX.new ho2); have HL2 := hid hl2; clear hb2 ho2 hl2)
  refine (vmLives_any _).mono ?_
  rintro e w3 ⟨rfl, hb3⟩
  have HKX3 := hid (HKX.out.below hb3 (Nat.le_refl _))
  have hbz := ((Below.refl w2.heap.size w2).alloc (Nat.le_refl _) (.cells (vmC R.s.pc (vS g 8 cap) R.s.halts R.s.fault) 25)).trans (hb3.mono (by rw [World.size_alloc]; omega))
  have HX3 := hid (HX2.out.step hbz)
  have HL3 := hid (OwnEm.below HL2.out hbz (Nat.le_refl _))
  clear hb3 hbz
  generalize hbx : w2.heap.size = bx at *
  clear hbx
  have hw3 := HX3.out.size
  have y0 := HX3.out.c0 0
  have y1 := HX3.out.c0 1
  have y2 := HX3.out.c0 2
  have y3 := HX3.out.c0 3
  simp at y0 y1 y2 y3
  have HCL := hid (fun V (hV : Below w3.heap.size w3 V) => cloneIL_any none ic (i.take R.took) V (row_take' (Row.below (Row.below HK.out.hi HX3.out.bel (Nat.le_refl _)) hV (Nat.le_refl _)) _) (fun _ => HIC.out) (by rw [List.length_take]; unfold maxLen; omega) (by rw [List.length_take]; omega))
  have HTK : Hid ((i.take R.took).length = R.took) := hid (by rw [List.length_take]; omega)
  rw [HTK.out] at HCL
  generalize i.take R.took = tk at *
  have HJ3 := hid (Row.below HJ.out HX3.out.bel (Nat.le_refl _))
  rcases hcon with ⟨k1, k2⟩ | k1
  all_goals go_upto_region 4 with fail
  all_goals
    go_cut [16, 17, 18, 19, 20] from 21 to 97 (fun v16 v17 v18 v19 v20 wc => ∃ by_ g2 c2 oa2 oc2, v16 = .pointer (some ⟨by_, 0, none⟩) ∧ v17 = .slice oa2 R.out.length oc2 ∧ v18 = .int .i64 R.took ∧ v19 = .int .i64 R.used ∧ v20 = .int .i64 0 ∧ Hid (KX wc by_ R.s g2 c2) ∧ Hid (∃ B, OwnEm wc B (.slice oa2 R.out.length oc2) R.out) ∧ Hid (Below w3.heap.size w3 wc))
    case first =>
      go_region_held3 (fun V => V.cell? ⟨w.heap.size, 0, none⟩ = some (.int .i64 pc) ∧ V.cell? ⟨w.heap.size, 1, none⟩ = some (.slice ra l.length rc) ∧ V.cell? ⟨w.heap.size, 2, none⟩ = some (.bool h) ∧ V.cell? ⟨w.heap.size, 3, none⟩ = some (.bool f)) (go_keep)
        (first
          | (go_at_call 20
             refine (HCL.out _ ?_).mono ?_
             · exact (Below.refl _ _).drew
             rintro e w9 ⟨⟨v9, rfl, ho9⟩, hb9⟩
             have hb39 : Below w3.heap.size w3 w9 := (Below.refl _ _).drew.trans hb9
             obtain ⟨a9, c9, e9, _⟩ := OwnI.row ho9
             rw [HTK.out] at e9
             subst e9
             have HO9 : Hid (OwnI w9 w3.heap.size (.slice a9 R.took c9) tk) := hid ho9
             have HB39 := hid hb39
             obtain ⟨z0, z1, z2, z3⟩ := B1.four (HX3.out.step hb39)
             have s9 : w3.heap.size ≤ w9.heap.size := hb39.size
             clear ho9 hb9 hb39)
          | (go_at_call 20
             refine (HCL.out _ ?_).mono ?_
             · exact ((Below.refl _ _).alloc (Nat.le_refl _) _).drew
             rintro e w9 ⟨⟨v9, rfl, ho9⟩, hb9⟩
             have hb39 : Below w3.heap.size w3 w9 := (((Below.refl _ _).alloc (Nat.le_refl _) _).drew).trans (hb9.mono (by simp))
             have HN9 := hid ((hb9.block w3.heap.size (by simp)).trans (heap_alloc_new w3 (.cells zV 25)))
             obtain ⟨a9, c9, e9, _⟩ := OwnI.row ho9
             rw [HTK.out] at e9
             subst e9
             have HO9 : Hid (OwnI w9 w3.heap.size (.slice a9 R.took c9) tk) := hid (OwnI.lower ho9 (by simp))
             have HB39 := hid hb39
             obtain ⟨z0, z1, z2, z3⟩ := B1.four (HX3.out.step hb39)
             have s9 : w3.heap.size ≤ w9.heap.size := hb39.size
             clear ho9 hb9 hb39)
          | (refine step_appendI (by rfl) _ _ (by rfl) w3.heap.size (.slice a9 R.took c9) tk j ja j.length jc (by rfl) HO9.out (by rfl) rfl (Row.below HJ3.out HB39.out (Nat.le_refl _)) HJZ.out (by rw [HTK.out]; exact HS.out.1) (by rw [HTK.out]; exact HS.out.2) HB39.out.size ?_
             intro v10 w10 ho10 hg10
             obtain ⟨a10, c10, e10, _⟩ := OwnI.row ho10
             rw [← HLL.out, ← HN.out] at e10
             subst e10
             have hb310 := HB39.out.grown hg10 HB39.out.size (fun q hq => (World.ownsRow.lt HO9.out q hq).1)
             rw [← HLL.out] at ho10
             have HN10 := hid (zb_own HO9.out HN9.out hg10)
             have HO10 := hid ho10
             have HB310 := hid hb310
             obtain ⟨z0, z1, z2, z3⟩ := B1.four (HX3.out.step hb310)
             have s10 : w3.heap.size ≤ w10.heap.size := hb310.size
             clear ho10 hg10 hb310)
          | (refine step_appendI (by rfl) _ _ (by rfl) w3.heap.size (.slice a9 R.took c9) tk j ja j.length jc (by rfl) HO9.out (by rfl) rfl (Row.below HJ3.out HB39.out (Nat.le_refl _)) HJZ.out (by rw [HTK.out]; exact HS.out.1) (by rw [HTK.out]; exact HS.out.2) HB39.out.size ?_
             intro v10 w10 ho10 hg10
             obtain ⟨a10, c10, e10, _⟩ := OwnI.row ho10
             rw [← HLL.out, ← HN.out] at e10
             subst e10
             have hb310 := HB39.out.grown hg10 HB39.out.size (fun q hq => (World.ownsRow.lt HO9.out q hq).1)
             rw [← HLL.out] at ho10
             have HO10 := hid ho10
             have HB310 := hid hb310
             obtain ⟨z0, z1, z2, z3⟩ := B1.four (HX3.out.step hb310)
             have s10 : w3.heap.size ≤ w10.heap.size := hb310.size
             clear ho10 hg10 hb310)
          | (refine step_appendI (by rfl) _ _ (by rfl) w3.heap.size (.slice a9 R.took c9) tk j ja j.length jc (by rfl) (OwnI.below HO9.out ((Below.refl _ _).alloc (Nat.le_refl _) _) (Nat.le_refl _)) (by rfl) rfl (Row.below HJ3.out (HB39.out.alloc HB39.out.size _) (Nat.le_refl _)) HJZ.out (by rw [HTK.out]; exact HS.out.1) (by rw [HTK.out]; exact HS.out.2) (HB39.out.alloc HB39.out.size _).size ?_
             intro v10 w10 ho10 hg10
             obtain ⟨a10, c10, e10, _⟩ := OwnI.row ho10
             rw [← HLL.out, ← HN.out] at e10
             subst e10
             have hb310 := (HB39.out.alloc HB39.out.size _).grown hg10 (HB39.out.alloc HB39.out.size _).size (fun q hq => (World.ownsRow.lt HO9.out q hq).1)
             rw [← HLL.out] at ho10
             have HN10 := hid (zb_own (OwnI.below HO9.out ((Below.refl _ _).alloc (Nat.le_refl _) _) (Nat.le_refl _)) (heap_alloc_new w9 (.cells zV 25)) hg10)
             have HO10 := hid ho10
             have HB310 := hid hb310
             obtain ⟨z0, z1, z2, z3⟩ := B1.four (HX3.out.step hb310)
             have s10 : w3.heap.size ≤ w10.heap.size := hb310.size
             clear ho10 hg10 hb310)
          | (go_at_call 8
             refine (HR2.out _ _ _ _ (HX3.out.bel.trans (HB310.out.mono HX3.out.bel.size)) HO10.out).mono ?_
             rintro e w5 ⟨⟨g2, c2, oa2, oc2, rfl, ho5, hl5⟩, hb5⟩
             have hb5' : Below w3.heap.size w3 w5 := HB310.out.trans (hb5.mono HB310.out.size)
             have hn5 := (hb5.block _ (Array.getElem?_eq_some_iff.1 HN10.out).1).trans HN10.out
             have HO5 := hid ho5
             have HN5 := hid hn5
             have HL5 := hid hl5
             have HBW := hid hb5'
             obtain ⟨z0, z1, z2, z3⟩ := B1.four (HX3.out.step hb5')
             have n0 := froz_box hn5 0
             have n1 := froz_box hn5 1
             have n2 := froz_box hn5 2
             have n3 := froz_box hn5 3
             have m0 := box_cell hn5 0
             have m1 := box_cell hn5 1
             have m2 := box_cell hn5 2
             have m3 := box_cell hn5 3
             simp at m0 m1 m2 m3
             first
               | (have ne5 : ¬ w3.heap.size = w.heap.size := (by omega)
                  have ne6 : ¬ w.heap.size = w3.heap.size := (by omega))
               | skip
             try have ne7 : ¬ w9.heap.size = w.heap.size := (by omega)
             try have ne8 : ¬ w.heap.size = w9.heap.size := (by omega)
             clear ho5 hl5 hb5 hb5' hn5)
          | (go_at_call 8
             refine (HR2.out _ _ _ _ (HX3.out.bel.trans (HB310.out.mono HX3.out.bel.size)) HO10.out).mono ?_
             rintro e w5 ⟨⟨g2, c2, oa2, oc2, rfl, ho5, hl5⟩, hb5⟩
             have hb5' : Below w3.heap.size w3 w5 := HB310.out.trans (hb5.mono HB310.out.size)
             have HY5 := hid (KX.new ho5)
             have HL5 := hid hl5
             have HBW := hid hb5'
             obtain ⟨z0, z1, z2, z3⟩ := B1.four (HX3.out.step hb5')
             clear ho5 hl5 hb5 hb5')
          | (go_at_call 8
             refine (HR2.out _ _ _ _ (HX3.out.bel.trans ((HB310.out.alloc HB310.out.size _).mono HX3.out.bel.size)) (OwnI.below HO10.out ((Below.refl _ _).alloc (Nat.le_refl _) _) (Nat.le_refl _))).mono ?_
             rintro e w5 ⟨⟨g2, c2, oa2, oc2, rfl, ho5, hl5⟩, hb5⟩
             have hb5' : Below w3.heap.size w3 w5 := (HB310.out.alloc HB310.out.size _).trans (hb5.mono (HB310.out.alloc HB310.out.size _).size)
             have hn5 : w5.heap[w10.heap.size]? = some (.cells zV 25) := (hb5.block w10.heap.size (by simp)).trans (heap_alloc_new w10 _)
             have HO5 := hid ho5
             have HN5 := hid hn5
             have HL5 := hid hl5
             have HBW := hid hb5'
             obtain ⟨z0, z1, z2, z3⟩ := B1.four (HX3.out.step hb5')
             have n0 := froz_box hn5 0
             have n1 := froz_box hn5 1
             have n2 := froz_box hn5 2
             have n3 := froz_box hn5 3
             have m0 := box_cell hn5 0
             have m1 := box_cell hn5 1
             have m2 := box_cell hn5 2
             have m3 := box_cell hn5 3
             simp at m0 m1 m2 m3
             have ne7 : ¬ w10.heap.size = w.heap.size := (by omega)
             have ne8 : ¬ w.heap.size = w10.heap.size := (by omega)
             clear ho5 hl5 hb5 hb5' hn5)
          | (trace_state
             fail))
      all_goals (go_wp2_with fail)
      all_goals go_meet
      all_goals first
        | exact ⟨_, _, _, _, _, rfl, rfl, rfl, rfl, rfl, hid HY5.out, hid ⟨_, OwnEm.below HL5.out ((Below.refl _ _).alloc (Nat.le_refl _) _) (Nat.le_refl _)⟩, hid (HBW.out.alloc HBW.out.size _)⟩
        | exact ⟨_, _, _, _, _, rfl, rfl, rfl, rfl, rfl, hid (KX.put HN5.out HO5.out), hid ⟨_, st4_own _ _ _ _ HL5.out HN5.out (by decide)⟩, hid (st4_below HBW.out (by first | exact Nat.le_refl _ | omega))⟩
        | (trace_state; fail)
    case rest =>
      obtain ⟨by_, g2, c2, oa2, oc2, rfl, rfl, rfl, rfl, rfl, HY, HLM, HBC⟩ := hcut
      have HKC := hid (HKX3.out.below HBC.out (Nat.le_refl _))
      obtain ⟨x0, x1, x2, x3⟩ := KX.c HKC.out
      obtain ⟨u0, u1, u2, u3⟩ := KX.c HY.out
      have hsm := KX.same HKC.out HY.out (Below.refl _ _)
      rw [show sameB R.s R.s = true from sameB_refl _] at hsm
      have HSM := hid hsm
      clear hsm
      go_wp2_with fail
      refine HSM.out.mono ?_
      rintro e w8 ⟨rfl, hb8⟩
      obtain ⟨B5, hlm⟩ := HLM.out
      have hb38 := HBC.out.trans (hb8.mono HBC.out.size)
      have HL8 := hid (OwnEm.below HL3.out hb38 (Nat.le_refl _))
      have HM8 := hid (OwnEm.below hlm hb8 (Nat.le_refl _))
      have HB38 := hid hb38
      clear hb8 hb38 hlm
      go_wp2_with fail
      have heq := equalEm_any oa oa2 oc oc2 R.out R.out w8 (OwnEm.nz HL8.out).1 (OwnEm.nz HM8.out).1 (by have := HRO.out; unfold maxLen; omega)
      rw [decide_eq_true rfl] at heq
      refine heq.mono ?_
      rintro e w11 ⟨rfl, hb11⟩
      have HB := hid (HB38.out.trans (hb11.mono HB38.out.size))
      clear heq hb11
      go_wp2_with fail
      go_ret
      exact ⟨rfl, HX3.out.bel.trans (HB.out.mono HX3.out.bel.size)⟩
end
end VmC
end Go.Proofs.Ytceflfdpbgnfjaa
