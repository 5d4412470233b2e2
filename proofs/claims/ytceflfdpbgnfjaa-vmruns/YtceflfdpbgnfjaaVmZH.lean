/- The reference's Ran. -/
import Derived.Test.YtceflfdpbgnfjaaVmZF
import Derived.Test.YtceflfdpbgnfjaaVmZG
set_option linter.unusedVariables false
namespace Go.Proofs.Ytceflfdpbgnfjaa
open Go.RowKit
open Go.Shelf Go.Sort
open SpanM hiding good
open SpanC IntsC
open RowsO hiding Em
namespace VmC
open VmP VmM
open NumC (Row)
theorem row_slice0 {w : World} {q : Addr} {i : List Int} {n c : Nat} (h : Row w (some q) i) (hn : n ≤ i.length) (hc : i.length ≤ c) : Row w (if c = n then some q else some (q.add n)) (i.drop n) := by
  by_cases e : i.length = n
  · left; rw [List.drop_of_length_le (by omega)]
  · rw [if_neg (by omega)]
    rcases h with h | ⟨b, off, e1, h⟩
    · rw [h] at e hn; simp at hn; exact absurd (by rw [hn]; rfl) e
    · simp only [Option.some.injEq] at e1
      subst e1
      refine .inr ⟨b, off + n, by rw [add_none], fun j hj => ?_⟩
      rw [List.length_drop] at hj
      rw [Nat.add_assoc, h (n + j) (by omega)]
      simp [List.getD, List.getElem?_drop]
/-- what Ran tells -/
def RanR (w : World) (R : Ran St Em) (e : Ending) (w' : World) : Prop :=
  (∃ qb qo cap oa oc, e = .returned (.tuple #[.agg (vmC R.s.pc (.slice (some ⟨qb, qo, none⟩) 8 cap) R.s.halts R.s.fault), .slice oa R.out.length oc, .int .i64 R.took, .int .i64 R.used]) ∧ Row w' (some ⟨qb, qo, none⟩) R.s.regs ∧ OwnEm w' (w.heap.size + 2) (.slice oa R.out.length oc) R.out) ∧ Below w.heap.size w w'
section
variable (w : World) (pa ra ia : Option Addr) (p : List In) (l i : List Int) (pc : Int) (pcap rc ic : Nat) (h f : Bool) (fu : Nat)
set_option maxRecDepth 20000 in
set_option maxHeartbeats 3200000 in
theorem ran_some (q : Addr) (hq : ia = some q) (k : AR w pa ra ia p l i) (hic : i.length ≤ ic) (hic2 : ic ≤ maxLen) (hE : rE p ⟨pc, l, h, f⟩ i fu = 0) :
    Calls Try.prog 16 #[.slice pa p.length pcap, .agg (vmC pc (.slice ra l.length rc) h f), .slice ia i.length ic, .int .i64 fu] w (RanR w (run (act p) fu ⟨pc, l, h, f⟩ i)) := by
  subst hq
  obtain ⟨hck, hok, hin, hf0, hf1, hi5⟩ := rE_zero hE
  have hl8 : l.length = 8 := hok.len
  rw [hl8]
  have hra : ∃ rb ro, ra = some ⟨rb, ro, none⟩ ∧ rb < w.heap.size := by
    obtain ⟨b, off, e, hb, _⟩ := Row.at k.hr 0 (by omega)
    exact ⟨b, off, e, hb⟩
  obtain ⟨rb, ro, rfl, hrb⟩ := hra
  have HK := hid k
  have HCK := hid hck
  have HOK := hid hok
  have HIN := hid hin
  unfold maxLen at hic2
  have hR0 : Hid (Rn w ((w.alloc (.cells (vmC pc (.slice (some ⟨rb, ro, none⟩) 8 rc) h f) 25)).alloc (.cells zV 25)) ⟨pc, l, h, f⟩ rb ro rc (.slice none 0 0) []) := by
    have hx := B2.start w (vmC pc (.slice (some ⟨rb, ro, none⟩) 8 rc) h f) zV 25 25
    exact ⟨hx.bel, B2.size hx, (hx.b.block w.heap.size (by omega)).trans (box_alloc (box_new w _ _) _), B2.box1 hx, Row.below k.hr hx.bel (Nat.le_refl _), ⟨by omega, by omega⟩, OwnEm.nil _ _⟩
  clear k hck hok hin hE hl8 hf0
  go_enter Try.func16, Try.ntmps16
  go_wp2_with fail
  generalize (w.alloc (.cells (vmC pc (.slice (some ⟨rb, ro, none⟩) 8 rc) h f) 25)).alloc (.cells zV 25) = W0 at *
  go_loopw [12, 13, 14] (fun v12 v13 v14 wr => ∃ (k : Nat) (R : Ran St Em) (qb qo cap : Nat) (oa : Option Addr) (oc : Nat), k ≤ fu ∧ v14 = .int .i64 k ∧ v13 = .int .i64 R.took ∧ v12 = .slice oa R.out.length oc ∧ Hid (run (act p) k ⟨pc, l, h, f⟩ i = R ∧ R.used = k) ∧ Hid (Rn w wr R.s qb qo cap (.slice oa R.out.length oc) R.out)) (fun _ _ v14 _ => fu - (intOf v14).toNat)
  case atStart => exact ⟨0, ⟨⟨pc, l, h, f⟩, [], 0, 0⟩, rb, ro, rc, none, 0, by omega, rfl, rfl, rfl, ⟨rfl, rfl⟩, hR0.out⟩
  case round =>
    obtain ⟨k, R, qb, qo, cap, oa, oc, hk, rfl, rfl, rfl, hu, HM⟩ := hrel
    have hro := run_ok HCK.out k _ i HOK.out HIN.out
    have hle := run_le (act := act p) k ⟨pc, l, h, f⟩ i
    have hnx := run_next (p := p) (s := ⟨pc, l, h, f⟩) (i := i) k
    rw [hu.out.1] at hro hle hnx
    have HRO := hid hro
    have HNX := hid hnx
    have hfin : (k = fu ∨ goes p R.s (decide (R.took < i.length)) = false) → run (act p) fu ⟨pc, l, h, f⟩ i = R := by
      rintro (e | e)
      · rw [← e]; exact hu.out.1
      · have hc := run_cut (act := act p) k (fu - k) ⟨pc, l, h, f⟩ i
        rw [show k + (fu - k) = fu by omega, hu.out.1] at hc
        rw [hc, goes_no (p := p) (i := i.drop R.took) (by rw [← e]; congr 1; rw [List.length_drop]; simp; omega)]
        simp [Ran.then]
    have HFIN := hid hfin
    have hka := HK.out.below HM.out.bel
    have hr8 : R.s.regs.length = 8 := hro.1.len
    have hsw := HM.out.sz
    have HFACT : Hid (R.took ≤ i.length ∧ R.out.length ≤ k) := ⟨hle.2.1, by have := hro.2; have := hu.out.2; omega⟩
    have i2 : (R.took : Int) ≤ (i.length : Int) := by omega
    have i3 : ¬ (R.took : Int) < 0 := by omega
    have i4 : (0 : Int) ≤ (R.took : Int) := by omega
    have i5 : (i.length : Int) ≤ (ic : Int) := by omega
    have i6 : (i.length : Int) ≤ 5000 := by omega
    by_cases hlt : k < fu
    · have i1 : (k : Int) < (fu : Int) := by omega
      obtain ⟨A, hA⟩ : ∃ A, (if ic = R.took then some q else some (q.add R.took)) = A := ⟨_, rfl⟩
      cases hgo : goes p R.s (decide (R.took < i.length))
      · have HF := hid (HFIN.out (.inr hgo))
        have HON : Hid (∀ V, Below wr.heap.size wr V → Calls Try.prog 35 #[.slice pa p.length pcap, .agg (vmC R.s.pc (.slice (some ⟨qb, qo, none⟩) 8 cap) R.s.halts R.s.fault), .slice A (i.length - R.took) (ic - R.took)] V (fun e w' => e = .returned (.tuple #[.agg (vmC R.s.pc (.slice (some ⟨qb, qo, none⟩) 8 cap) R.s.halts R.s.fault), .slice none 0 0, .int .i64 0, .bool false]) ∧ Below V.heap.size V w')) := fun V hV => by
          have k3 := hka.below hV
          have hgg := once_no V pa A ⟨qb, qo, none⟩ pcap cap (ic - R.took) p R.s.regs (i.drop R.took) R.s.pc R.s.halts R.s.fault k3.hp k3.pl (Row.below HM.out.row hV (Nat.le_refl _)) hro.1.n (by rw [← hA]; exact row_slice0 k3.hi hle.2.1 hic) (by rw [List.length_drop]; have := k3.il; omega) HCK.out hro.1 (by rw [← hgo]; congr 1; rw [List.length_drop]; simp; omega)
          rw [List.length_drop] at hgg
          exact hgg
        obtain ⟨y0, y1, y2, y3⟩ := HM.out.cc
        have nz1 : ¬ w.heap.size = wr.heap.size := by omega
        have nz2 : ¬ wr.heap.size = w.heap.size := by omega
        clear hro hle hnx hfin hka hgo hsw
        go_upto_region 4 with fail
        go_cut [15, 16, 17, 18] from 22 to 43 (fun v15 v16 v17 v18 wc => v18 = .bool false ∧ Hid (Below wr.heap.size wr wc))
        case first =>
          go_region_held3 (fun V => V.cell? ⟨w.heap.size, 0, none⟩ = some (.int .i64 R.s.pc) ∧ V.cell? ⟨w.heap.size, 1, none⟩ = some (.slice (some ⟨qb, qo, none⟩) 8 cap) ∧ V.cell? ⟨w.heap.size, 2, none⟩ = some (.bool R.s.halts) ∧ V.cell? ⟨w.heap.size, 3, none⟩ = some (.bool R.s.fault)) (go_keep)
            (first
              | (go_at_call 35
                 refine (HON.out _ ?_).mono ?_
                 · exact (Below.refl _ _).drew
                 rintro e w5 ⟨rfl, hb5⟩
                 have hb5' : Below wr.heap.size wr w5 := (Below.refl _ _).drew.trans hb5
                 have HBW := hid hb5'
                 obtain ⟨z0, z1, z2, z3⟩ := (HM.out.step hb5').cc
                 clear hb5 hb5')
              | (go_at_call 35
                 refine (HON.out _ ?_).mono ?_
                 · exact ((Below.refl _ _).alloc (Nat.le_refl _) _).drew
                 rintro e w5 ⟨rfl, hb5⟩
                 have hb5' : Below wr.heap.size wr w5 := (((Below.refl _ _).alloc (Nat.le_refl _) _).drew).trans (hb5.mono (by simp))
                 have hn5 : w5.heap[wr.heap.size]? = some (.cells zV 25) := (hb5.block wr.heap.size (by simp)).trans (heap_alloc_new wr _)
                 have HN5 := hid hn5
                 have HBW := hid hb5'
                 obtain ⟨z0, z1, z2, z3⟩ := (HM.out.step hb5').cc
                 have n0 := froz_box hn5 0
                 have n1 := froz_box hn5 1
                 have n2 := froz_box hn5 2
                 have n3 := froz_box hn5 3
                 have m0 := box_cell hn5 0
                 have m1 := box_cell hn5 1
                 have m2 := box_cell hn5 2
                 have m3 := box_cell hn5 3
                 simp at m0 m1 m2 m3
                 clear hb5 hb5' hn5))
          all_goals (go_wp2_with fail)
          all_goals go_meet
          · exact ⟨rfl, HBW.out.alloc HBW.out.size _⟩
          · exact ⟨rfl, st4_below HBW.out (Nat.le_refl _)⟩
        case rest =>
          obtain ⟨rfl, HBC⟩ := hcut
          clear y0 y1 y2 y3
          have HV := hid (HM.out.step HBC.out)
          obtain ⟨y0, y1, y2, y3⟩ := HV.out.cc
          obtain ⟨r0, r1, r2, r3⟩ := HV.out.r
          have s0 := froz_box HV.out.res 0
          have s1 := froz_box HV.out.res 1
          have s2 := froz_box HV.out.res 2
          have s3 := froz_box HV.out.res 3
          go_wp2_with fail
          have HE := hid (st4_heap (x0 := .int .i64 R.s.pc) (x1 := .slice (some ⟨qb, qo, none⟩) 8 cap) (x2 := .bool R.s.halts) (x3 := .bool R.s.fault) HV.out.res)
          have HB := hid (st4_below (b := w.heap.size + 1) (x0 := .int .i64 R.s.pc) (x1 := .slice (some ⟨qb, qo, none⟩) 8 cap) (x2 := .bool R.s.halts) (x3 := .bool R.s.fault) HV.out.bel (by omega))
          have HRW := hid (row_st4 (.int .i64 R.s.pc) (.slice (some ⟨qb, qo, none⟩) 8 cap) (.bool R.s.halts) (.bool R.s.fault) HV.out.row HV.out.ne.2)
          have HOW := hid (st4_own (.int .i64 R.s.pc) (.slice (some ⟨qb, qo, none⟩) 8 cap) (.bool R.s.halts) (.bool R.s.fault) HV.out.out HV.out.res (by decide))
          have HL := hid (load_vm HE.out)
          simp only [st4] at HL HB HRW HOW
          (try simp only [Exit.inBlock, Exit.then])
          refine bodyPost_ret (by simp [results, Try.results16]; rw [as_addr, Result.andThen_ok, HL.out, Result.andThen_ok]) rfl ?_
          unfold RanR
          rw [HF.out]
          exact ⟨⟨_, _, _, _, _, by rw [hu.out.2], HRW.out, HOW.out⟩, HB.out⟩
      · have hy := goes_yes (p := p) (s := R.s) (i := i.drop R.took) (by rw [← hgo]; congr 1; rw [List.length_drop]; simp; omega)
        have hgd : (i.drop R.took).getD 0 0 = i.getD R.took 0 := by simp [List.getD]
        rw [hgd] at hy
        have HN1 : run (act p) (k + 1) ⟨pc, l, h, f⟩ i = R.then (stp p R.s (i.getD R.took 0)) := by rw [HNX.out, hy.1]
        have hro1 := run_ok HCK.out (k + 1) _ i HOK.out HIN.out
        have hle1 := run_le (act := act p) (k + 1) ⟨pc, l, h, f⟩ i
        rw [HN1] at hro1 hle1
        have HON : Hid (∀ V, Below wr.heap.size wr V → Calls Try.prog 35 #[.slice pa p.length pcap, .agg (vmC R.s.pc (.slice (some ⟨qb, qo, none⟩) 8 cap) R.s.halts R.s.fault), .slice A (i.length - R.took) (ic - R.took)] V (OnceR V (stp p R.s (i.getD R.took 0)).s (stp p R.s (i.getD R.took 0)).out (stp p R.s (i.getD R.took 0)).took)) := fun V hV => by
          have k3 := hka.below hV
          have hgg := once_yes V pa A ⟨qb, qo, none⟩ pcap cap (ic - R.took) p R.s.regs (i.drop R.took) R.s.pc R.s.halts R.s.fault k3.hp k3.pl (Row.below HM.out.row hV (Nat.le_refl _)) hro.1.n (by rw [← hA]; exact row_slice0 k3.hi hle.2.1 hic) (by rw [List.length_drop]; have := k3.il; omega) HCK.out hro.1 (by rw [← hgo]; congr 1; rw [List.length_drop]; simp; omega)
          rw [List.length_drop, hgd] at hgg
          exact hgg
        have hyu := hy.2
        obtain ⟨Z, hZ⟩ : ∃ Z, Z = stp p R.s (i.getD R.took 0) := ⟨_, rfl⟩
        rw [← hZ] at HON HN1 hro1 hle1 hyu
        simp only [Ran.then, List.length_append] at hro1 hle1
        have HB1 : Hid (R.out.length + Z.out.length ≤ 5000 ∧ R.took + Z.took ≤ 5000 ∧ R.used + Z.used = k + 1) := ⟨by have := hro1.2; omega, by omega, by have := hu.out.2; omega⟩
        have HN2 := hid HN1
        have j1 : IntKind.i64.wrap ((R.took : Int) + (Z.took : Int)) = (R.took : Int) + (Z.took : Int) := by rw [IntKind.wrap_i64]; omega
        obtain ⟨y0, y1, y2, y3⟩ := HM.out.cc
        have nz1 : ¬ w.heap.size = wr.heap.size := by omega
        have nz2 : ¬ wr.heap.size = w.heap.size := by omega
        have HSW := hid hsw
        clear hro hle hnx hfin hka hgo hy hgd HN1 hro1 hle1 hyu hZ
        go_upto_region 4 with fail
        go_cut [15, 16, 17, 18] from 22 to 43 (fun v15 v16 v17 v18 wc => ∃ bx g c la lc, v15 = .pointer (some ⟨bx, 0, none⟩) ∧ v16 = .slice la Z.out.length lc ∧ v17 = .int .i64 Z.took ∧ v18 = .bool true ∧ Hid (Below wr.heap.size wr wc) ∧ Hid (Nw w wc bx g c Z.s (.slice la Z.out.length lc) Z.out))
        case first =>
          go_region_held3 (fun V => V.cell? ⟨w.heap.size, 0, none⟩ = some (.int .i64 R.s.pc) ∧ V.cell? ⟨w.heap.size, 1, none⟩ = some (.slice (some ⟨qb, qo, none⟩) 8 cap) ∧ V.cell? ⟨w.heap.size, 2, none⟩ = some (.bool R.s.halts) ∧ V.cell? ⟨w.heap.size, 3, none⟩ = some (.bool R.s.fault)) (go_keep)
            (first
              | (go_at_call 35
                 refine (HON.out _ ?_).mono ?_
                 · exact (Below.refl _ _).drew
                 rintro e w5 ⟨⟨g2, c2, lv, rfl, ho5, he5⟩, hb5⟩
                 have hb5' : Below wr.heap.size wr w5 := (Below.refl _ _).drew.trans hb5
                 have HO5 := hid (OwnI.base' ho5 (show w.heap.size + 2 ≤ _ by first | exact hsw | (simp; omega)))
                 have HE5 := hid (EmV.own he5)
                 obtain ⟨la, lc, elv⟩ := OwnEm.len HE5.out
                 subst elv
                 have HE6 := hid (OwnEm.base HE5.out (show w.heap.size + 2 ≤ _ by first | exact hsw | (simp; omega)))
                 clear ho5 he5 HE5
                 have HBW := hid hb5'
                 obtain ⟨z0, z1, z2, z3⟩ := (HM.out.step hb5').cc
                 clear hb5 hb5')
              | (go_at_call 35
                 refine (HON.out _ ?_).mono ?_
                 · exact ((Below.refl _ _).alloc (Nat.le_refl _) _).drew
                 rintro e w5 ⟨⟨g2, c2, lv, rfl, ho5, he5⟩, hb5⟩
                 have hb5' : Below wr.heap.size wr w5 := (((Below.refl _ _).alloc (Nat.le_refl _) _).drew).trans (hb5.mono (by simp))
                 have hn5 : w5.heap[wr.heap.size]? = some (.cells zV 25) := (hb5.block wr.heap.size (by simp)).trans (heap_alloc_new wr _)
                 have HO5 := hid (OwnI.base' ho5 (show w.heap.size + 2 ≤ _ by simp; omega))
                 have HE5 := hid (EmV.own he5)
                 obtain ⟨la, lc, elv⟩ := OwnEm.len HE5.out
                 subst elv
                 have HE6 := hid (OwnEm.base HE5.out (show w.heap.size + 2 ≤ _ by simp; omega))
                 clear ho5 he5 HE5
                 have HN5 := hid hn5
                 have HBW := hid hb5'
                 obtain ⟨z0, z1, z2, z3⟩ := (HM.out.step hb5').cc
                 have n0 := froz_box hn5 0
                 have n1 := froz_box hn5 1
                 have n2 := froz_box hn5 2
                 have n3 := froz_box hn5 3
                 have m0 := box_cell hn5 0
                 have m1 := box_cell hn5 1
                 have m2 := box_cell hn5 2
                 have m3 := box_cell hn5 3
                 simp at m0 m1 m2 m3
                 clear hb5 hb5' hn5))
          all_goals (go_wp2_with fail)
          all_goals go_meet
          · exact ⟨_, _, _, _, _, rfl, rfl, rfl, rfl, HBW.out.alloc HBW.out.size _, ⟨box_new _ _ _, OwnI.below HO5.out ((Below.refl _ _).alloc (Nat.le_refl _) _) (Nat.le_refl _), by have := HBW.out.size; omega, OwnEm.below HE6.out ((Below.refl _ _).alloc (Nat.le_refl _) _) (Nat.le_refl _)⟩⟩
          · exact ⟨_, _, _, _, _, rfl, rfl, rfl, rfl, st4_below HBW.out (Nat.le_refl _), ⟨st4_heap HN5.out, st4_own _ _ _ _ HO5.out HN5.out (by decide), by omega, st4_own _ _ _ _ HE6.out HN5.out (by decide)⟩⟩
        case rest =>
          obtain ⟨bx, g, c, la, lc, rfl, rfl, rfl, rfl, HBC, HNW⟩ := hcut
          clear y0 y1 y2 y3
          have HV := hid (HM.out.step HBC.out)
          obtain ⟨y0, y1, y2, y3⟩ := HV.out.cc
          obtain ⟨x0, x1, x2, x3⟩ := HNW.out.cc
          have f0 := froz_box HV.out.box 0
          have f1 := froz_box HV.out.box 1
          have f2 := froz_box HV.out.box 2
          have f3 := froz_box HV.out.box 3
          have nb1 : ¬ bx = w.heap.size := by have := HNW.out.ge; omega
          have nb2 : ¬ w.heap.size = bx := by omega
          clear nz1 nz2 HON hA
          go_upto_region 6 with fail
          go_region_held3 (fun V => V.cell? ⟨bx, 0, none⟩ = some (.int .i64 Z.s.pc) ∧ V.cell? ⟨bx, 1, none⟩ = some (vS g 8 c) ∧ V.cell? ⟨bx, 2, none⟩ = some (.bool Z.s.halts) ∧ V.cell? ⟨bx, 3, none⟩ = some (.bool Z.s.fault)) (go_keep)
            (first
              | (refine step_appendE (by rfl) _ _ (by rfl) (w.heap.size + 2) (.slice oa R.out.length oc) R.out Z.out la Z.out.length lc (by rfl) (World.ownsRow.drew HV.out.out) (by rfl) rfl (OwnEm.nz' (World.ownsRow.drew HNW.out.em)).1 (OwnEm.nz' HNW.out.em).2 (by have := HB1.out; unfold maxLen; omega) (by have := HB1.out; omega) (by have := HV.out.sz; exact this) ?_
                 intro v10 w10 ho10 hg10
                 have hg11 : wc.grownBy w10 (Value.slice oa R.out.length oc).ownBlock := ⟨hg10.os, hg10.tape, hg10.output, hg10.size, hg10.block⟩
                 have HNEXT := hid (HV.out.nextA HNW.out ho10 hg11)
                 obtain ⟨a10, c10, e10⟩ := OwnEm.len ho10
                 subst e10
                 obtain ⟨b1, _, b3, _⟩ := HNW.out.app HV.out hg11
                 obtain ⟨z0, z1, z2, z3⟩ : w10.cell? ⟨bx, 0, none⟩ = some (.int .i64 Z.s.pc) ∧ w10.cell? ⟨bx, 1, none⟩ = some (vS g 8 c) ∧ w10.cell? ⟨bx, 2, none⟩ = some (.bool Z.s.halts) ∧ w10.cell? ⟨bx, 3, none⟩ = some (.bool Z.s.fault) := ⟨box_cell b1 0, box_cell b1 1, box_cell b1 2, box_cell b1 3⟩
                 obtain ⟨t0, t1, t2, t3⟩ : w10.cell? ⟨w.heap.size, 0, none⟩ = some (.int .i64 R.s.pc) ∧ w10.cell? ⟨w.heap.size, 1, none⟩ = some (.slice (some ⟨qb, qo, none⟩) 8 cap) ∧ w10.cell? ⟨w.heap.size, 2, none⟩ = some (.bool R.s.halts) ∧ w10.cell? ⟨w.heap.size, 3, none⟩ = some (.bool R.s.fault) := ⟨box_cell b3 0, box_cell b3 1, box_cell b3 2, box_cell b3 3⟩
                 have e0 := froz_box b3 0
                 have e1 := froz_box b3 1
                 have e2 := froz_box b3 2
                 have e3 := froz_box b3 3
                 clear ho10 hg10 hg11 b1 b3)
              | (trace_state
                 fail))
          all_goals (go_wp2_with fail)
          all_goals go_roundw
          case rel =>
            refine ⟨k + 1, R.then Z, g, 0, c, a10, c10, by omega, by go_num, ?_, ?_, ⟨HN2.out, HB1.out.2.2⟩, ?_⟩
            · simp only [Ran.then]; go_num
            · simp only [Ran.then, List.length_append]
            · show Rn _ _ _ _ _ _ _ _
              simp only [Ran.then, List.length_append]
              have qq := HNEXT.out
              rw [List.length_append] at qq
              exact qq
          case measure => simp [intOf]; omega
    · have HF := hid (HFIN.out (.inl (by omega)))
      have i1 : ¬ (k : Int) < (fu : Int) := by omega
      clear hro hle hnx hfin hka hsw
      have HV := HM
      obtain ⟨y0, y1, y2, y3⟩ := HV.out.cc
      obtain ⟨r0, r1, r2, r3⟩ := HV.out.r
      have s0 := froz_box HV.out.res 0
      have s1 := froz_box HV.out.res 1
      have s2 := froz_box HV.out.res 2
      have s3 := froz_box HV.out.res 3
      go_wp2_with fail
      have HE := hid (st4_heap (x0 := .int .i64 R.s.pc) (x1 := .slice (some ⟨qb, qo, none⟩) 8 cap) (x2 := .bool R.s.halts) (x3 := .bool R.s.fault) HV.out.res)
      have HB := hid (st4_below (b := w.heap.size + 1) (x0 := .int .i64 R.s.pc) (x1 := .slice (some ⟨qb, qo, none⟩) 8 cap) (x2 := .bool R.s.halts) (x3 := .bool R.s.fault) HV.out.bel (by omega))
      have HRW := hid (row_st4 (.int .i64 R.s.pc) (.slice (some ⟨qb, qo, none⟩) 8 cap) (.bool R.s.halts) (.bool R.s.fault) HV.out.row HV.out.ne.2)
      have HOW := hid (st4_own (.int .i64 R.s.pc) (.slice (some ⟨qb, qo, none⟩) 8 cap) (.bool R.s.halts) (.bool R.s.fault) HV.out.out HV.out.res (by decide))
      have HL := hid (load_vm HE.out)
      simp only [st4] at HL HB HRW HOW
      (try simp only [Exit.inBlock, Exit.then])
      refine bodyPost_ret (by simp [results, Try.results16]; rw [as_addr, Result.andThen_ok, HL.out, Result.andThen_ok]) rfl ?_
      unfold RanR
      rw [HF.out]
      exact ⟨⟨_, _, _, _, _, by rw [hu.out.2], HRW.out, HOW.out⟩, HB.out⟩
end
end VmC
end Go.Proofs.Ytceflfdpbgnfjaa
