/- The law VmRuns (gen_vmruns.py writes this text). -/
import Derived.Test.YtceflfdpbgnfjaaVmZHn
import Derived.Test.YtceflfdpbgnfjaaVmZC
import Derived.Test.YtceflfdpbgnfjaaOpenVm
set_option linter.unusedVariables false
namespace Go.Proofs.Ytceflfdpbgnfjaa
open Go.RowKit
open Go.Shelf Go.Sort
open SpanM hiding good
open SpanC IntsC
open RowsO hiding Em
namespace VmC
open VmP VmM
open NumC (Row)
theorem same_new8 (V : World) (g q : Nat) (h1 : Row V (some ⟨g, 0, none⟩) (List.replicate 8 0)) (h2 : Row V (some ⟨q, 0, none⟩) (List.replicate 8 0)) :
    Calls Try.prog 13 #[.agg (vmC 0 (vS g 8 8) false false), .agg (vmC 0 (vS q 8 8) false false)] V fun e w' => e = .returned (.bool true) ∧ Below V.heap.size V w' := by
  have := same_any 0 0 (some ⟨g, 0, none⟩) (some ⟨q, 0, none⟩) 8 8 (List.replicate 8 0) (List.replicate 8 0) false false false false V h1 h2 (by decide)
  rw [sameB_refl] at this
  exact this
theorem same_zero (V : World) :
    Calls Try.prog 13 #[.agg zV, .agg zV] V fun e w' => e = .returned (.bool true) ∧ Below V.heap.size V w' := by
  have := same_any 0 0 none none 0 0 [] [] false false false false V (.inl rfl) (.inl rfl) (by decide)
  rw [sameB_refl] at this
  exact this
section
variable (w : World) (pa ra ia : Option Addr) (p : List In) (l i : List Int) (pc : Int) (pcap rc ic : Nat) (h f : Bool) (fuel : Int)
set_option maxRecDepth 20000 in
set_option maxHeartbeats 3200000 in
theorem vmRuns_no (k : AR w pa ra ia p l i) (hE : rE p ⟨pc, l, h, f⟩ i fuel ≠ 0) :
    Calls Try.prog 3 #[.slice pa p.length pcap, .agg (vmC pc (.slice ra l.length rc) h f), .slice ia i.length ic, .int .i64 fuel] w fun e w' => e = .returned (.bool true) ∧ Below w.heap.size w w' := by
  have HCK := hid (fun wa V (hw : Below w.heap.size w wa) (hV : Below wa.heap.size wa V) => check_any pa pcap p V (((k.below hw).below hV).hp))
  have HCR := hid (fun wa V (hw : Below w.heap.size w wa) (hV : Below wa.heap.size wa V) => codeRight_any pa pcap p V (((k.below hw).below hV).hp))
  have HRI := hid (fun wa V (hw : Below w.heap.size w wa) (hV : Below wa.heap.size wa V) => right_any pc ra rc l h f V (((k.below hw).below hV).hr) k.rl)
  have HRV := hid (fun wa V (hw : Below w.heap.size w wa) (hV : Below wa.heap.size wa V) => vmRight_any pc ra rc l h f V (((k.below hw).below hV).hr) k.rl)
  have HRR := hid (fun V (hV : Below w.heap.size w V) => runRight_any pc pa ra ia pcap rc ic p l i h f fuel V ((k.below hV).hp) ((k.below hV).hr) k.rl ((k.below hV).hi) k.il k.pl)
  have HR := hid (fun V (hb : Below w.heap.size w V) => k.no (pcap := pcap) (rc := rc) (ic := ic) hE hb)
  have g1 : (rE p ⟨pc, l, h, f⟩ i fuel != 0) = true := by simp [hE]
  have g2 : (rE p ⟨pc, l, h, f⟩ i fuel == rE p ⟨pc, l, h, f⟩ i fuel) = true := by simp
  generalize rE p ⟨pc, l, h, f⟩ i fuel = E at *
  have hcc : (VmP.chk p != VmP.chk p) = false := by simp
  have hrr : (rgt ⟨pc, l, h, f⟩ != rgt ⟨pc, l, h, f⟩) = false := by simp
  generalize VmP.chk p = C at *
  generalize rgt ⟨pc, l, h, f⟩ = G at *
  have HX := hid (B1.start w (vmC pc (.slice ra l.length rc) h f) 25)
  clear k hE
  go_enter Try.func3, Try.ntmps3
  go_upto_region 2 with (go_at_call 8; refine (HR.out _ HX.out.bel).mono ?_; rintro e w2 ⟨rfl, hb2⟩; have HX2 := hid (HX.out.step hb2); clear hb2)
  have HXA := hid (HX2.out.step ((Below.refl _ _).alloc (Nat.le_refl _) (.cells zV 25)))
  have HZB := hid (box_new w2 zV 25)
  generalize w2.alloc (.cells zV 25) = wa at *
  generalize w2.heap.size = b9 at *
  obtain ⟨y0, y1, y2, y3⟩ := B1.four HXA.out
  have HCK := hid (fun V hV => HCK.out wa V HXA.out.bel hV)
  have HCR := hid (fun V hV => HCR.out wa V HXA.out.bel hV)
  have HRI := hid (fun V hV => HRI.out wa V HXA.out.bel hV)
  have HRV := hid (fun V hV => HRV.out wa V HXA.out.bel hV)
  have HBC := hid (Below.refl wa.heap.size wa)
  have hmk := run_make8
  go_upto_region 2 with fail
  go_cut [48] from 30 to 108 (fun v48 wc => v48 = .bool false ∧ Hid (Below wa.heap.size wa wc))
  case first =>
    go_region_held3 (fun V => V.cell? ⟨w.heap.size, 0, none⟩ = some (.int .i64 pc) ∧ V.cell? ⟨w.heap.size, 1, none⟩ = some (.slice ra l.length rc) ∧ V.cell? ⟨w.heap.size, 2, none⟩ = some (.bool h) ∧ V.cell? ⟨w.heap.size, 3, none⟩ = some (.bool f)) (go_keep)
      (first
        | (go_at_call 9
           refine (HCK.out _ ?_).mono ?_
           · first | exact HBC.out | exact HBC.out.drew
           rintro e w5 ⟨rfl, hb5⟩
           have hbn : Below wa.heap.size wa w5 := Below.trans (show Below wa.heap.size wa _ by first | exact HBC.out | exact HBC.out.drew) (hb5.mono (by exact HBC.out.size))
           obtain ⟨z0, z1, z2, z3⟩ := B1.four (HXA.out.step hbn)
           have HBC := hid hbn
           clear hb5 hbn)
        | (go_at_call 10
           refine (HCR.out _ ?_).mono ?_
           · first | exact HBC.out | exact HBC.out.drew
           rintro e w5 ⟨rfl, hb5⟩
           have hbn : Below wa.heap.size wa w5 := Below.trans (show Below wa.heap.size wa _ by first | exact HBC.out | exact HBC.out.drew) (hb5.mono (by exact HBC.out.size))
           obtain ⟨z0, z1, z2, z3⟩ := B1.four (HXA.out.step hbn)
           have HBC := hid hbn
           clear hb5 hbn)
        | (go_at_call 11
           refine (HRI.out _ ?_).mono ?_
           · first | exact HBC.out | exact HBC.out.drew
           rintro e w5 ⟨rfl, hb5⟩
           have hbn : Below wa.heap.size wa w5 := Below.trans (show Below wa.heap.size wa _ by first | exact HBC.out | exact HBC.out.drew) (hb5.mono (by exact HBC.out.size))
           obtain ⟨z0, z1, z2, z3⟩ := B1.four (HXA.out.step hbn)
           have HBC := hid hbn
           clear hb5 hbn)
        | (go_at_call 12
           refine (HRV.out _ ?_).mono ?_
           · first | exact HBC.out | exact HBC.out.drew
           rintro e w5 ⟨rfl, hb5⟩
           have hbn : Below wa.heap.size wa w5 := Below.trans (show Below wa.heap.size wa _ by first | exact HBC.out | exact HBC.out.drew) (hb5.mono (by exact HBC.out.size))
           obtain ⟨z0, z1, z2, z3⟩ := B1.four (HXA.out.step hbn)
           have HBC := hid hbn
           clear hb5 hbn)
        | (go_at_call 14
           refine (new_any _).mono ?_
           rintro e w6 ⟨⟨g6, rfl, ho6⟩, hb6⟩
           have hbn : Below wa.heap.size wa w6 := HBC.out.trans (hb6.mono HBC.out.size)
           have HO6 := hid ho6
           obtain ⟨z0, z1, z2, z3⟩ := B1.four (HXA.out.step hbn)
           have HBC := hid hbn
           clear ho6 hb6 hbn)
        | (go_at_call 14
           refine (new_any _).mono ?_
           rintro e w6 ⟨⟨g6, rfl, ho6⟩, hb6⟩
           have hbn : Below wa.heap.size wa w6 := (HBC.out.alloc HBC.out.size _).trans (hb6.mono (HBC.out.alloc HBC.out.size _).size)
           have hm6 : w6.heap[w5.heap.size]? = some (.cells (madeCells #[.int .i64 0] 8) 3) := (hb6.block w5.heap.size (by simp)).trans (heap_alloc_new w5 _)
           have HM6 := hid hm6
           have HO6 := hid ho6
           obtain ⟨z0, z1, z2, z3⟩ := B1.four (HXA.out.step hbn)
           have HBC := hid hbn
           clear ho6 hb6 hbn hm6)
        | (go_at_call 13
           refine (same_new8 _ _ _ (OwnI.row8 HO6.out) (OwnI.row8 (made8 HM6.out (Nat.le_refl _)))).mono ?_
           rintro e w7 ⟨rfl, hb7⟩
           have hbn : Below wa.heap.size wa w7 := HBC.out.trans (hb7.mono HBC.out.size)
           obtain ⟨z0, z1, z2, z3⟩ := B1.four (HXA.out.step hbn)
           have HBC := hid hbn
           clear hb7 hbn)
        | (go_at_call 13
           refine (same_new8 _ _ _ (Row.below (OwnI.row8 HO6.out) ((Below.refl _ _).alloc (Nat.le_refl _) _) (Nat.le_refl _)) (OwnI.row8 (made8 (heap_alloc_new w6 _) (Nat.le_refl _)))).mono ?_
           rintro e w7 ⟨rfl, hb7⟩
           have hbn : Below wa.heap.size wa w7 := (HBC.out.alloc HBC.out.size _).trans (hb7.mono (HBC.out.alloc HBC.out.size _).size)
           obtain ⟨z0, z1, z2, z3⟩ := B1.four (HXA.out.step hbn)
           have HBC := hid hbn
           clear hb7 hbn))
    all_goals (go_wp2_with fail)
    all_goals go_meet
    all_goals exact ⟨rfl, HBC.out⟩
  case rest =>
    obtain ⟨rfl, HBQ⟩ := hcut
    clear HBC hmk y0 y1 y2 y3 HCK HCR HRI HRV
    have HXQ := hid (HXA.out.step HBQ.out)
    obtain ⟨y0, y1, y2, y3⟩ := B1.four HXQ.out
    have HZ2 := hid (box_below HZB.out HBQ.out (Nat.le_refl _))
    go_upto_region 6 with (go_at_call 15; refine (HRR.out _ HXQ.out.bel).mono ?_; rintro e w8 ⟨rfl, hb8⟩; have HZ8 := hid (box_below HZ2.out hb8 (Nat.le_refl _)); have HX8 := hid (HXQ.out.step hb8); clear hb8)
    have x0 := box_cell HZ8.out 0
    have x1 := box_cell HZ8.out 1
    have x2 := box_cell HZ8.out 2
    have x3 := box_cell HZ8.out 3
    simp at x0 x1 x2 x3
    go_wp2_with (go_at_call 13; refine (same_zero _).mono ?_; rintro e w9 ⟨rfl, hb9⟩; have HX9 := hid (HX8.out.step hb9); clear hb9)
    go_ret
    exact ⟨rfl, HX9.out.bel⟩
set_option maxRecDepth 20000 in
set_option maxHeartbeats 3200000 in
theorem vmRuns_yes (k : AR w pa ra ia p l i) (hic : i.length ≤ ic) (hic2 : ic ≤ maxLen) (hE : rE p ⟨pc, l, h, f⟩ i fuel = 0) :
    Calls Try.prog 3 #[.slice pa p.length pcap, .agg (vmC pc (.slice ra l.length rc) h f), .slice ia i.length ic, .int .i64 fuel] w fun e w' => e = .returned (.bool true) ∧ Below w.heap.size w w' := by
  obtain ⟨R, hR⟩ : ∃ R, run (act p) fuel.toNat ⟨pc, l, h, f⟩ i = R := ⟨_, rfl⟩
  obtain ⟨hck, hok, hin, hf0, hf1, hi5⟩ := rE_zero hE
  have hro := run_ok hck fuel.toNat ⟨pc, l, h, f⟩ i hok hin
  have hle := run_le (act := act p) fuel.toNat ⟨pc, l, h, f⟩ i
  rw [hR] at hro hle
  have HLEN := hid (show R.s.regs.length = 8 from hro.1.len)
  have hlo : R.out.length ≤ maxLen := by unfold maxLen; omega
  have HCK := hid (fun wa V (hw : Below w.heap.size w wa) (hV : Below wa.heap.size wa V) => check_any pa pcap p V (((k.below hw).below hV).hp))
  have HCR := hid (fun wa V (hw : Below w.heap.size w wa) (hV : Below wa.heap.size wa V) => codeRight_any pa pcap p V (((k.below hw).below hV).hp))
  have HRI := hid (fun wa V (hw : Below w.heap.size w wa) (hV : Below wa.heap.size wa V) => right_any pc ra rc l h f V (((k.below hw).below hV).hr) k.rl)
  have HRV := hid (fun wa V (hw : Below w.heap.size w wa) (hV : Below wa.heap.size wa V) => vmRight_any pc ra rc l h f V (((k.below hw).below hV).hr) k.rl)
  have HRR := hid (fun V (hV : Below w.heap.size w V) => runRight_any pc pa ra ia pcap rc ic p l i h f fuel V ((k.below hV).hp) ((k.below hV).hr) k.rl ((k.below hV).hi) k.il k.pl)
  rw [hE] at HRR
  have HR := hid (fun V (hb : Below w.heap.size w V) => k.ok (pcap := pcap) (rc := rc) (ic := ic) hE hR hb)
  have HRN := hid (fun V (hb : Below w.heap.size w V) => ran_any V pa ra ia p l i pc pcap rc ic h f fuel (k.below hb) hic hic2 hE)
  rw [hR] at HRN
  have hcc : (VmP.chk p != VmP.chk p) = false := by simp
  have hrr : (rgt ⟨pc, l, h, f⟩ != rgt ⟨pc, l, h, f⟩) = false := by simp
  generalize VmP.chk p = C at *
  generalize rgt ⟨pc, l, h, f⟩ = G at *
  have g3 : ((R.took : Int) == (R.took : Int)) = true := by simp
  have g4 : ((R.used : Int) == (R.used : Int)) = true := by simp
  have HX := hid (B1.start w (vmC pc (.slice ra l.length rc) h f) 25)
  have HLO := hid hlo
  clear k hE hck hok hin hf0 hf1 hi5 hro hle hR hlo hic hic2
  go_enter Try.func3, Try.ntmps3
  go_upto_region 2 with (go_at_call 8; refine (HR.out _ HX.out.bel).mono ?_; rintro e w2 ⟨⟨g, cap, oa, oc, rfl, ho2, hl2⟩, hb2⟩; have HX2 := hid (HX.out.step hb2); have HKX := hid (KX.new ho2); have HL2 := hid hl2; clear hb2 ho2 hl2)
  have HXA := hid (HX2.out.step ((Below.refl _ _).alloc (Nat.le_refl _) (.cells (vmC R.s.pc (vS g 8 cap) R.s.halts R.s.fault) 25)))
  have HLA := hid (OwnEm.below HL2.out ((Below.refl _ _).alloc (Nat.le_refl _) (.cells (vmC R.s.pc (vS g 8 cap) R.s.halts R.s.fault) 25)) (Nat.le_refl _))
  generalize w2.alloc (.cells (vmC R.s.pc (vS g 8 cap) R.s.halts R.s.fault) 25) = wa at *
  generalize w2.heap.size = b9 at *
  obtain ⟨y0, y1, y2, y3⟩ := B1.four HXA.out
  have HCK := hid (fun V hV => HCK.out wa V HXA.out.bel hV)
  have HCR := hid (fun V hV => HCR.out wa V HXA.out.bel hV)
  have HRI := hid (fun V hV => HRI.out wa V HXA.out.bel hV)
  have HRV := hid (fun V hV => HRV.out wa V HXA.out.bel hV)
  have HBC := hid (Below.refl wa.heap.size wa)
  have hmk := run_make8
  go_upto_region 2 with fail
  go_cut [48] from 30 to 108 (fun v48 wc => v48 = .bool false ∧ Hid (Below wa.heap.size wa wc))
  case first =>
    go_region_held3 (fun V => V.cell? ⟨w.heap.size, 0, none⟩ = some (.int .i64 pc) ∧ V.cell? ⟨w.heap.size, 1, none⟩ = some (.slice ra l.length rc) ∧ V.cell? ⟨w.heap.size, 2, none⟩ = some (.bool h) ∧ V.cell? ⟨w.heap.size, 3, none⟩ = some (.bool f)) (go_keep)
      (first
        | (go_at_call 9
           refine (HCK.out _ ?_).mono ?_
           · first | exact HBC.out | exact HBC.out.drew
           rintro e w5 ⟨rfl, hb5⟩
           have hbn : Below wa.heap.size wa w5 := Below.trans (show Below wa.heap.size wa _ by first | exact HBC.out | exact HBC.out.drew) (hb5.mono (by exact HBC.out.size))
           obtain ⟨z0, z1, z2, z3⟩ := B1.four (HXA.out.step hbn)
           have HBC := hid hbn
           clear hb5 hbn)
        | (go_at_call 10
           refine (HCR.out _ ?_).mono ?_
           · first | exact HBC.out | exact HBC.out.drew
           rintro e w5 ⟨rfl, hb5⟩
           have hbn : Below wa.heap.size wa w5 := Below.trans (show Below wa.heap.size wa _ by first | exact HBC.out | exact HBC.out.drew) (hb5.mono (by exact HBC.out.size))
           obtain ⟨z0, z1, z2, z3⟩ := B1.four (HXA.out.step hbn)
           have HBC := hid hbn
           clear hb5 hbn)
        | (go_at_call 11
           refine (HRI.out _ ?_).mono ?_
           · first | exact HBC.out | exact HBC.out.drew
           rintro e w5 ⟨rfl, hb5⟩
           have hbn : Below wa.heap.size wa w5 := Below.trans (show Below wa.heap.size wa _ by first | exact HBC.out | exact HBC.out.drew) (hb5.mono (by exact HBC.out.size))
           obtain ⟨z0, z1, z2, z3⟩ := B1.four (HXA.out.step hbn)
           have HBC := hid hbn
           clear hb5 hbn)
        | (go_at_call 12
           refine (HRV.out _ ?_).mono ?_
           · first | exact HBC.out | exact HBC.out.drew
           rintro e w5 ⟨rfl, hb5⟩
           have hbn : Below wa.heap.size wa w5 := Below.trans (show Below wa.heap.size wa _ by first | exact HBC.out | exact HBC.out.drew) (hb5.mono (by exact HBC.out.size))
           obtain ⟨z0, z1, z2, z3⟩ := B1.four (HXA.out.step hbn)
           have HBC := hid hbn
           clear hb5 hbn)
        | (go_at_call 14
           refine (new_any _).mono ?_
           rintro e w6 ⟨⟨g6, rfl, ho6⟩, hb6⟩
           have hbn : Below wa.heap.size wa w6 := HBC.out.trans (hb6.mono HBC.out.size)
           have HO6 := hid ho6
           obtain ⟨z0, z1, z2, z3⟩ := B1.four (HXA.out.step hbn)
           have HBC := hid hbn
           clear ho6 hb6 hbn)
        | (go_at_call 14
           refine (new_any _).mono ?_
           rintro e w6 ⟨⟨g6, rfl, ho6⟩, hb6⟩
           have hbn : Below wa.heap.size wa w6 := (HBC.out.alloc HBC.out.size _).trans (hb6.mono (HBC.out.alloc HBC.out.size _).size)
           have hm6 : w6.heap[w5.heap.size]? = some (.cells (madeCells #[.int .i64 0] 8) 3) := (hb6.block w5.heap.size (by simp)).trans (heap_alloc_new w5 _)
           have HM6 := hid hm6
           have HO6 := hid ho6
           obtain ⟨z0, z1, z2, z3⟩ := B1.four (HXA.out.step hbn)
           have HBC := hid hbn
           clear ho6 hb6 hbn hm6)
        | (go_at_call 13
           refine (same_new8 _ _ _ (OwnI.row8 HO6.out) (OwnI.row8 (made8 HM6.out (Nat.le_refl _)))).mono ?_
           rintro e w7 ⟨rfl, hb7⟩
           have hbn : Below wa.heap.size wa w7 := HBC.out.trans (hb7.mono HBC.out.size)
           obtain ⟨z0, z1, z2, z3⟩ := B1.four (HXA.out.step hbn)
           have HBC := hid hbn
           clear hb7 hbn)
        | (go_at_call 13
           refine (same_new8 _ _ _ (Row.below (OwnI.row8 HO6.out) ((Below.refl _ _).alloc (Nat.le_refl _) _) (Nat.le_refl _)) (OwnI.row8 (made8 (heap_alloc_new w6 _) (Nat.le_refl _)))).mono ?_
           rintro e w7 ⟨rfl, hb7⟩
           have hbn : Below wa.heap.size wa w7 := (HBC.out.alloc HBC.out.size _).trans (hb7.mono (HBC.out.alloc HBC.out.size _).size)
           obtain ⟨z0, z1, z2, z3⟩ := B1.four (HXA.out.step hbn)
           have HBC := hid hbn
           clear hb7 hbn))
    all_goals (go_wp2_with fail)
    all_goals go_meet
    all_goals exact ⟨rfl, HBC.out⟩
  case rest =>
    obtain ⟨rfl, HBQ⟩ := hcut
    clear HBC hmk y0 y1 y2 y3 HCK HCR HRI HRV
    have HXQ := hid (HXA.out.step HBQ.out)
    obtain ⟨y0, y1, y2, y3⟩ := B1.four HXQ.out
    have HKQ := hid (HKX.out.below HBQ.out (Nat.le_refl _))
    have HLQ := hid (OwnEm.below HLA.out HBQ.out (Nat.le_refl _))
    go_upto_region 7 with (go_at_call 15; refine (HRR.out _ HXQ.out.bel).mono ?_; rintro e w8 ⟨rfl, hb8⟩; have HK8 := hid (HKQ.out.below hb8 (Nat.le_refl _)); have HL8 := hid (OwnEm.below HLQ.out hb8 (Nat.le_refl _)); have HX8 := hid (HXQ.out.step hb8); clear hb8)
    clear y0 y1 y2 y3
    obtain ⟨y0, y1, y2, y3⟩ := B1.four HX8.out
    go_upto_region 8 with (go_at_call 16; refine (HRN.out _ HX8.out.bel).mono ?_; rintro e w9 ⟨⟨qb, qo, c9, oa9, oc9, rfl, hr9, ho9⟩, hb9⟩; have HK9 := hid (HK8.out.below hb9 (Nat.le_refl _)); have HL9 := hid (OwnEm.below HL8.out hb9 (Nat.le_refl _)); have HX9 := hid (HX8.out.step hb9); have HR9 := hid hr9; have HO9 := hid ho9; clear hb9 hr9 ho9)
    have hba := (Below.refl w9.heap.size w9).alloc (Nat.le_refl _) (.cells (vmC R.s.pc (.slice (some ⟨qb, qo, none⟩) 8 c9) R.s.halts R.s.fault) 25)
    have HKA := hid (HK9.out.below hba (Nat.le_refl _))
    have HLB := hid (OwnEm.below HL9.out hba (Nat.le_refl _))
    have HOB := hid (OwnEm.below HO9.out hba (Nat.le_refl _))
    have HRB := hid (Row.below HR9.out hba (Nat.le_refl _))
    have HXB := hid (HX9.out.step hba)
    have HBX := hid (box_new w9 (vmC R.s.pc (.slice (some ⟨qb, qo, none⟩) 8 c9) R.s.halts R.s.fault) 25)
    clear hba
    generalize w9.alloc (.cells (vmC R.s.pc (.slice (some ⟨qb, qo, none⟩) 8 c9) R.s.halts R.s.fault) 25) = wb at *
    generalize w9.heap.size = b15 at *
    obtain ⟨x0, x1, x2, x3⟩ := KX.c HKA.out
    obtain ⟨t0, t1, t2, t3⟩ : wb.cell? ⟨b15, 0, none⟩ = some (.int .i64 R.s.pc) ∧ wb.cell? ⟨b15, 1, none⟩ = some (.slice (some ⟨qb, qo, none⟩) 8 c9) ∧ wb.cell? ⟨b15, 2, none⟩ = some (.bool R.s.halts) ∧ wb.cell? ⟨b15, 3, none⟩ = some (.bool R.s.fault) := ⟨box_cell HBX.out 0, box_cell HBX.out 1, box_cell HBX.out 2, box_cell HBX.out 3⟩
    have hsm := same_any R.s.pc R.s.pc (some ⟨g, 0, none⟩) (some ⟨qb, qo, none⟩) cap c9 R.s.regs R.s.regs R.s.halts R.s.fault R.s.halts R.s.fault wb HKA.out.row HRB.out (by rw [HLEN.out]; decide)
    rw [sameB_refl, HLEN.out] at hsm
    have HSM := hid hsm
    clear hsm
    go_wp2_with (first
      | (go_at_call 13; refine HSM.out.mono ?_; rintro e wd ⟨rfl, hbd⟩; have HXD := hid (HXB.out.step hbd); have HLD := hid (OwnEm.below HLB.out hbd (Nat.le_refl _)); have HOD := hid (OwnEm.below HOB.out hbd (Nat.le_refl _)); clear hbd)
      | (go_at_call 17; have heq := equalEm_any oa oa9 oc oc9 R.out R.out wd (OwnEm.nz' HLD.out).1 (OwnEm.nz' HOD.out).1 HLO.out; rw [decide_eq_true rfl] at heq; refine heq.mono ?_; clear heq; rintro e wf ⟨rfl, hbf⟩; have HXF := hid (HXD.out.step hbf); clear hbf))
    go_ret
    exact ⟨rfl, HXF.out.bel⟩
end
theorem vmRuns_walk (a0 : Option Addr) (len0 cap0 : Nat) (l0 : List RowsO.Is) (pc1 : Int) (a1 : Option Addr) (len1 cap1 : Nat) (l1 : List Int) (ha1 fa1 : Bool) (a2 : Option Addr) (len2 cap2 : Nat) (l2 : List Int) (n3 : Int) (w : World)
    (w0 : RowsO.IsIss w a0 len0 cap0 l0) (x1 : SpanC.wf64 pc1) (w1 : RowsO.IsIns w a1 len1 cap1 l1) (w2 : RowsO.IsIns w a2 len2 cap2 l2) (w3 : SpanC.wf64 n3) :
    Calls Try.prog 3 #[.slice a0 len0 cap0, .agg #[.int .i64 pc1, .slice a1 len1 cap1, .bool ha1, .bool fa1], .slice a2 len2 cap2, .int .i64 n3] w fun e w' => e = .returned (.bool true) ∧ Below w.heap.size w w' := by
  have k : AR w a0 a1 a2 l0 l1 l2 := ⟨w0.2.2.2.1, by have := w0.1; have := w0.2.1; have := w0.2.2.1; omega, w1.2.2.2.1, by have := w1.1; have := w1.2.1; have := w1.2.2.1; omega, w2.2.2.2.1, by have := w2.1; have := w2.2.1; have := w2.2.2.1; omega⟩
  obtain ⟨rfl, q1, q2, q3, q4, q5⟩ := w0
  obtain ⟨rfl, r1, r2, r3, r4, r5⟩ := w1
  obtain ⟨rfl, s1, s2, s3, s4, s5⟩ := w2
  by_cases hE : rE l0 ⟨pc1, l1, ha1, fa1⟩ l2 n3 = 0
  · exact vmRuns_yes w a0 a1 a2 l0 l1 l2 pc1 cap0 cap1 cap2 ha1 fa1 n3 k s1 s2 hE
  · exact vmRuns_no w a0 a1 a2 l0 l1 l2 pc1 cap0 cap1 cap2 ha1 fa1 n3 k hE
end VmC
end Go.Proofs.Ytceflfdpbgnfjaa
