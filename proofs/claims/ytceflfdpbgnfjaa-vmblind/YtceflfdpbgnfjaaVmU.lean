/- The law VmBlind: where nothing is asked. -/
import Derived.Test.YtceflfdpbgnfjaaVmR
set_option linter.unusedVariables false
namespace Go.Proofs.Ytceflfdpbgnfjaa
open Go.RowKit
open Go.Shelf Go.Sort
open SpanM hiding good
open SpanC IntsC
open RowsO hiding Em
namespace VmC
open VmP VmM
open NumC (Row)
section
variable (w : World) (pa ra ia ja : Option Addr) (p : List In) (l i j : List Int) (pc : Int) (pcap rc ic jc : Nat) (h f : Bool) (a : Int)
set_option maxRecDepth 20000 in
set_option maxHeartbeats 800000 in
theorem vmBlind_no (k : AR w pa ra ia p l i) (hE : rE p ⟨pc, l, h, f⟩ i a ≠ 0) :
    Calls Try.prog 6 #[.slice pa p.length pcap, .agg (vmC pc (.slice ra l.length rc) h f), .slice ia i.length ic, .slice ja j.length jc, .int .i64 a] w fun e w' => e = .returned (.bool true) ∧ Below w.heap.size w w' := by
  have HR := hid (fun V (hb : Below w.heap.size w V) => k.no (pcap := pcap) (rc := rc) (ic := ic) hE hb)
  have g1 : (rE p ⟨pc, l, h, f⟩ i a != 0) = true := by simp [hE]
  generalize rE p ⟨pc, l, h, f⟩ i a = E at *
  clear k hE
  have HX := hid (B1.start w (vmC pc (.slice ra l.length rc) h f) 25)
  go_enter Try.func6, Try.ntmps6
  go_wp2_with (go_at_call 8; refine (HR.out _ HX.out.bel).mono ?_; rintro e w2 ⟨rfl, hb2⟩; have HB2 := hid (HX.out.bel.trans (hb2.mono HX.out.bel.size)); clear hb2)
  refine (vmLives_any _).mono ?_
  rintro e w3 ⟨rfl, hb3⟩
  have HB3 := hid (HB2.out.trans ((((Below.refl _ w2).alloc (Nat.le_refl _) (.cells zV 25)).trans (hb3.mono (by rw [World.size_alloc]; omega))).mono HB2.out.size))
  clear hb3
  go_wp2_with fail
  refine (vmLives_any _).mono ?_
  rintro e w4 ⟨rfl, hb4⟩
  have HB4 := hid (HB3.out.trans (hb4.mono HB3.out.size))
  clear hb4
  go_wp2_with fail
  go_ret
  exact ⟨rfl, HB4.out⟩
set_option maxRecDepth 20000 in
set_option maxHeartbeats 1600000 in
theorem vmBlind_lim (k : AR w pa ra ia p l i) (hE : rE p ⟨pc, l, h, f⟩ i a = 0) (R : Ran St Em) (hR : run (act p) a.toNat ⟨pc, l, h, f⟩ i = R) (hu : (R.used : Int) < a) (ht : R.took = i.length) :
    Calls Try.prog 6 #[.slice pa p.length pcap, .agg (vmC pc (.slice ra l.length rc) h f), .slice ia i.length ic, .slice ja j.length jc, .int .i64 a] w fun e w' => e = .returned (.bool true) ∧ Below w.heap.size w w' := by
  have HR1 := hid (fun V (hb : Below w.heap.size w V) => k.ok (pcap := pcap) (rc := rc) (ic := ic) hE hR hb)
  have HX := hid (B1.start w (vmC pc (.slice ra l.length rc) h f) 25)
  have hil := k.il
  unfold maxLen at hil
  have i1 : (R.took : Int) ≤ (i.length : Int) := by omega
  have i2 : ¬ (R.took : Int) < 0 := by omega
  have i3 : ((R.took : Int) == (i.length : Int)) = true := by rw [ht]; simp
  clear hE k hR ht
  go_enter Try.func6, Try.ntmps6
  go_wp2_with (go_at_call 8; refine (HR1.out _ HX.out.bel).mono ?_; rintro e w2 ⟨⟨g, cap, oa, oc, rfl, _, _⟩, hb2⟩; have HB2 := hid (HX.out.bel.trans (hb2.mono HX.out.bel.size)); clear hb2)
  refine (vmLives_any _).mono ?_
  rintro e w3 ⟨rfl, hb3⟩
  have HB3 := hid (HB2.out.trans ((((Below.refl _ w2).alloc (Nat.le_refl _) (.cells (vmC R.s.pc (vS g 8 cap) R.s.halts R.s.fault) 25)).trans (hb3.mono (by rw [World.size_alloc]; omega))).mono HB2.out.size))
  clear hb3
  go_wp2_with fail
  refine (vmLives_any _).mono ?_
  rintro e w4 ⟨rfl, hb4⟩
  have HB4 := hid (HB3.out.trans (hb4.mono HB3.out.size))
  clear hb4
  go_wp2_with fail
  go_ret
  exact ⟨rfl, HB4.out⟩
end
end VmC
end Go.Proofs.Ytceflfdpbgnfjaa
