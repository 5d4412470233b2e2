/- The law VmStops. -/
import Derived.Test.YtceflfdpbgnfjaaVmR
set_option linter.unusedVariables false
namespace Go.Proofs.Ytceflfdpbgnfjaa
open Go.RowKit
open Go.Shelf Go.Sort
open SpanM hiding good
open SpanC IntsC
open RowsO hiding Em
namespace VmC
open VmP VmM
open NumC (Row)
/-- does it wait? -/
def waitsB (p : List In) (s : St) (left : Bool) : Bool := decide (s.pc < p.length) && (decide ((p.getD s.pc.toNat zIn).1 = 9) && left)
theorem stop_of {p : List In} {s : St} (h : act p s = .stop) : s.halts = true ∨ s.fault = true := by
  unfold act at h
  split at h
  · assumption
  · repeat' split at h
    all_goals cases h
theorem take_of {p : List In} {s : St} {k : Int → St} (hs : Ok p s) (h : act p s = .take k) : s.pc < p.length ∧ (p.getD s.pc.toNat zIn).1 = 9 := by
  unfold act at h
  split at h
  · cases h
  · split at h
    · cases h
    · rename_i hpc
      split at h
      · cases h
      · split at h
        · cases h
        · split at h
          · have := hs.hi; exact ⟨by omega, ‹_›⟩
          · split at h <;> cases h
section
variable (w : World) (pa ra ia : Option Addr) (p : List In) (l i : List Int) (pc : Int) (pcap rc ic : Nat) (h f : Bool) (a b : Int)
set_option maxRecDepth 20000 in
set_option maxHeartbeats 800000 in
theorem vmStops_no (k : AR w pa ra ia p l i) (hE : rE p ⟨pc, l, h, f⟩ i a ≠ 0) :
    Calls Try.prog 5 #[.slice pa p.length pcap, .agg (vmC pc (.slice ra l.length rc) h f), .slice ia i.length ic, .int .i64 a, .int .i64 b] w fun e w' => e = .returned (.bool true) ∧ Below w.heap.size w w' := by
  have HR := hid (fun V (hb : Below w.heap.size w V) => k.no (pcap := pcap) (rc := rc) (ic := ic) hE hb)
  have g1 : (rE p ⟨pc, l, h, f⟩ i a != 0) = true := by simp [hE]
  generalize rE p ⟨pc, l, h, f⟩ i a = E at *
  clear k hE
  have HX := hid (B1.start w (vmC pc (.slice ra l.length rc) h f) 25)
  go_enter Try.func5, Try.ntmps5
  go_wp2_with (go_at_call 8; refine (HR.out _ HX.out.bel).mono ?_; rintro e w2 ⟨rfl, hb2⟩; have HB2 := hid (HX.out.bel.trans (hb2.mono HX.out.bel.size)); clear hb2)
  refine (vmLives_any _).mono ?_
  rintro e w3 ⟨rfl, hb3⟩
  have HB3 := hid (HB2.out.trans ((((Below.refl _ w2).alloc (Nat.le_refl _) (.cells zV 25)).trans (hb3.mono (by rw [World.size_alloc]; omega))).mono HB2.out.size))
  clear hb3
  go_wp2_with fail
  refine (vmLives_any _).mono ?_
  rintro e w4 ⟨rfl, hb4⟩
  have HB4 := hid (HB3.out.trans (hb4.mono HB3.out.size))
  clear hb4
  go_wp2_with fail
  go_ret
  exact ⟨rfl, HB4.out⟩
set_option maxRecDepth 20000 in
set_option maxHeartbeats 1600000 in
theorem vmStops_all (k : AR w pa ra ia p l i) (hE : rE p ⟨pc, l, h, f⟩ i a = 0) (R : Ran St Em) (hR : run (act p) a.toNat ⟨pc, l, h, f⟩ i = R) (hu : (R.used : Int) = a) :
    Calls Try.prog 5 #[.slice pa p.length pcap, .agg (vmC pc (.slice ra l.length rc) h f), .slice ia i.length ic, .int .i64 a, .int .i64 b] w fun e w' => e = .returned (.bool true) ∧ Below w.heap.size w w' := by
  obtain ⟨hck, hok, hin, ha0, ha1, hi5⟩ := rE_zero hE
  have hle := run_le (act := act p) a.toNat ⟨pc, l, h, f⟩ i
  have hro := run_ok hck a.toNat ⟨pc, l, h, f⟩ i hok hin
  rw [hR] at hle hro
  have HRG := hid (hro.1.rgt (chk_zero hck).1)
  have HR1 := hid (fun V (hb : Below w.heap.size w V) => k.ok (pcap := pcap) (rc := rc) (ic := ic) hE hR hb)
  have HX := hid (B1.start w (vmC pc (.slice ra l.length rc) h f) 25)
  have i1 : (R.took : Int) ≤ (i.length : Int) := by omega
  have i2 : ¬ (R.took : Int) < 0 := by omega
  have i3 : ¬ (R.used : Int) < 0 := by omega
  have i4 : (R.used : Int) ≤ a := by omega
  have i5 : (R.out.length : Int) ≤ (R.used : Int) := by have := hro.2; omega
  have i6 : (R.took : Int) ≤ (R.used : Int) := by omega
  have i7 : ((R.used : Int) == a) = true := by simp [hu]
  have hil := k.il
  unfold maxLen at hil
  clear hro hle hE hok hin hck k hR hu
  go_enter Try.func5, Try.ntmps5
  go_wp2_with (go_at_call 8; refine (HR1.out _ HX.out.bel).mono ?_; rintro e w2 ⟨⟨g, cap, oa, oc, rfl, ho2, hl2⟩, hb2⟩; have HX2 := hid (HX.out.step hb2); have HKX := hid (KX.new ho2); clear hb2 ho2 hl2)
  refine (vmLives_any _).mono ?_
  rintro e w3 ⟨rfl, hb3⟩
  have HKX3 := hid (HKX.out.below hb3 (Nat.le_refl _))
  have hbz := ((Below.refl w2.heap.size w2).alloc (Nat.le_refl _) (.cells (vmC R.s.pc (vS g 8 cap) R.s.halts R.s.fault) 25)).trans (hb3.mono (by rw [World.size_alloc]; omega))
  have HX3 := hid (HX2.out.step hbz)
  clear hb3 hbz
  obtain ⟨y0, y1, y2, y3⟩ := KX.c HKX3.out
  have hrc := right_any R.s.pc (some ⟨g, 0, none⟩) cap R.s.regs R.s.halts R.s.fault w3 HKX3.out.row (by rw [HKX3.out.len]; unfold maxLen; decide)
  rw [HKX3.out.len, show rgt ⟨R.s.pc, R.s.regs, R.s.halts, R.s.fault⟩ = 0 from HRG.out] at hrc
  have HRC := hid hrc
  clear hrc
  go_wp2_with (go_at_call 11; refine HRC.out.mono ?_; rintro e w4 ⟨rfl, hb4⟩; have HX4 := hid (HX3.out.step hb4); clear hb4)
  go_ret
  exact ⟨rfl, HX4.out.bel⟩
end
end VmC
end Go.Proofs.Ytceflfdpbgnfjaa
