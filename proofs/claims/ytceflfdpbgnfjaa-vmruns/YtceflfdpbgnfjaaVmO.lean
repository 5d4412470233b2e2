/- Package vm: Run, as the laws call it; a known run: vmLives. -/
import Derived.Test.YtceflfdpbgnfjaaVmN
set_option linter.unusedVariables false
namespace Go.Proofs.Ytceflfdpbgnfjaa
open Go.RowKit
open Go.Shelf Go.Sort
open SpanM hiding good
open SpanC IntsC
open RowsO hiding Em
namespace VmC
open VmP VmM
open NumC (Row)
theorem OwnEm.len {w : World} {B : Nat} {v : Value} {l : List Em} (h : OwnEm w B v l) : ∃ a c, v = .slice a l.length c := by
  rcases h.form with ⟨rfl, rfl⟩ | ⟨g, cap, rfl, _⟩
  · exact ⟨none, 0, rfl⟩
  · exact ⟨_, _, rfl⟩
/-- what Run tells, its answers written out -/
theorem Run_ok (pc : Int) (pa ra ia : Option Addr) (pcap rc ic : Nat) (p : List In) (l i : List Int) (h f : Bool) (fuel : Int) (w : World)
    (hp : Iss w pa p) (hr : Row w ra l) (hl : l.length ≤ maxLen) (hi : Row w ia i) (hil : i.length ≤ maxLen) (hpl : p.length ≤ maxLen) (hE : rE p ⟨pc, l, h, f⟩ i fuel = 0) (R : Ran St Em) (hR : run (act p) fuel.toNat ⟨pc, l, h, f⟩ i = R) :
    Calls Try.prog 8 #[.slice pa p.length pcap, .agg (vmC pc (.slice ra l.length rc) h f), .slice ia i.length ic, .int .i64 fuel] w fun e w' => (∃ g cap oa oc, e = .returned (.tuple #[.agg (vmC R.s.pc (vS g 8 cap) R.s.halts R.s.fault), .slice oa R.out.length oc, .int .i64 R.took, .int .i64 R.used, .int .i64 0]) ∧ OwnI w' w.heap.size (vS g 8 cap) R.s.regs ∧ OwnEm w' w.heap.size (.slice oa R.out.length oc) R.out) ∧ Below w.heap.size w w' := by
  refine (Run_yes pc pa ra ia pcap rc ic p l i h f fuel w hp hr hl hi hil hpl hE).mono fun e w' q => ⟨?_, q.2⟩
  obtain ⟨v, o, took, used, rfl, g, cap, hv, h1, h2, h3, h4⟩ := q.1
  rw [hR] at hv h1 h2 h3 h4
  obtain ⟨oa, oc, ho⟩ := OwnEm.len h2
  rw [ho] at h2
  exact ⟨g, cap, oa, oc, by rw [hv, ho, h3, h4], h1, h2⟩
/-! a known run -/
abbrev knownP : List In := [(9, 1, 0), (3, 1, 1), (10, 1, 2), (6, 0, 0)]
abbrev knownI : List Int := [3, -2147483648]
abbrev knownS : St := ⟨0, [0, 0, 0, 0, 0, 0, 0, 0], false, false⟩
abbrev knownR : Ran St Em := ⟨⟨0, [0, 0, 0, 0, 0, 0, 0, 0], false, false⟩, [(2, 6), (2, 0)], 2, 8⟩
theorem known : run (act knownP) 100 knownS knownI = knownR := by kernel_rfl
theorem knownE : rE knownP knownS knownI 100 = 0 := by decide +kernel
theorem known_code {W : World} {b : Nat} (h : W.heap[b]? = some (.cells #[.int .i64 9, .int .i64 1, .int .i64 0, .int .i64 3, .int .i64 1, .int .i64 1, .int .i64 10, .int .i64 1, .int .i64 2, .int .i64 6, .int .i64 0, .int .i64 0] 45)) : Iss W (some ⟨b, 0, none⟩) knownP := by
  refine .inr ⟨b, 0, rfl, fun i hi => ?_⟩
  have hi4 : i < 4 := hi
  match i, hi4 with
  | 0, _ => exact ⟨box_cell h 0, box_cell h 1, box_cell h 2⟩
  | 1, _ => exact ⟨box_cell h 3, box_cell h 4, box_cell h 5⟩
  | 2, _ => exact ⟨box_cell h 6, box_cell h 7, box_cell h 8⟩
  | 3, _ => exact ⟨box_cell h 9, box_cell h 10, box_cell h 11⟩
theorem known_in {W : World} {b : Nat} (h : W.heap[b]? = some (.cells #[.int .i64 3, .int .i64 (-2147483648)] 3)) : Row W (some ⟨b, 0, none⟩) knownI := by
  refine .inr ⟨b, 0, rfl, fun i hi => ?_⟩
  have hi2 : i < 2 := hi
  match i, hi2 with
  | 0, _ => exact box_cell h 0
  | 1, _ => exact box_cell h 1
theorem known_out {W : World} {b : Nat} (h : W.heap[b]? = some (.cells #[.int .i64 2, .int .i64 6, .int .i64 2, .int .i64 0] 39)) : Ems W (some ⟨b, 0, none⟩) [(2, 6), (2, 0)] := by
  refine .inr ⟨b, 0, rfl, fun i hi => ?_⟩
  have hi2 : i < 2 := hi
  match i, hi2 with
  | 0, _ => exact ⟨box_cell h 0, box_cell h 1⟩
  | 1, _ => exact ⟨box_cell h 2, box_cell h 3⟩
theorem OwnI.row8 {w : World} {B g c : Nat} {l : List Int} (h : OwnI w B (vS g 8 c) l) : Row w (some ⟨g, 0, none⟩) l := by
  obtain ⟨a, cap, e, hr, _⟩ := OwnI.row h
  simp only [vS, Value.slice.injEq] at e
  rw [e.1]; exact hr
theorem Run_known (w : World) (b g bi : Nat) (hp : Iss w (some ⟨b, 0, none⟩) knownP) (hr : Row w (some ⟨g, 0, none⟩) (List.replicate 8 0)) (hi : Row w (some ⟨bi, 0, none⟩) knownI) :
    Calls Try.prog 8 #[.slice (some ⟨b, 0, none⟩) 4 4, .agg (vmC 0 (vS g 8 8) false false), .slice (some ⟨bi, 0, none⟩) 2 2, .int .i64 100] w fun e w' => (∃ g cap oa oc, e = .returned (.tuple #[.agg (vmC 0 (vS g 8 cap) false false), .slice oa 2 oc, .int .i64 2, .int .i64 8, .int .i64 0]) ∧ Ems w' oa [(2, 6), (2, 0)]) ∧ Below w.heap.size w w' := by
  refine (Run_ok 0 _ _ _ 4 8 2 knownP (List.replicate 8 0) knownI false false 100 w hp hr (by unfold maxLen; decide) hi (by unfold maxLen; decide) (by unfold maxLen; decide) knownE knownR known).mono fun e w' q => ⟨?_, q.2⟩
  obtain ⟨g, cap, oa, oc, e, _, ho⟩ := q.1
  obtain ⟨a, c, e2, hr⟩ := ho.rows
  simp only [Value.slice.injEq] at e2
  exact ⟨g, cap, oa, oc, e, by rw [e2.1]; exact hr⟩
set_option maxRecDepth 20000 in
set_option maxHeartbeats 1600000 in
theorem vmLives_any (w : World) :
    Calls Try.prog 18 #[] w fun e w' => e = .returned (.bool true) ∧ Below w.heap.size w w' := by
  go_enter Try.func18, Try.ntmps18
  go_wp2_with (first | (go_at_call 14; refine (new_any _).mono ?_; rintro e w2 ⟨⟨g, rfl, ho⟩, hb2⟩; have HO := hid ho; have HX2 := hid ((B1.start w _ 45).step hb2); clear ho hb2) | (go_at_call 8; refine (Run_known _ w.heap.size g w2.heap.size (known_code (box_alloc (HX2.out.b.block w.heap.size (by omega) |>.trans (box_new w _ _)) _)) (Row.below (OwnI.row8 HO.out) ((Below.refl _ _).alloc (Nat.le_refl _) _) (Nat.le_refl _)) (known_in (box_new w2 _ _))).mono ?_; rintro e w3 ⟨⟨g3, c3, oa, oc, rfl, ho3⟩, hb3⟩; have HX3 := hid (HX2.out.step (((Below.refl _ w2).alloc (Nat.le_refl _) _).trans (hb3.mono (by rw [World.size_alloc]; omega)))); have HO3 := hid ho3; clear ho3 hb3) | (go_at_call 17; refine (equalEm_any oa (some ⟨w3.heap.size + 1, 0, none⟩) oc 2 [(2, 6), (2, 0)] [(2, 6), (2, 0)] _ (Ems.below (HO3.out) (Below.alloc (Below.alloc (Below.refl _ _) (Nat.le_refl _) _) (by rw [World.size_alloc]; omega) _) (Nat.le_refl _)) (known_out (by have := box_new (w3.alloc (.cells (vmC 0 (vS g3 8 c3) false false) 25)) #[.int .i64 2, .int .i64 6, .int .i64 2, .int .i64 0] 39; rwa [World.size_alloc] at this)) (by unfold maxLen; decide)).mono ?_; rintro e w4 ⟨rfl, hb4⟩; have HX4 := hid (HX3.out.step ((((Below.refl _ w3).alloc (Nat.le_refl _) _).alloc (by rw [World.size_alloc]; omega) _).trans (hb4.mono (by simp only [World.size_alloc]; omega)))); have hq := box_below (box_alloc (box_new w3 (vmC 0 (vS g3 8 c3) false false) 25) _) hb4 (Nat.le_refl _); have y0 := box_cell hq 0; have y3 := box_cell hq 3; simp at y0 y3; clear hb4 hq))
  go_ret
  exact ⟨rfl, HX4.out.bel⟩
end VmC
end Go.Proofs.Ytceflfdpbgnfjaa
