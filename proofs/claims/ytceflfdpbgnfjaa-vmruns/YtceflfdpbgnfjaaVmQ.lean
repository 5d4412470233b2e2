/- The laws of package vm: what they are handed, and boxes of what is told. -/
import Derived.Test.YtceflfdpbgnfjaaVmO
set_option linter.unusedVariables false
namespace Go.Proofs.Ytceflfdpbgnfjaa
open Go.RowKit
open Go.Shelf Go.Sort
open SpanM hiding good
open SpanC IntsC
open RowsO hiding Em
namespace VmC
open VmP VmM
open NumC (Row)
/-- what a law is handed -/
structure AR (w : World) (pa ra ia : Option Addr) (p : List In) (l i : List Int) : Prop where
  hp : Iss w pa p
  pl : p.length ≤ maxLen
  hr : Row w ra l
  rl : l.length ≤ maxLen
  hi : Row w ia i
  il : i.length ≤ maxLen
section
variable {w V : World} {pa ra ia : Option Addr} {p : List In} {l i : List Int} {pc : Int} {pcap rc ic : Nat} {h f : Bool} {fuel : Int}
theorem AR.below (k : AR w pa ra ia p l i) (hb : Below w.heap.size w V) : AR V pa ra ia p l i := ⟨k.hp.below hb (Nat.le_refl _), k.pl, Row.below k.hr hb (Nat.le_refl _), k.rl, Row.below k.hi hb (Nat.le_refl _), k.il⟩
theorem AR.no (k : AR w pa ra ia p l i) (hE : rE p ⟨pc, l, h, f⟩ i fuel ≠ 0) (hb : Below w.heap.size w V) :
    Calls Try.prog 8 #[.slice pa p.length pcap, .agg (vmC pc (.slice ra l.length rc) h f), .slice ia i.length ic, .int .i64 fuel] V fun e w' => e = .returned (.tuple #[.agg zV, .slice none 0 0, .int .i64 0, .int .i64 0, .int .i64 (rE p ⟨pc, l, h, f⟩ i fuel)]) ∧ Below V.heap.size V w' :=
  Run_no pc pa ra ia pcap rc ic p l i h f fuel V (k.below hb).hp (k.below hb).hr k.rl (k.below hb).hi k.il k.pl hE
theorem AR.ok (k : AR w pa ra ia p l i) (hE : rE p ⟨pc, l, h, f⟩ i fuel = 0) {R : Ran St Em} (hR : run (act p) fuel.toNat ⟨pc, l, h, f⟩ i = R) (hb : Below w.heap.size w V) :
    Calls Try.prog 8 #[.slice pa p.length pcap, .agg (vmC pc (.slice ra l.length rc) h f), .slice ia i.length ic, .int .i64 fuel] V fun e w' => (∃ g cap oa oc, e = .returned (.tuple #[.agg (vmC R.s.pc (vS g 8 cap) R.s.halts R.s.fault), .slice oa R.out.length oc, .int .i64 R.took, .int .i64 R.used, .int .i64 0]) ∧ OwnI w' V.heap.size (vS g 8 cap) R.s.regs ∧ OwnEm w' V.heap.size (.slice oa R.out.length oc) R.out) ∧ Below V.heap.size V w' :=
  Run_ok pc pa ra ia pcap rc ic p l i h f fuel V (k.below hb).hp (k.below hb).hr k.rl (k.below hb).hi k.il k.pl hE R hR
end
/-- a Vm in a box, its registers in a row -/
structure KX (W : World) (bx : Nat) (s : St) (g cap : Nat) : Prop where
  box : W.heap[bx]? = some (.cells (vmC s.pc (vS g 8 cap) s.halts s.fault) 25)
  row : Row W (some ⟨g, 0, none⟩) s.regs
  len : s.regs.length = 8
theorem KX.below {W V : World} {bx g cap : Nat} {s : St} {C : Nat} (k : KX W bx s g cap) (hb : Below C W V) (hC : W.heap.size ≤ C) : KX V bx s g cap := ⟨box_below k.box hb hC, Row.below k.row hb hC, k.len⟩
theorem KX.new {W : World} {B g cap : Nat} {s : St} (h : OwnI W B (vS g 8 cap) s.regs) : KX (W.alloc (.cells (vmC s.pc (vS g 8 cap) s.halts s.fault) 25)) W.heap.size s g cap := by
  refine ⟨box_new _ _ _, Row.below (OwnI.row8 h) ((Below.refl _ _).alloc (Nat.le_refl _) _) (Nat.le_refl _), ?_⟩
  rcases h.form with ⟨e, _⟩ | ⟨g', c', e, _⟩
  · simp [vS] at e
  · simp only [vS, Value.slice.injEq] at e; exact e.2.1.symm
theorem KX.lt {W : World} {bx g cap : Nat} {s : St} (k : KX W bx s g cap) : bx < W.heap.size := (Array.getElem?_eq_some_iff.1 k.box).1
theorem KX.c {W : World} {bx g cap : Nat} {s : St} (k : KX W bx s g cap) : W.cell? ⟨bx, 0, none⟩ = some (.int .i64 s.pc) ∧ W.cell? ⟨bx, 1, none⟩ = some (vS g 8 cap) ∧ W.cell? ⟨bx, 2, none⟩ = some (.bool s.halts) ∧ W.cell? ⟨bx, 3, none⟩ = some (.bool s.fault) := ⟨box_cell k.box 0, box_cell k.box 1, box_cell k.box 2, box_cell k.box 3⟩
/-- are they the same? -/
theorem KX.same {W V : World} {bx by_ g c g' c' : Nat} {s t : St} (k : KX W bx s g c) (k' : KX W by_ t g' c') (hb : Below W.heap.size W V) :
    Calls Try.prog 13 #[.agg (vmC s.pc (vS g 8 c) s.halts s.fault), .agg (vmC t.pc (vS g' 8 c') t.halts t.fault)] V fun e w' => e = .returned (.bool (sameB s t)) ∧ Below V.heap.size V w' := by
  have := same_any s.pc t.pc (some ⟨g, 0, none⟩) (some ⟨g', 0, none⟩) c c' s.regs t.regs s.halts s.fault t.halts t.fault V (Row.below k.row hb (Nat.le_refl _)) (Row.below k'.row hb (Nat.le_refl _)) (by rw [k.len]; decide)
  rw [k.len, k'.len] at this
  exact this
section
variable (w : World) (pa ra ia : Option Addr) (p : List In) (l i : List Int) (pc : Int) (pcap rc ic : Nat) (h f : Bool) (a b : Int)
set_option maxRecDepth 20000 in
set_option maxHeartbeats 800000 in
theorem vmCuts_no (k : AR w pa ra ia p l i) (hE : rE p ⟨pc, l, h, f⟩ i a ≠ 0) :
    Calls Try.prog 4 #[.slice pa p.length pcap, .agg (vmC pc (.slice ra l.length rc) h f), .slice ia i.length ic, .int .i64 a, .int .i64 b] w fun e w' => e = .returned (.bool true) ∧ Below w.heap.size w w' := by
  have HR := hid (fun V (hb : Below w.heap.size w V) => k.no (pcap := pcap) (rc := rc) (ic := ic) hE hb)
  have g1 : (rE p ⟨pc, l, h, f⟩ i a != 0) = true := by simp [hE]
  generalize rE p ⟨pc, l, h, f⟩ i a = E at *
  clear k hE
  have HX := hid (B1.start w (vmC pc (.slice ra l.length rc) h f) 25)
  go_enter Try.func4, Try.ntmps4
  go_wp2_with (go_at_call 8; refine (HR.out _ HX.out.bel).mono ?_; rintro e w2 ⟨rfl, hb2⟩; have HB2 := hid (HX.out.bel.trans (hb2.mono HX.out.bel.size)); clear hb2)
  refine (vmLives_any _).mono ?_
  rintro e w3 ⟨rfl, hb3⟩
  have HB3 := hid (HB2.out.trans ((((Below.refl _ w2).alloc (Nat.le_refl _) (.cells zV 25)).trans (hb3.mono (by rw [World.size_alloc]; omega))).mono HB2.out.size))
  clear hb3
  go_wp2_with fail
  refine (vmLives_any _).mono ?_
  rintro e w4 ⟨rfl, hb4⟩
  have HB4 := hid (HB3.out.trans (hb4.mono HB3.out.size))
  clear hb4
  go_wp2_with fail
  go_ret
  exact ⟨rfl, HB4.out⟩
set_option maxRecDepth 20000 in
set_option maxHeartbeats 800000 in
theorem vmCuts_lim (k : AR w pa ra ia p l i) (hE : rE p ⟨pc, l, h, f⟩ i a = 0) (hb0 : -9223372036854775808 ≤ b) (hb1 : b ≤ 9223372036854775807) (hl : b < 0 ∨ 5000 - b < a) :
    Calls Try.prog 4 #[.slice pa p.length pcap, .agg (vmC pc (.slice ra l.length rc) h f), .slice ia i.length ic, .int .i64 a, .int .i64 b] w fun e w' => e = .returned (.bool true) ∧ Below w.heap.size w w' := by
  obtain ⟨R, hR⟩ : ∃ R, run (act p) a.toNat ⟨pc, l, h, f⟩ i = R := ⟨_, rfl⟩
  have HR := hid (fun V (hb : Below w.heap.size w V) => k.ok (pcap := pcap) (rc := rc) (ic := ic) hE hR hb)
  have hle : R.took ≤ i.length := by rw [← hR]; exact (run_le _ _ _).2.1
  have hil := k.il
  unfold maxLen at hil
  have i1 : (R.took : Int) ≤ (i.length : Int) := by omega
  have i2 : ¬ (R.took : Int) < 0 := by omega
  have i3 : (0 : Int) ≤ (R.took : Int) := by omega
  clear k hE hR hle
  have HX := hid (B1.start w (vmC pc (.slice ra l.length rc) h f) 25)
  have hc : b < 0 ∨ (¬ b < 0 ∧ 0 ≤ b ∧ 5000 - b < a) := by omega
  clear hl
  rcases hc with hc | ⟨hc, hc2, hc3⟩
  all_goals
    go_enter Try.func4, Try.ntmps4
    go_wp2_with (go_at_call 8; refine (HR.out _ HX.out.bel).mono ?_; rintro e w2 ⟨⟨g, cap, oa, oc, rfl, _, _⟩, hb2⟩; have HB2 := hid (HX.out.bel.trans (hb2.mono HX.out.bel.size)); clear hb2)
    refine (vmLives_any _).mono ?_
    rintro e w3 ⟨rfl, hb3⟩
    have HB3 := hid (HB2.out.trans ((((Below.refl _ w2).alloc (Nat.le_refl _) (.cells (vmC R.s.pc (vS g 8 cap) R.s.halts R.s.fault) 25)).trans (hb3.mono (by rw [World.size_alloc]; omega))).mono HB2.out.size))
    clear hb3
    go_wp2_with fail
    refine (vmLives_any _).mono ?_
    rintro e w4 ⟨rfl, hb4⟩
    have HB4 := hid (HB3.out.trans (hb4.mono HB3.out.size))
    clear hb4
    go_wp2_with fail
    go_ret
    exact ⟨rfl, HB4.out⟩
end
end VmC
end Go.Proofs.Ytceflfdpbgnfjaa
