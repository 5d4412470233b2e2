/- VmOwn: what Run tells as memory whose cells are all ints; what came in and its clones; same. -/
import Derived.Test.YtceflfdpbgnfjaaVmXL
import Derived.Test.YtceflfdpbgnfjaaVmQ
import Derived.Test.YtceflfdpbgnfjaaSpanOw1
import Derived.Test.YtceflfdpbgnfjaaEqIs
set_option linter.unusedVariables false
namespace Go.Proofs.Ytceflfdpbgnfjaa
open Go.RowKit
open Go.Shelf Go.Sort
open SpanM hiding good
open SpanC IntsC
open RowsO hiding Em
namespace VmC
open VmP VmM
open NumC (Row)
/-- what a clone of instructions is -/
def Cl0 (w : World) (u : Value) (l : List In) : Prop := ∃ a c, u = .slice a l.length c ∧ Iss w a l
/-- what a clone of ints is -/
def Cl1 (w : World) (u : Value) (l : List Int) : Prop := ∃ a c, u = .slice a l.length c ∧ Row w a l
theorem Cl0.below {w w' : World} {u : Value} {l : List In} (h : Cl0 w u l) (hb : Below w.heap.size w w') : Cl0 w' u l := by
  obtain ⟨a, c, rfl, hs⟩ := h
  exact ⟨a, c, rfl, hs.below hb (Nat.le_refl _)⟩
theorem Cl1.below {w w' : World} {u : Value} {l : List Int} (h : Cl1 w u l) (hb : Below w.heap.size w w') : Cl1 w' u l := by
  obtain ⟨a, c, rfl, hs⟩ := h
  exact ⟨a, c, rfl, Row.below hs hb (Nat.le_refl _)⟩
theorem Cl0.set {w : World} {u : Value} {l : List In} (h : Cl0 w u l) {p : Addr} {v : Value} (hp : ∃ a n c, w.cell? p = some (.slice a n c)) : Cl0 (w.setCell p v) u l := by
  obtain ⟨a, c, rfl, hs⟩ := h
  refine ⟨a, c, rfl, ?_⟩
  rcases hs with hs | ⟨b, off, rfl, hs⟩
  · exact .inl hs
  · obtain ⟨pa, pn, pc, hp⟩ := hp
    refine .inr ⟨b, off, rfl, fun i hi => ?_⟩
    obtain ⟨h1, h2, h3⟩ := hs i hi
    refine ⟨(World.cell?_setCell_other _ _ _ _ ?_).trans h1, (World.cell?_setCell_other _ _ _ _ ?_).trans h2, (World.cell?_setCell_other _ _ _ _ ?_).trans h3⟩
    · rintro rfl; rw [hp] at h1; simp at h1
    · rintro rfl; rw [hp] at h2; simp at h2
    · rintro rfl; rw [hp] at h3; simp at h3
theorem Cl1.set {w : World} {u : Value} {l : List Int} (h : Cl1 w u l) {p : Addr} {v : Value} (hp : ∃ a n c, w.cell? p = some (.slice a n c)) : Cl1 (w.setCell p v) u l := by
  obtain ⟨a, c, rfl, hs⟩ := h
  refine ⟨a, c, rfl, ?_⟩
  rcases hs with hs | ⟨b, off, rfl, hs⟩
  · exact .inl hs
  · obtain ⟨pa, pn, pc, hp⟩ := hp
    refine .inr ⟨b, off, rfl, fun i hi => ?_⟩
    have h1 := hs i hi
    refine (World.cell?_setCell_other _ _ _ _ ?_).trans h1
    rintro rfl; rw [hp] at h1; simp at h1
/-- a slice of ints, its memory from block B on, all of its block's cells ints -/
def Kv (w : World) (B : Nat) (v : Value) : Prop := v = .slice none 0 0 ∨ ∃ g n cap cur, v = .slice (some ⟨g, 0, none⟩) n cap ∧ B ≤ g ∧ w.heap[g]? = some (.cells cur 3) ∧ n ≤ cap ∧ cap ≤ maxLen ∧ cur.size = cap ∧ ∀ u ∈ cur.toList, K.IntV u
theorem Kv.of {w : World} {B g cap : Nat} {l : List Int} (h : OwnI w B (vS g 8 cap) l) (hz : K.Zs w g) : Kv w B (vS g 8 cap) := by
  rcases h with ⟨_, ⟨e, _⟩ | ⟨g', cap', cur, e, hb, hg, h3, h4, h5, _⟩⟩
  · simp [vS] at e
  · simp only [vS, Value.slice.injEq, Option.some.injEq, Addr.mk.injEq] at e
    obtain ⟨⟨rfl, _⟩, hl, rfl⟩ := e
    obtain ⟨cur', e', h1, h2⟩ := hz
    rw [hg] at h1
    simp only [Option.some.injEq, Obj.cells.injEq] at h1
    obtain ⟨rfl, _⟩ := h1
    exact .inr ⟨g, 8, cap, cur, rfl, hb, hg, by omega, h4, by omega, h2⟩
theorem Kv.full {w : World} {B g : Nat} {l : List Int} (h : OwnI w B (vS g 8 8) l) : Kv w B (vS g 8 8) := by
  rcases h with ⟨_, ⟨e, _⟩ | ⟨g', cap', cur, e, hb, hg, h3, h4, h5, h6⟩⟩
  · simp [vS] at e
  · simp only [vS, Value.slice.injEq, Option.some.injEq, Addr.mk.injEq] at e
    obtain ⟨⟨rfl, _⟩, hl, rfl⟩ := e
    refine .inr ⟨g, 8, 8, cur, rfl, hb, hg, by omega, h4, by omega, fun u hu => ?_⟩
    rw [← hl, List.take_of_length_le (by simp; omega)] at h6
    rw [h6] at hu
    simp only [List.mem_map] at hu
    obtain ⟨z, _, rfl⟩ := hu
    exact ⟨z, rfl⟩
theorem Kv.below {w w' : World} {B C : Nat} {v : Value} (h : Kv w B v) (hb : Below C w w') (hC : w.heap.size ≤ C) : Kv w' B v := by
  rcases h with rfl | ⟨g, n, cap, cur, rfl, h1, h2, h3⟩
  · exact .inl rfl
  · have hlt : g < w.heap.size := (Array.getElem?_eq_some_iff.1 h2).1
    exact .inr ⟨g, n, cap, cur, rfl, h1, (hb.block g (Nat.lt_of_lt_of_le hlt hC)).trans h2, h3⟩
theorem Kv.base {w : World} {B C : Nat} {v : Value} (h : Kv w B v) (hC : C ≤ B) : Kv w C v := by
  rcases h with rfl | ⟨g, n, cap, cur, rfl, h1, h2⟩
  · exact .inl rfl
  · exact .inr ⟨g, n, cap, cur, rfl, by omega, h2⟩
theorem Kv.slice {w : World} {B : Nat} {v : Value} (h : Kv w B v) : ∃ a n c, v = .slice a n c := by
  rcases h with rfl | ⟨g, n, cap, cur, rfl, _⟩
  · exact ⟨_, _, _, rfl⟩
  · exact ⟨_, _, _, rfl⟩
theorem Kv.lt {w : World} {B : Nat} {v : Value} (h : Kv w B v) : ∀ q, v.ownBlock = some q → B ≤ q ∧ q < w.heap.size := by
  rcases h with rfl | ⟨g, n, cap, cur, rfl, h1, h2, _⟩
  · intro q hq; simp [Value.ownBlock] at hq
  · intro q hq
    simp only [Value.ownBlock, Option.some.injEq] at hq
    subst hq
    exact ⟨h1, (Array.getElem?_eq_some_iff.1 h2).1⟩
theorem Kv.cap {w : World} {B n cap : Nat} {a : Option Addr} (h : Kv w B (.slice a n cap)) : n ≤ cap ∧ cap ≤ maxLen := by
  rcases h with h | ⟨g, n', cap', cur, e, h1, h2, h3, h4, _⟩
  · simp at h
    obtain ⟨rfl, rfl, rfl⟩ := h
    exact ⟨Nat.le_refl _, by unfold maxLen; omega⟩
  · simp at e
    obtain ⟨rfl, rfl, rfl⟩ := e
    exact ⟨h3, h4⟩
theorem Kv.get {w : World} {B g n cap : Nat} (h : Kv w B (.slice (some ⟨g, 0, none⟩) n cap)) {i : Nat} (hi : i < cap) : ∃ z, w.cell? ⟨g, i, none⟩ = some (.int .i64 z) ∧ w.frozen? ⟨g, i, none⟩ = false := by
  rcases h with h | ⟨g', n', cap', cur, e, h1, h2, h3, h4, h5, h6⟩
  · simp at h
  · simp only [Value.slice.injEq, Option.some.injEq, Addr.mk.injEq] at e
    obtain ⟨⟨rfl, _⟩, rfl, rfl⟩ := e
    have hlt : i < cur.size := by omega
    obtain ⟨z, hz⟩ := h6 cur[i] (by simp)
    refine ⟨z, ?_, froz_box h2 i⟩
    rw [box_cell h2, Array.getElem?_eq_getElem hlt, hz]
theorem Kv.set {w : World} {B g n cap : Nat} (h : Kv w B (.slice (some ⟨g, 0, none⟩) n cap)) (j : Nat) (z : Int) : Kv (w.setCell ⟨g, j, none⟩ (.int .i64 z)) B (.slice (some ⟨g, 0, none⟩) n cap) := by
  rcases h with h | ⟨g', n', cap', cur, e, h1, h2, h3, h4, h5, h6⟩
  · simp at h
  · simp only [Value.slice.injEq, Option.some.injEq, Addr.mk.injEq] at e
    obtain ⟨⟨rfl, _⟩, rfl, rfl⟩ := e
    refine .inr ⟨g, n, cap, _, rfl, h1, heap_setCell_same _ _ _ _ _ _ h2, h3, h4, by simpa using h5, fun u hu => ?_⟩
    rw [Array.toList_setIfInBounds] at hu
    rcases List.mem_or_eq_of_mem_set hu with q | q
    · exact h6 u q
    · exact ⟨z, q⟩
theorem Kv.other {w : World} {B : Nat} {v : Value} (h : Kv w B v) {b : Nat} (hne : ∀ q, v.ownBlock = some q → q ≠ b) (j : Nat) (u : Value) : Kv (w.setCell ⟨b, j, none⟩ u) B v := by
  rcases h with rfl | ⟨g, n, cap, cur, rfl, h1, h2, h3⟩
  · exact .inl rfl
  · exact .inr ⟨g, n, cap, cur, rfl, h1, (heap_setCell_other _ _ _ _ (hne g rfl)).trans h2, h3⟩
theorem Row.other {w : World} {g b : Nat} {l : List Int} (h : Row w (some ⟨g, 0, none⟩) l) (hne : g ≠ b) (j : Nat) (u : Value) : Row (w.setCell ⟨b, j, none⟩ u) (some ⟨g, 0, none⟩) l := by
  rcases h with h | ⟨b', off, e, h⟩
  · exact .inl h
  · simp only [Option.some.injEq, Addr.mk.injEq] at e
    obtain ⟨rfl, rfl, _⟩ := e
    exact .inr ⟨g, 0, rfl, fun i hi => (World.cell?_setCell_other _ _ _ _ (by intro q; simp only [Addr.mk.injEq] at q; exact hne q.1.symm)).trans (h i hi)⟩
theorem KX.other {w : World} {bx g cap b : Nat} {s : St} (h : KX w bx s g cap) (h1 : bx ≠ b) (h2 : g ≠ b) (j : Nat) (u : Value) : KX (w.setCell ⟨b, j, none⟩ u) bx s g cap :=
  ⟨(heap_setCell_other _ _ _ _ h1).trans h.box, Row.other h.row h2 j u, h.len⟩
/-- Run, whatever the input -/
theorem run_tel (pc : Int) (pa ra ia : Option Addr) (pcap rc ic : Nat) (p : List In) (l i : List Int) (h f : Bool) (fuel : Int) (w : World)
    (hp : Iss w pa p) (hr : Row w ra l) (hl : l.length ≤ maxLen) (hi : Row w ia i) (hil : i.length ≤ maxLen) (hpl : p.length ≤ maxLen) :
    Calls Try.prog 8 #[.slice pa p.length pcap, .agg (vmC pc (.slice ra l.length rc) h f), .slice ia i.length ic, .int .i64 fuel] w fun e w' => (∃ pcx v hx fx oa on oc t u er, e = .returned (.tuple #[.agg (vmC pcx v hx fx), .slice oa on oc, .int .i64 t, .int .i64 u, .int .i64 er]) ∧ Kv w' w.heap.size v) ∧ Below w.heap.size w w' := by
  by_cases hE : rE p ⟨pc, l, h, f⟩ i fuel = 0
  · refine (K.Run_yes pc pa ra ia pcap rc ic p l i h f fuel w hp hr hl hi hil hpl hE).mono fun e w' q => ⟨?_, q.2⟩
    obtain ⟨v, o, took, used, rfl, g, cap, hv, h1, h2, h3, h4, h5⟩ := q.1
    obtain ⟨oa, oc, ho⟩ := OwnEm.len h2
    rw [ho]
    exact ⟨_, _, _, _, oa, _, oc, took, used, 0, by rw [hv], Kv.of h1 h5⟩
  · refine (Run_no pc pa ra ia pcap rc ic p l i h f fuel w hp hr hl hi hil hpl hE).mono fun e w' q => ⟨?_, q.2⟩
    obtain ⟨rfl⟩ := q.1
    exact ⟨_, _, _, _, _, _, _, _, _, _, rfl, .inl rfl⟩
/-- what came in, and the clones, in memory -/
structure OW (w W : World) (pa ra ia xa xr xi : Option Addr) (pcap rc ic dp dr di b9 b10 b11 : Nat) (p : List In) (l i : List Int) (pc : Int) (h f : Bool) : Prop where
  be : Below w.heap.size w W
  e0 : W.cell? ⟨w.heap.size, 0, none⟩ = some (.slice pa p.length pcap)
  g0 : W.cell? ⟨w.heap.size + 1, 0, none⟩ = some (.int .i64 pc)
  g1 : W.cell? ⟨w.heap.size + 1, 1, none⟩ = some (.slice ra l.length rc)
  g2 : W.cell? ⟨w.heap.size + 1, 2, none⟩ = some (.bool h)
  g3 : W.cell? ⟨w.heap.size + 1, 3, none⟩ = some (.bool f)
  i0 : W.cell? ⟨w.heap.size + 1 + 1, 0, none⟩ = some (.slice ia i.length ic)
  x9 : W.cell? ⟨b9, 0, none⟩ = some (.slice xa p.length dp)
  x10 : W.cell? ⟨b10, 0, none⟩ = some (.slice xr l.length dr)
  x11 : W.cell? ⟨b11, 0, none⟩ = some (.slice xi i.length di)
  p1 : Iss W xa p
  p2 : Row W xr l
  p3 : Row W xi i
section
variable {w W W' : World} {pa ra ia xa xr xi : Option Addr} {pcap rc ic dp dr di b9 b10 b11 : Nat} {p : List In} {l i : List Int} {pc : Int} {h f : Bool}
theorem OW.step (k : OW w W pa ra ia xa xr xi pcap rc ic dp dr di b9 b10 b11 p l i pc h f) (hb : Below W.heap.size W W') : OW w W' pa ra ia xa xr xi pcap rc ic dp dr di b9 b10 b11 p l i pc h f where
  be := k.be.trans (hb.mono k.be.size)
  e0 := (hb.cell (World.block_lt_of_cell? _ _ k.e0)).trans k.e0
  g0 := (hb.cell (World.block_lt_of_cell? _ _ k.g0)).trans k.g0
  g1 := (hb.cell (World.block_lt_of_cell? _ _ k.g1)).trans k.g1
  g2 := (hb.cell (World.block_lt_of_cell? _ _ k.g2)).trans k.g2
  g3 := (hb.cell (World.block_lt_of_cell? _ _ k.g3)).trans k.g3
  i0 := (hb.cell (World.block_lt_of_cell? _ _ k.i0)).trans k.i0
  x9 := (hb.cell (World.block_lt_of_cell? _ _ k.x9)).trans k.x9
  x10 := (hb.cell (World.block_lt_of_cell? _ _ k.x10)).trans k.x10
  x11 := (hb.cell (World.block_lt_of_cell? _ _ k.x11)).trans k.x11
  p1 := k.p1.below hb (Nat.le_refl _)
  p2 := Row.below k.p2 hb (Nat.le_refl _)
  p3 := Row.below k.p3 hb (Nat.le_refl _)
set_option maxHeartbeats 1000000 in
theorem same_tel (k : OW w W pa ra ia xa xr xi pcap rc ic dp dr di b9 b10 b11 p l i pc h f) (hA : AR w pa ra ia p l i) :
    Calls Try.prog 22 #[.pointer (some ⟨w.heap.size, 0, none⟩), .pointer (some ⟨b9, 0, none⟩), .pointer (some ⟨w.heap.size + 1, 0, none⟩), .pointer (some ⟨b10, 0, none⟩), .pointer (some ⟨w.heap.size + 1 + 1, 0, none⟩), .pointer (some ⟨b11, 0, none⟩)] W fun e w' => e = .returned (.bool true) ∧ Below W.heap.size W w' := by
  have E1 := hid (fun V (hb : Below W.heap.size W V) => equalIs_any pa xa pcap dp p p V (hA.below (k.step hb).be).hp (k.step hb).p1 hA.pl)
  have E2 := hid (fun V (hb : Below W.heap.size W V) => iequalL_any ra xr rc dr l l V (hA.below (k.step hb).be).hr (k.step hb).p2 hA.rl)
  have E3 := hid (fun V (hb : Below W.heap.size W V) => iequalL_any ia xi ic di i i V (hA.below (k.step hb).be).hi (k.step hb).p3 hA.il)
  simp only [decide_true] at E1 E2 E3
  have OB0 := hid k
  obtain ⟨_, e0, g0, g1, g2, g3, i0, x9, x10, x11, _, _, _⟩ := k
  clear hA
  go_enter Try.func22, Try.ntmps22
  go_wp2_with fail
  refine (E1.out _ (Below.refl _ _)).mono ?_
  rintro e w1 ⟨rfl, b1⟩
  have OB1 := hid (OB0.out.step b1)
  have B1 := hid b1
  clear e0 g0 g1 g2 g3 i0 x9 x10 x11 b1
  obtain ⟨_, e0, g0, g1, g2, g3, i0, x9, x10, x11, _, _, _⟩ := OB1.out
  go_wp2_with fail
  refine (E2.out _ B1.out).mono ?_
  rintro e w2 ⟨rfl, b2⟩
  have OB2 := hid (OB1.out.step b2)
  have B2 := hid (B1.out.trans (b2.mono B1.out.size))
  clear e0 g0 g1 g2 g3 i0 x9 x10 x11 b2
  obtain ⟨_, e0, g0, g1, g2, g3, i0, x9, x10, x11, _, _, _⟩ := OB2.out
  go_wp2_with fail
  refine (E3.out _ B2.out).mono ?_
  rintro e w3 ⟨rfl, b3⟩
  have B3 := hid (B2.out.trans (b3.mono B2.out.size))
  clear e0 g0 g1 g2 g3 i0 x9 x10 x11 b3
  go_wp2_with fail
  go_ret
  exact ⟨by first | rfl | simp, B3.out⟩
end
end VmC
end Go.Proofs.Ytceflfdpbgnfjaa
